/- Parts of several texts of mine in one file (each begins with its own remark). -/
import Derived.Test.YtibekkfbpmloiaaDoorCA1
import Derived.Test.YtibekkfbpmloiaaDoorCA2
import Derived.Test.YtibekkfbpmloiaaDoorCA3
import Derived.Test.YtibekkfbpmloiaaDoorChecked
import Derived.Test.YtibekkfbpmloiaaDoorShelf
import Derived.Laws.OwnMore
import Derived.BigQuiet
import Derived.BigRegion
import Derived.Deep.QuietTactic
import Derived.Deep.RegionHeld3
import Derived.Deep.Slices
import Derived.OpenShut
import Derived.ShutString
import Derived.ChangeArms
import Derived.WideShapes
import Derived.Lib.LaidTab
import Derived.StillTailTactics
import Derived.Deep.Draws
import Derived.Deep.LoopGhost
import Derived.WalkKit
import Derived.WalkSpells
import Derived.WalkSmall
import Derived.Lib.OthersKept
import Derived.Lib.Hide
import Derived.Lib.Strings
import Derived.Lib.Join
import Derived.Laws.BytesArg
/- Slices of records in memory of their own: what is written into one; the laws' own size, copy and comparison of such slices. -/
namespace Go.Proofs.YtibekkfbpmloiaaDoor.Recs
set_option maxRecDepth 100000
open Go.RowKit Paths

/-- A record's five cells. -/
def R.cs (r : R) : List Value := [.int .i64 r.k, .string r.p, .string r.b, .int .i64 r.m, .bool r.o]
def flat (l : List R) : List Value := l.flatMap R.cs
theorem flat_len (l : List R) : (flat l).length = l.length * 5 := by
  induction l with
  | nil => rfl
  | cons r t ih => simp only [flat, List.flatMap_cons, List.length_append, List.length_cons] at ih ⊢; rw [ih]; simp [R.cs]; omega
theorem flat_get : ∀ (l : List R) (j : Nat), (flat l)[j]? = (l[j / 5]?).bind fun r => r.cs[j % 5]?
  | [], j => by simp [flat]
  | r :: t, j => by
    have ih := flat_get t (j - 5)
    by_cases hj : j < 5
    · have e1 : j / 5 = 0 := by omega
      have e2 : j % 5 = j := by omega
      rw [e1, e2]
      simp only [flat, List.flatMap_cons]
      rw [List.getElem?_append_left (by simp [R.cs]; omega)]
      simp
    · have e1 : j / 5 = (j - 5) / 5 + 1 := by omega
      have e2 : j % 5 = (j - 5) % 5 := by omega
      rw [e1, e2]
      simp only [flat, List.flatMap_cons]
      rw [List.getElem?_append_right (by simp [R.cs]; omega)]
      simp only [R.cs, List.length_cons, List.length_nil]
      exact ih
theorem flat_field {M : List R} {i c : Nat} {r : R} {u : Value} (hi : i < M.length) (hc : c < 5) (h : r.cs = M[i].cs.set c u) : flat (M.set i r) = (flat M).set (i * 5 + c) u := by
  apply List.ext_getElem?
  intro j
  rw [flat_get, List.getElem?_set, List.getElem?_set, flat_len, flat_get]
  by_cases hj : i = j / 5
  · rw [if_pos hj, if_pos (by omega)]
    simp only [Option.bind_some]
    rw [h, List.getElem?_set]
    by_cases hk : c = j % 5
    · rw [if_pos hk, if_pos (by simp [R.cs]; omega), if_pos (by omega), if_pos (by omega)]
    · rw [if_neg hk, if_neg (by omega), ← hj, List.getElem?_eq_getElem hi]
      rfl
  · rw [if_neg hj, if_neg (by omega)]

/-- A slice in memory of its own that holds the records M. -/
def RowOf (w : World) (base : Nat) (v : Value) (n : Nat) (M : List R) : Prop := M.length = n ∧ w.ownsRow base 25 5 v n (flat M)
theorem RowOf.below {w w' : World} {base : Nat} {v : Value} {n : Nat} {M : List R} (h : RowOf w base v n M) (hb : Below w.heap.size w w') : RowOf w' base v n M := ⟨h.1, own_below h.2 hb⟩
theorem RowOf.sl {w : World} {base : Nat} {v : Value} {n : Nat} {M : List R} (h : RowOf w base v n M) : RecSl w v M := by
  obtain ⟨rfl, h⟩ := h
  rcases h.2 with ⟨rfl, hn⟩ | ⟨g, cap, cur, rfl, hb, hg, hc, _⟩
  · exact ⟨none, 0, by rw [hn], by omega, fun h => by omega⟩
  · refine ⟨_, cap, rfl, hc, fun _ => ⟨g, 0, rfl, (Array.getElem?_eq_some_iff.1 hg).1, fun i r hi => ?_⟩⟩
    have hlt : i < M.length := (List.getElem?_eq_some_iff.1 hi).1
    have one : ∀ c, c < 5 → w.cell? ⟨g, i * 5 + c, none⟩ = r.cs[c]? := fun c hc => by
      rw [h.cellAt (i * 5 + c) (by omega), flat_get]
      have e1 : (i * 5 + c) / 5 = i := by omega
      have e2 : (i * 5 + c) % 5 = c := by omega
      rw [e1, e2, hi]
      rfl
    rw [Nat.zero_add]
    exact ⟨one 0 (by omega), one 1 (by omega), one 2 (by omega), one 3 (by omega), one 4 (by omega)⟩
theorem RowOf.field {w : World} {base g cap n : Nat} {M : List R} {i c : Nat} {r : R} {u : Value} (h : RowOf w base (.slice (some ⟨g, 0, none⟩) n cap) n M) (hi : i < M.length) (hc : c < 5) (hr : r.cs = M[i].cs.set c u) :
    RowOf (w.setCell ⟨g, i * 5 + c, none⟩ u) base (.slice (some ⟨g, 0, none⟩) n cap) n (M.set i r) ∧ w.grownBy (w.setCell ⟨g, i * 5 + c, none⟩ u) (some g) := by
  obtain ⟨h1, h2⟩ := h.2.stored (i * 5 + c) u
  exact ⟨⟨by rw [List.length_set]; exact h.1, by rw [flat_field hi hc hr]; exact h1⟩, h2⟩
theorem RowOf.frozen {w : World} {base g cap n : Nat} {M : List R} (h : RowOf w base (.slice (some ⟨g, 0, none⟩) n cap) n M) (j : Nat) : w.frozen? ⟨g, j, none⟩ = false := h.2.frozenAt j
theorem RowOf.cells {w : World} {base g cap n : Nat} {M : List R} (h : RowOf w base (.slice (some ⟨g, 0, none⟩) n cap) n M) {i : Nat} (hi : i < M.length) : RecCells w g (i * 5) M[i] := by
  have one : ∀ c, c < 5 → w.cell? ⟨g, i * 5 + c, none⟩ = M[i].cs[c]? := fun c hc => by
    rw [h.2.cellAt (i * 5 + c) (by rw [← h.1]; omega), flat_get]
    have e1 : (i * 5 + c) / 5 = i := by omega
    have e2 : (i * 5 + c) % 5 = c := by omega
    rw [e1, e2, List.getElem?_eq_getElem hi]
    rfl
  exact ⟨one 0 (by omega), one 1 (by omega), one 2 (by omega), one 3 (by omega), one 4 (by omega)⟩
/-- A whole record written. -/
theorem RowOf.store {w : World} {base g cap n : Nat} {M : List R} {i : Nat} (r : R) (h : RowOf w base (.slice (some ⟨g, 0, none⟩) n cap) n M) (hi : i < M.length) :
    RowOf (((((w.setCell ⟨g, i * 5, none⟩ (.int .i64 r.k)).setCell ⟨g, i * 5 + 1, none⟩ (.string r.p)).setCell ⟨g, i * 5 + 2, none⟩ (.string r.b)).setCell ⟨g, i * 5 + 3, none⟩ (.int .i64 r.m)).setCell ⟨g, i * 5 + 4, none⟩ (.bool r.o)) base (.slice (some ⟨g, 0, none⟩) n cap) n (M.set i r) ∧
    w.grownBy (((((w.setCell ⟨g, i * 5, none⟩ (.int .i64 r.k)).setCell ⟨g, i * 5 + 1, none⟩ (.string r.p)).setCell ⟨g, i * 5 + 2, none⟩ (.string r.b)).setCell ⟨g, i * 5 + 3, none⟩ (.int .i64 r.m)).setCell ⟨g, i * 5 + 4, none⟩ (.bool r.o)) (some g) := by
  obtain ⟨a1, b1⟩ := h.field (i := i) (c := 0) (r := { M[i] with k := r.k }) (u := .int .i64 r.k) hi (by omega) rfl
  obtain ⟨a2, b2⟩ := a1.field (i := i) (c := 1) (r := { M[i] with k := r.k, p := r.p }) (u := .string r.p) (by simpa using hi) (by omega) (by simp [R.cs])
  obtain ⟨a3, b3⟩ := a2.field (i := i) (c := 2) (r := { M[i] with k := r.k, p := r.p, b := r.b }) (u := .string r.b) (by simpa using hi) (by omega) (by simp [R.cs])
  obtain ⟨a4, b4⟩ := a3.field (i := i) (c := 3) (r := { M[i] with k := r.k, p := r.p, b := r.b, m := r.m }) (u := .int .i64 r.m) (by simpa using hi) (by omega) (by simp [R.cs])
  obtain ⟨a5, b5⟩ := a4.field (i := i) (c := 4) (r := r) (u := .bool r.o) (by simpa using hi) (by omega) (by simp [R.cs])
  refine ⟨?_, grown_trans (grown_trans (grown_trans (grown_trans b1 b2) b3) b4) b5⟩
  simp only [List.set_set] at a5
  exact a5

theorem RowOf.ne {w : World} {base : Nat} {v : Value} {n : Nat} {M : List R} (h : RowOf w base v n M) : v.ownBlock ≠ some w.heap.size := fun e => by
  have := (h.2.lt _ e).2
  omega
theorem RowOf.form {w : World} {base : Nat} {v : Value} {n : Nat} {M : List R} (h : RowOf w base v n M) : ∃ A cap, v = .slice A n cap := own_form h.2

end Go.Proofs.YtibekkfbpmloiaaDoor.Recs

/- The laws' own copy of a slice of records, its size, its comparison. -/
namespace Go.Proofs.YtibekkfbpmloiaaDoor.Recs
set_option maxRecDepth 100000
open Go.RowKit Paths

theorem recInfo : (Tryd.prog.info? 25).map (fun i => (i.zero, i.size, i.bytes)) = some (some (.agg #[.int .i64 0, .string ByteArray.empty, .string ByteArray.empty, .int .i64 0, .bool false]), 5, 56) := by kernel_rfl
def zR : R := ⟨0, 0, ByteArray.empty, ByteArray.empty, false⟩
theorem made_flat (n : Nat) : (madeCells (Value.agg #[.int .i64 0, .string ByteArray.empty, .string ByteArray.empty, .int .i64 0, .bool false]).cells (n * 5)).toList = flat (List.replicate n zR) := by
  apply List.ext_getElem?
  intro j
  rw [flat_get]
  by_cases hj : j < n * 5
  · have h1 : j / 5 < n := by omega
    rw [List.getElem?_replicate, if_pos h1]
    have h5 : j % 5 < 5 := Nat.mod_lt _ (by omega)
    have e : j % 5 = 0 ∨ j % 5 = 1 ∨ j % 5 = 2 ∨ j % 5 = 3 ∨ j % 5 = 4 := by omega
    rcases e with e | e | e | e | e <;> simp [madeCells, hj, Value.cells, R.cs, zR, e]
  · have h1 : ¬ j / 5 < n := by omega
    rw [List.getElem?_replicate, if_neg h1]
    simp [madeCells, hj]

theorem set_take {M l : List R} {j : Nat} (hm : j < M.length) (hl : j < l.length) (h : M.take j = l.take j) : (M.set j l[j]).take (j + 1) = l.take (j + 1) := by
  rw [List.take_succ_eq_append_getElem (by simpa using hm), List.take_succ_eq_append_getElem hl, List.take_set, List.set_eq_of_length_le (by rw [List.length_take]; omega), h]
  simp

set_option maxHeartbeats 800000 in
theorem toRecordS_any (v : Value) (l : List R) (w : World) (h : RecSl w v l) (hl : l.length ≤ 1048576) :
    Calls Tryd.prog 14 #[v] w fun e w' => ∃ x, e = .returned x ∧ Below w.heap.size w w' ∧ RowOf w' w.heap.size x l.length l := by
  obtain ⟨i0, hi, hz0, hz1, hz2⟩ := info_parts recInfo
  obtain ⟨A, cap, rfl, hcap, h⟩ := h
  have H := Lib.hid h
  clear h
  obtain ⟨w0, hr, hown, hg⟩ := run_make_full (P := Tryd.prog) w w.heap.size 39 25 i0 _ 5 Tryd.underlying39 hi hz0 hz1 .i64 .i64 l.length (by rw [hz2]; omega) (by unfold maxLen; omega) (Nat.le_refl _)
  rw [made_flat] at hown
  have hrow : RowOf w0 w.heap.size (.slice (some ⟨w.heap.size, 0, none⟩) l.length l.length) l.length (List.replicate l.length zR) := ⟨by simp, hown⟩
  have hb0 : Below w.heap.size w w0 := (Below.refl _ _).grown hg (Nat.le_refl _) (fun k hk => by cases hk)
  clear hown hg
  go_enter Tryd.func14, Tryd.ntmps14
  go_wp2
  go_loopw [4] (fun i wr => ∃ (j : Nat) (M : List R), j ≤ l.length ∧ i = .int .i64 j ∧ RowOf wr w.heap.size (.slice (some ⟨w.heap.size, 0, none⟩) l.length l.length) l.length M ∧ Hid (M.take j = l.take j) ∧ Below w.heap.size w wr) (fun i _ => l.length - (intOf i).toNat)
  case atStart => exact ⟨0, _, by omega, rfl, hrow, rfl, hb0⟩
  case round =>
    obtain ⟨j, M, hj, rfl, hrj, HM, hbw⟩ := hrel
    by_cases hlt : j < l.length
    · obtain ⟨b, off, rfl, hb, hcell⟩ := H.out (by omega)
      obtain ⟨c0, c1, c2, c3, c4⟩ := (hcell j l[j] (by simp [hlt])).below hbw hb
      clear hcell
      have hi1 : (j : Int) < (l.length : Int) := by omega
      have hi0 : (0 : Int) ≤ (j : Int) := by omega
      go_wp2_with fail
      refine (toRecord_any _ _ _ _ _ _).mono ?_
      rintro e w1 ⟨rfl, hb1⟩
      have hr1 := hrj.below hb1
      have hm : j < M.length := by rw [hrj.1]; exact hlt
      obtain ⟨d0, d1, d2, d3, d4⟩ := hr1.cells hm
      have hf := hr1.frozen
      have HS := Lib.hid (hr1.store l[j] hm)
      have HT := Lib.hid (set_take hm hlt HM.out)
      have hbw1 := hbw.trans (hb1.mono hbw.size)
      clear hr1 c0 c1 c2 c3 c4
      go_wp2
      go_roundw
      case rel => exact ⟨j + 1, _, by omega, by go_num, HS.out.1, HT, hbw1.grown HS.out.2 hbw1.size (fun k hk => by cases hk; exact Nat.le_refl _)⟩
      case measure => simp [intOf]; omega
    · obtain rfl : j = l.length := by omega
      go_wp2
      go_ret
      refine ⟨_, rfl, hbw, ?_⟩
      have := HM.out
      rw [List.take_of_length_le (by rw [hrj.1]; exact Nat.le_refl _), List.take_of_length_le (Nat.le_refl _)] at this
      subst this
      exact hrj

set_option maxHeartbeats 800000 in
theorem eqRecordS_same (v1 v2 : Value) (l : List R) (w : World) (h1 : RecSl w v1 l) (h2 : RecSl w v2 l) (hl : l.length ≤ 1048576) :
    Calls Tryd.prog 17 #[v1, v2] w fun e w' => e = .returned (.bool true) ∧ Below w.heap.size w w' := by
  obtain ⟨A1, cap1, rfl, hcap1, h1⟩ := h1
  obtain ⟨A2, cap2, rfl, hcap2, h2⟩ := h2
  have H1 := Lib.hid h1
  have H2 := Lib.hid h2
  clear h1 h2
  go_enter Tryd.func17, Tryd.ntmps17
  go_wp2
  go_loopw [5] (fun i wr => ∃ (j : Nat), j ≤ l.length ∧ i = .int .i64 j ∧ Below w.heap.size w wr) (fun i _ => l.length - (intOf i).toNat)
  case atStart => exact ⟨0, by omega, rfl, Below.refl _ _⟩
  case round =>
    obtain ⟨j, hj, rfl, hbw⟩ := hrel
    by_cases hlt : j < l.length
    · obtain ⟨b1, off1, rfl, hb1, hcell1⟩ := H1.out (by omega)
      obtain ⟨b2, off2, rfl, hb2, hcell2⟩ := H2.out (by omega)
      obtain ⟨c0, c1, c2, c3, c4⟩ := (hcell1 j l[j] (by simp [hlt])).below hbw hb1
      obtain ⟨d0, d1, d2, d3, d4⟩ := (hcell2 j l[j] (by simp [hlt])).below hbw hb2
      clear hcell1 hcell2
      have hi1 : (j : Int) < (l.length : Int) := by omega
      have hi0 : (0 : Int) ≤ (j : Int) := by omega
      go_wp2_with fail
      go_still_tail 8, (by kernel_rfl)
      change wpList _ _ _ _ _ wr.drew
      have hbw' : Below w.heap.size w wr.drew := hbw.drew
      clear hbw
      generalize wr.drew = W2 at *
      go_wp2_with fail
      refine (eqRecord_any _ _ _ _ _ _).mono ?_
      rintro e w1 ⟨rfl, hb1⟩
      go_wp2_with fail
      go_roundw
      case rel => exact ⟨j + 1, by omega, by go_num, hbw'.trans (hb1.mono hbw'.size)⟩
      case measure => simp [intOf]; omega
    · obtain rfl : j = l.length := by omega
      go_wp2
      go_ret
      exact ⟨rfl, hbw⟩
end Go.Proofs.YtibekkfbpmloiaaDoor.Recs

/- Combining many layers, plain: the highest layer that cuts a path off; the records considered at a path; what is seen there. -/
namespace Go.Proofs.YtibekkfbpmloiaaDoor.Recs
set_option maxRecDepth 100000
open Go.RowKit Paths

/-- The number of the highest layer that cuts a path off, highest layer first. -/
def cutR : List (List R) → ByteArray → Nat
  | [], _ => 0
  | l :: s, q => if cutsL l q then s.length + 1 else cutR s q
def cutD (LL : List (List R)) (q : ByteArray) : Nat := cutR LL.reverse q
theorem cut_snoc (M : List (List R)) (l : List R) (q : ByteArray) : cutD (M ++ [l]) q = if cutsL l q then M.length + 1 else cutD M q := by
  unfold cutD
  rw [List.reverse_append]
  show cutR (l :: M.reverse) q = _
  rw [cutR, List.length_reverse]
theorem cut_take {LL : List (List R)} {k : Nat} (h : k < LL.length) (q : ByteArray) : cutD (LL.take (k + 1)) q = if cutsL LL[k] q then k + 1 else cutD (LL.take k) q := by
  rw [List.take_succ_eq_append_getElem h, cut_snoc, List.length_take, Nat.min_eq_left (by omega)]
theorem cutR_le : ∀ (s : List (List R)) (q : ByteArray), cutR s q ≤ s.length
  | [], _ => Nat.le_refl _
  | l :: s, q => by
    rw [cutR]
    have := cutR_le s q
    split
    · exact Nat.le_refl _
    · simp only [List.length_cons]; omega
theorem cut_le (LL : List (List R)) (q : ByteArray) : cutD LL q ≤ LL.length := by
  have := cutR_le LL.reverse q
  rw [List.length_reverse] at this
  exact this

/-- The records of a path, with the numbers of their layers. -/
def grpN : List (List R) → Nat → ByteArray → List (R × Nat)
  | [], _, _ => []
  | l :: s, n, q => match recAt l q with
    | some r => (r, n + 1) :: grpN s (n + 1) q
    | none => grpN s (n + 1) q
theorem grpN_append : ∀ (a b : List (List R)) (n : Nat) (q : ByteArray), grpN (a ++ b) n q = grpN a n q ++ grpN b (n + a.length) q
  | [], b, n, q => rfl
  | l :: a, b, n, q => by
    have ih := grpN_append a b (n + 1) q
    simp only [List.cons_append, grpN]
    rw [ih]
    have e : n + 1 + a.length = n + (l :: a).length := by simp only [List.length_cons]; omega
    rw [e]
    cases recAt l q <;> rfl
theorem grpN_num : ∀ (s : List (List R)) (n : Nat) (q : ByteArray), ∀ p ∈ grpN s n q, n < p.2 ∧ p.2 ≤ n + s.length
  | [], _, _, _, h => by cases h
  | l :: s, n, q, p, h => by
    simp only [grpN] at h
    have ih := grpN_num s (n + 1) q
    simp only [List.length_cons]
    cases hr : recAt l q with
    | none =>
      rw [hr] at h
      have := ih p h
      omega
    | some r =>
      rw [hr] at h
      rcases List.mem_cons.1 h with rfl | h
      · dsimp only; omega
      · have := ih p h
        omega
theorem grpN_mem : ∀ (s : List (List R)) (n : Nat) (q : ByteArray), ∀ p ∈ grpN s n q, p.1.p = q ∧ ∃ h : p.2 - n - 1 < s.length, p.1 ∈ s[p.2 - n - 1]
  | [], _, _, _, h => by cases h
  | l :: s, n, q, p, h => by
    simp only [grpN] at h
    have ih := grpN_mem s (n + 1) q
    have tl : p ∈ grpN s (n + 1) q → p.1.p = q ∧ ∃ h : p.2 - n - 1 < (l :: s).length, p.1 ∈ (l :: s)[p.2 - n - 1] := fun h => by
      obtain ⟨h1, h2, h3⟩ := ih p h
      have h4 := grpN_num s (n + 1) q p h
      have e : p.2 - n - 1 = p.2 - (n + 1) - 1 + 1 := by omega
      refine ⟨h1, by rw [e]; simp only [List.length_cons]; omega, ?_⟩
      have e2 : (l :: s)[p.2 - n - 1]? = some s[p.2 - (n + 1) - 1] := by rw [e, List.getElem?_cons_succ, List.getElem?_eq_getElem h2]
      have e3 := (List.getElem?_eq_some_iff.1 e2).2
      rw [e3]
      exact h3
    cases hr : recAt l q with
    | none =>
      rw [hr] at h
      exact tl h
    | some r =>
      rw [hr] at h
      rcases List.mem_cons.1 h with rfl | h
      · obtain ⟨h1, h2⟩ := recAt_mem hr
        have e : n + 1 - n - 1 = 0 := by omega
        refine ⟨h2, by dsimp only; rw [e]; simp, ?_⟩
        dsimp only
        have e2 : (l :: s)[n + 1 - n - 1]? = some l := by rw [e]; rfl
        have e3 := (List.getElem?_eq_some_iff.1 e2).2
        rw [e3]
        exact h1
      · exact tl h
def grp (LL : List (List R)) (q : ByteArray) : List (R × Nat) := grpN LL 0 q
theorem grp_take {LL : List (List R)} {k : Nat} (h : k < LL.length) (q : ByteArray) : grp (LL.take (k + 1)) q = match recAt LL[k] q with | some r => grp (LL.take k) q ++ [(r, k + 1)] | none => grp (LL.take k) q := by
  unfold grp
  rw [List.take_succ_eq_append_getElem h, grpN_append, List.length_take, Nat.min_eq_left (by omega), Nat.zero_add]
  simp only [grpN]
  cases recAt LL[k] q
  · exact List.append_nil _
  · rfl
/-- Those of the layers from the one that cuts the path off upwards. -/
def consd (LL : List (List R)) (q : ByteArray) : List (R × Nat) := grpN (LL.drop (cutD LL q - 1)) (cutD LL q - 1) q
theorem consd_filter (LL : List (List R)) (q : ByteArray) : consd LL q = (grp LL q).filter fun p => decide (cutD LL q ≤ p.2) := by
  have hc := cut_le LL q
  unfold consd
  generalize cutD LL q = c at *
  have e : grp LL q = grpN (LL.take (c - 1)) 0 q ++ grpN (LL.drop (c - 1)) (c - 1) q := by
    have := grpN_append (LL.take (c - 1)) (LL.drop (c - 1)) 0 q
    rw [List.take_append_drop, List.length_take, Nat.min_eq_left (by omega), Nat.zero_add] at this
    exact this
  rw [e, List.filter_append]
  have h1 : (grpN (LL.take (c - 1)) 0 q).filter (fun p => decide (c ≤ p.2)) = [] := by
    rw [List.filter_eq_nil_iff]
    intro p hp
    have := grpN_num _ _ _ p hp
    rw [List.length_take] at this
    simp only [decide_eq_true_eq]
    omega
  have h2 : (grpN (LL.drop (c - 1)) (c - 1) q).filter (fun p => decide (c ≤ p.2)) = grpN (LL.drop (c - 1)) (c - 1) q := by
    rw [List.filter_eq_self]
    intro p hp
    have := grpN_num _ _ _ p hp
    simp only [decide_eq_true_eq]
    omega
  rw [h1, h2, List.nil_append]
/-- The last of them; a directory is opaque if one of them stops. -/
def overC (C : List (R × Nat)) : R × Nat := match C.getLast? with
  | none => (zR, 0)
  | some p => (if p.1.k = 3 ∧ C.any (fun x => stops x.1) = true then { p.1 with o := true } else p.1, p.2)
def winC (LL : List (List R)) (q : ByteArray) : R × Nat := overC (consd LL q)

/-- The program's way: from the lowest on. -/
def wst (cut : Nat) (st : (R × Nat) × Bool) (p : R × Nat) : (R × Nat) × Bool := if cut ≤ p.2 then (p, st.2 || stops p.1) else st
theorem wst_snoc (cut : Nat) (G : List (R × Nat)) (p : R × Nat) (st : (R × Nat) × Bool) : (G ++ [p]).foldl (wst cut) st = wst cut (G.foldl (wst cut) st) p := by rw [List.foldl_append]; rfl
theorem wst_all (cut : Nat) (G : List (R × Nat)) : G.foldl (wst cut) ((zR, 0), false) = (((G.filter fun p => decide (cut ≤ p.2)).getLast?).getD (zR, 0), (G.filter fun p => decide (cut ≤ p.2)).any fun x => stops x.1) := by
  rw [← List.reverse_reverse G]
  generalize G.reverse = H
  induction H with
  | nil => rfl
  | cons p H ih =>
    rw [List.reverse_cons, wst_snoc, ih, List.filter_append]
    unfold wst
    by_cases h : cut ≤ p.2
    · have e : [p].filter (fun p => decide (cut ≤ p.2)) = [p] := by simp [h]
      rw [if_pos h, e]
      simp
    · have e : [p].filter (fun p => decide (cut ≤ p.2)) = [] := by simp [h]
      rw [if_neg h, e, List.append_nil]
def placedL (r : R) (c : Bool) : R := if r.k = 3 ∧ c = true then { r with o := true } else r
theorem over_fold (cut : Nat) (G : List (R × Nat)) : (placedL (G.foldl (wst cut) ((zR, 0), false)).1.1 (G.foldl (wst cut) ((zR, 0), false)).2, (G.foldl (wst cut) ((zR, 0), false)).1.2) = overC (G.filter fun p => decide (cut ≤ p.2)) := by
  rw [wst_all]
  unfold overC placedL
  cases (G.filter fun p => decide (cut ≤ p.2)).getLast? with
  | none => simp [zR]
  | some p => rfl
theorem win_fold (LL : List (List R)) (q : ByteArray) : (placedL ((grp LL q).foldl (wst (cutD LL q)) ((zR, 0), false)).1.1 ((grp LL q).foldl (wst (cutD LL q)) ((zR, 0), false)).2, ((grp LL q).foldl (wst (cutD LL q)) ((zR, 0), false)).1.2) = winC LL q := by
  rw [over_fold, ← consd_filter]
  rfl

/-- The model's way: from the highest on. What has been looked at from layer i on. -/
def topG (LL : List (List R)) (q : ByteArray) (i : Nat) : List (R × Nat) := grpN (LL.drop i) i q
theorem top_end (LL : List (List R)) (q : ByteArray) : topG LL q LL.length = [] := by
  unfold topG
  rw [List.drop_eq_nil_of_le (Nat.le_refl _)]
  rfl
theorem top_step {LL : List (List R)} {i : Nat} (h : i < LL.length) (q : ByteArray) : topG LL q i = match recAt LL[i] q with | some r => (r, i + 1) :: topG LL q (i + 1) | none => topG LL q (i + 1) := by
  unfold topG
  rw [List.drop_eq_getElem_cons h]
  simp only [grpN]
theorem top_consd (LL : List (List R)) (q : ByteArray) : topG LL q (cutD LL q - 1) = consd LL q := rfl
theorem top_split {LL : List (List R)} {i j : Nat} (h : i ≤ j) (hj : j ≤ LL.length) (q : ByteArray) : ∃ P, topG LL q i = P ++ topG LL q j := by
  refine ⟨grpN ((LL.drop i).take (j - i)) i q, ?_⟩
  unfold topG
  have := grpN_append ((LL.drop i).take (j - i)) ((LL.drop i).drop (j - i)) i q
  rw [List.take_append_drop, List.drop_drop, List.length_take, List.length_drop, Nat.min_eq_left (by omega)] at this
  have e : i + (j - i) = j := by omega
  rw [e] at this
  exact this
/-- The last one of a list, or the zero record. -/
def lastG (C : List (R × Nat)) : R × Nat := C.getLast?.getD (zR, 0)
theorem last_cons (p : R × Nat) (C : List (R × Nat)) : lastG (p :: C) = if (lastG C).2 = 0 ∧ C = [] then p else lastG C := by
  unfold lastG
  cases C with
  | nil => simp
  | cons a t => simp
theorem over_quiet {C : List (R × Nat)} (h : C.any (fun x => stops x.1) = false) : overC C = lastG C := by
  unfold overC lastG
  cases C.getLast? with
  | none => rfl
  | some p => simp [h]
theorem over_stop {P C : List (R × Nat)} {x : R × Nat} (hs : stops x.1 = true) (ho : ∀ p ∈ x :: C, p.1.k ≠ 3 → p.1.o = false) : overC (P ++ x :: C) = ({ (lastG (x :: C)).1 with o := decide ((lastG (x :: C)).1.k = 3) }, (lastG (x :: C)).2) := by
  have hl : (P ++ x :: C).getLast? = (x :: C).getLast? := by rw [List.getLast?_append]; cases h : (x :: C).getLast? with | none => simp at h | some p => rfl
  have ha : (P ++ x :: C).any (fun x => stops x.1) = true := by rw [List.any_append, List.any_cons, hs]; simp
  unfold overC lastG
  rw [hl, ha]
  cases h : (x :: C).getLast? with
  | none => simp at h
  | some p =>
    have hm : p ∈ x :: C := List.mem_of_getLast? h
    by_cases hk : p.1.k = 3
    · simp [hk]
    · have := ho p hm hk
      simp [hk]
      cases hp : p.1
      rw [hp] at this
      simp at this
      simp [this]
theorem last_num {LL : List (List R)} {q : ByteArray} {i : Nat} : (topG LL q i = [] ∧ lastG (topG LL q i) = (zR, 0)) ∨ (topG LL q i ≠ [] ∧ i < (lastG (topG LL q i)).2 ∧ (lastG (topG LL q i)).2 ≤ i + (LL.drop i).length) := by
  cases h : topG LL q i with
  | nil => exact .inl ⟨rfl, rfl⟩
  | cons a t =>
    refine .inr ⟨by simp, ?_⟩
    have hm : lastG (topG LL q i) ∈ topG LL q i := by
      unfold lastG
      cases hg : (topG LL q i).getLast? with
      | none => rw [h] at hg; simp at hg
      | some p => exact List.mem_of_getLast? hg
    rw [← h]
    exact grpN_num _ _ _ _ hm

end Go.Proofs.YtibekkfbpmloiaaDoor.Recs

/- Paths: ParentOf and JoinPath, of the program and of its model. -/
namespace Go.Proofs.YtibekkfbpmloiaaDoor.Paths
open Go.RowKit

/-- strings.Join with a stroke between, at a slice that reads as L. -/
theorem join_any (v : Value) (L : List (List UInt8)) (w : World) (h : Strs w v L) (hl : (Lib.join L [47]).length ≤ 140737488355328) (hL : L.length ≤ 140737488355328) :
    Calls Tryd.prog 72 #[v, .string ⟨#[47]⟩] w fun e w' => e = .returned (strV (Lib.join L [47])) ∧ Below w.heap.size w w' := by
  obtain ⟨A, cap, rfl, hcap, h⟩ := h
  cases L with
  | nil =>
    refine (Tryd.strings_Join_none A cap _ w).mono ?_
    rintro e w' ⟨rfl, rfl⟩
    exact ⟨rfl, Below.refl _ _⟩
  | cons p r =>
    obtain ⟨b, off, rfl, hb, hc⟩ := h (by simp)
    have hm : ((p :: r).map fun l => (⟨l.toArray⟩ : ByteArray)).map (·.data.toList) = p :: r := by simp [Function.comp_def]
    have := Tryd.strings_Join b off cap ((p :: r).map fun l => (⟨l.toArray⟩ : ByteArray)) ⟨#[47]⟩ w (fun j x hx => by
      simp only [List.getElem?_map, Option.map_eq_some_iff] at hx
      obtain ⟨l, hl, rfl⟩ := hx
      exact hc j l hl) hb (by simpa using hL) (by simpa using hcap) (by rw [hm]; exact hl)
    rw [hm, List.length_map] at this
    exact this

theorem Strs.take {w : World} {A : Option Addr} {cap : Nat} {L : List (List UInt8)} {k : Nat} (h : Strs w (.slice A L.length cap) L) (hk : k ≤ L.length) : Strs w (.slice A k cap) (L.take k) := by
  obtain ⟨A', cap', e, hc, h⟩ := h
  cases e
  refine ⟨A, cap, by rw [List.length_take, Nat.min_eq_left hk], by rw [List.length_take]; omega, fun hn => ?_⟩
  rw [List.length_take] at hn
  obtain ⟨b, off, e, hb, hcell⟩ := h (by omega)
  refine ⟨b, off, e, hb, fun j p hj => hcell j p ?_⟩
  rw [List.getElem?_take] at hj
  split at hj
  · exact hj
  · cases hj

def parS (s : ByteArray) : List UInt8 := if pathB s.data.toList then parentL s.data.toList else []
theorem parS_yes {s : ByteArray} (h : pathB s.data.toList = true) : parS s = Lib.join (cutAt 47 s.data.toList).dropLast [47] := by unfold parS; rw [h]; rfl
theorem parS_no {s : ByteArray} (h : pathB s.data.toList = false) : parS s = [] := by unfold parS; rw [h]; rfl
theorem askC_zero {s : ByteArray} (h : askC s = 0) : s.size ≤ 65536 ∧ pathB s.data.toList = true := by
  unfold askC at h
  split at h
  · cases h
  · split at h
    · exact ⟨by omega, ‹_›⟩
    · cases h
theorem askC_bad {s : ByteArray} (h : askC s ≠ 0) : pathB s.data.toList = false := by
  unfold askC at h
  split at h
  · exact pathB_long (by omega)
  · split at h
    · exact absurd rfl h
    · rename_i h2; simpa using h2
theorem join_dropLast_len (l : List UInt8) : (Lib.join (cutAt 47 l).dropLast [47]).length ≤ l.length := by
  have h := cutAt_ne 47 l
  conv => rhs; rw [← join_cut l]
  rw [← List.dropLast_concat_getLast h, List.dropLast_concat]
  by_cases hd : (cutAt 47 l).dropLast = []
  · rw [hd]; simp [Lib.join_nil]
  · rw [join_snoc _ hd]; simp

set_option maxHeartbeats 400000 in
theorem parentOf_impl (s : ByteArray) (w : World) (hs : s.size ≤ maxLen) : Calls Tryd.prog 66 #[.string s] w fun e w' => e = .returned (.tuple #[strV (parS s), .int .i64 (askC s)]) ∧ Below w.heap.size w w' := by
  go_enter Tryd.func66, Tryd.ntmps66
  go_wp2_with fail
  refine (partsOf_impl _ _ hs).mono ?_
  rintro e w1 ⟨v, rfl, hb1, ho1⟩
  by_cases h0 : askC s = 0
  · have hB := askC_zero h0
    have HP := Lib.hid (parS_yes hB.2)
    have H0 := Lib.hid h0
    rw [partsOf_yes hB.2] at ho1
    have hpos := cutAt_pos 47 s.data.toList
    have hlen := (pathB_parts hB.2).1
    have hjl := join_dropLast_len s.data.toList
    rw [← Lib.size_eq] at hjl
    generalize hL : cutAt 47 s.data.toList = L at *
    have HL := Lib.hid hL
    clear hL
    obtain ⟨g, cap, rfl, hcap, hg0, hg1, hcell⟩ := own_slice ho1 (by omega)
    have hst := (Strs.own ho1).take (k := L.length - 1) (by omega)
    rw [← List.dropLast_eq_take] at hst
    have HS := Lib.hid hst
    clear hcell hst
    have hc1 : (1 : Int) ≤ (L.length : Int) := by omega
    rw [h0]
    clear h0
    go_wp2_with fail
    refine (join_any _ _ _ HS.out (by omega) (by rw [List.length_dropLast]; omega)).mono ?_
    rintro e w2 ⟨rfl, hb2⟩
    go_wp2_with fail
    go_ret2
    exact ⟨by rw [HP.out, H0.out]; rfl, hb1.trans (hb2.mono hb1.size)⟩
  · have HP := Lib.hid (parS_no (askC_bad h0))
    have hne : (askC s != 0) = true := by simpa using h0
    clear h0
    go_wp2_with fail
    go_ret2
    exact ⟨by rw [HP.out]; rfl, hb1⟩

set_option maxHeartbeats 400000 in
theorem l01Parent_any (s : ByteArray) (w : World) (hs : s.size ≤ maxLen) : Calls Tryd.prog 47 #[.string s] w fun e w' => e = .returned (strV (parentL s.data.toList)) ∧ w = w' := by
  unfold maxLen at hs
  go_enter Tryd.func47, Tryd.ntmps47
  go_wp2
  go_loop [3] (fun i => ∃ k : Nat, k ≤ s.size ∧ i = .int .i64 ((k : Int) - 1) ∧ Hid (Clear s.data.toList k)) (fun i => (intOf i + 1).toNat)
  case atStart => exact ⟨s.size, by omega, rfl, Clear.start s⟩
  case round =>
    obtain ⟨k, hk, rfl, HC⟩ := hrel
    cases k with
    | zero =>
      have HN := Lib.hid (Clear.none HC.out)
      go_wp2
      go_ret
      exact ⟨by rw [HN.out]; rfl, rfl⟩
    | succ k =>
      have e1 : (((k + 1 : Nat) : Int) - 1) = (k : Int) := by omega
      rw [e1]
      clear e1
      have hlt : k < s.size := by omega
      rcases Bool.eq_false_or_eq_true ((s[k].toNat : Int) == 47) with he | he
      · have HE : Hid (parentL s.data.toList = s.data.toList.take k) := HC.out.hit hlt (by simp at he; exact UInt8.toNat_inj.1 (by show _ = 47; omega))
        go_wp2
        go_ret
        exact ⟨by rw [HE.out, ← strV_take]; rfl, rfl⟩
      · have HD := Lib.hid (HC.out.down hlt (fun e => by rw [e] at he; exact absurd he (by decide)))
        go_wp2
        exact ⟨⟨k, by omega, rfl, HD⟩, by simp [intOf]⟩

end Go.Proofs.YtibekkfbpmloiaaDoor.Paths

/- Paths: JoinPath, of the program and of its model. -/
namespace Go.Proofs.YtibekkfbpmloiaaDoor.Paths
open Go.RowKit

/-- Which of the ways JoinPath goes: 0: too long · 1: no path, or no part · 2: too many parts · 3: from the root · 4: from a path. -/
def joinWay (d p : ByteArray) : Nat :=
  if 65536 < d.size ∨ 65536 < p.size then 0
  else if (d.size ≠ 0 ∧ pathB d.data.toList = false) ∨ partB p.data.toList = false then 1
  else if d.size = 0 then 3
  else if (cutAt 47 d.data.toList).length = 4 then 2 else 4
def joinCode (d p : ByteArray) : Int := match joinWay d p with | 0 => 2 | 1 => 10 | 2 => 6 | _ => 0
def joinRes (d p : ByteArray) : List UInt8 := match joinWay d p with | 3 => p.data.toList | 4 => d.data.toList ++ 47 :: p.data.toList | _ => []
def JoinPost (d p : ByteArray) (w : World) (e : Ending) (w' : World) : Prop := e = .returned (.tuple #[strV (joinRes d p), .int .i64 (joinCode d p)]) ∧ Below w.heap.size w w'

theorem JoinPost.long {d p : ByteArray} {w w' : World} (h : joinWay d p = 0) (hb : Below w.heap.size w w') : JoinPost d p w (.returned (.tuple #[.string ⟨#[]⟩, .int .i64 2])) w' := ⟨by unfold joinRes joinCode; rw [h]; rfl, hb⟩
theorem JoinPost.many {d p : ByteArray} {w w' : World} (h : joinWay d p = 2) (hb : Below w.heap.size w w') : JoinPost d p w (.returned (.tuple #[.string ⟨#[]⟩, .int .i64 6])) w' := ⟨by unfold joinRes joinCode; rw [h]; rfl, hb⟩
theorem JoinPost.root {d p : ByteArray} {w w' : World} (h : joinWay d p = 3) (hb : Below w.heap.size w w') : JoinPost d p w (.returned (.tuple #[strV p.data.toList, .int .i64 0])) w' := ⟨by unfold joinRes joinCode; rw [h]; rfl, hb⟩
theorem pathB_empty {d : ByteArray} (h : d.size = 0) : pathB d.data.toList = false := by
  have : d.data.toList = [] := by
    have := Lib.size_eq d
    rw [h] at this
    exact List.eq_nil_of_length_eq_zero this.symm
  rw [this]
  decide

end Go.Proofs.YtibekkfbpmloiaaDoor.Paths
