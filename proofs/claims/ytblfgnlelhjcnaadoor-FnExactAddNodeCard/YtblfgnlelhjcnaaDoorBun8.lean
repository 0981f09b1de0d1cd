/- Several texts of mine in one file (each begins with its own remark). -/
import Derived.Test.YtblfgnlelhjcnaaDoorBun5
import Derived.Test.YtblfgnlelhjcnaaDoorBun6
/- Layers: the program's check of one: the code of a record behind others, the error of a list. Conditions: the table of kinds, the sentinel (as each states). -/

namespace Go.Proofs.YtblfgnlelhjcnaaDoor.Recs
set_option maxRecDepth 100000
open Go.RowKit Paths Errs

def ordC (L : List R) (q : ByteArray) : Int := match L.getLast? with | none => 0 | some x => if x.p = q then 18 else if lessB x.p q then 0 else 11
theorem ord_nil (q : ByteArray) : ordC [] q = 0 := rfl
theorem ord_last {L : List R} {n : Nat} (hn : L.length = n + 1) (q : ByteArray) : ordC L q = if (L[n]'(by omega)).p = q then 18 else if lessB (L[n]'(by omega)).p q then 0 else 11 := by
  have e : L[L.length - 1]? = some (L[n]'(by omega)) := by
    have h1 : L.length - 1 = n := by omega
    rw [h1, List.getElem?_eq_getElem]
  unfold ordC
  rw [List.getLast?_eq_getElem?, e]

def parC (L : List R) (q : ByteArray) : Int :=
  if parS q = [] then 0 else if atL L ⟨(parS q).toArray⟩ < 0 then 12 else if (L[(atL L ⟨(parS q).toArray⟩).toNat]?).any (fun x => x.k ≠ 3) then 13 else 0

def behC (L : List R) (r : R) : Int := if 16 ≤ L.length then 6 else if r.fault ≠ 0 then r.fault else if ordC L r.p ≠ 0 then ordC L r.p else parC L r.p

theorem par_up {l : List R} {i : Nat} {r : R} (hp : pathB r.p.data.toList = true) : parC (l.take i) r.p = codeUp l i r := by
  have e : parS r.p = parentL r.p.data.toList := by unfold parS; rw [hp]; rfl
  unfold parC codeUp
  rw [e]
  by_cases h0 : parentL r.p.data.toList = []
  · rw [if_pos h0, if_pos h0]
  · rw [if_neg h0, if_neg h0]
    show (if atL (l.take i) (parO r.p) < 0 then (12 : Int) else if ((l.take i)[(atL (l.take i) (parO r.p)).toNat]?).any (fun x => x.k ≠ 3) then 13 else 0) = _
    rcases atL_cases (l.take i) (parO r.p) with ⟨ha, _⟩ | ⟨j, hj, ha, _⟩
    · rw [ha, if_pos (by decide), if_pos (by decide)]
    · have hneg : ¬ ((j : Int) < 0) := by omega
      rw [ha, if_neg hneg, if_neg hneg, Int.toNat_natCast, List.getElem?_eq_getElem hj]
      rw [List.length_take] at hj
      rw [List.getElem?_eq_getElem (by omega : j < l.length), List.getElem_take]

theorem beh_code {l : List R} {i : Nat} (hi : i < l.length) (hc : ∀ j (h : j < l.length), j < i → codeAt l j l[j] = 0) : behC (l.take i) l[i] = codeAt l i l[i] := by
  have h16 : i ≤ 16 := by
    rcases Nat.lt_or_ge 16 i with h | h
    · exact absurd (hc 16 (by omega) h) (by rw [code_many]; decide)
    · exact h
  have hlen : (l.take i).length = i := by rw [List.length_take]; omega
  unfold behC
  rw [hlen]
  by_cases h1 : i = 16
  · subst h1
    rw [if_pos (by omega), code_many]
  rw [if_neg (by omega)]
  by_cases hf : l[i].fault = 0
  case neg => rw [if_pos hf, code_rec h1 hf]
  rw [if_neg (by simpa using hf)]
  have hp := (fault_path hf).1
  cases i with
  | zero =>
    rw [code_up h1 hf rfl rfl, if_neg (by simp [ord_nil]), par_up hp]
  | succ n =>
    have hn : n < l.length := by omega
    have hp2 := (fault_path (codeAt_zero (hc n hn (by omega))).2).1
    have ho := ord_last (L := l.take (n + 1)) (n := n) hlen l[n + 1].p
    rw [List.getElem_take, lessB_yes hp2 hp] at ho
    rw [ho]
    by_cases he : l[n].p = l[n + 1].p
    · rw [if_pos he, code_same h1 hf (by rw [beforeL_pos hi]; simp [he])]
      rfl
    · rw [if_neg he]
      have hs : (beforeL l (n + 1)).any (fun x => x.p = l[n + 1].p) = false := by rw [beforeL_pos hi]; simp [he]
      rcases Bool.eq_false_or_eq_true (lessP (cutAt 47 l[n].p.data.toList) (cutAt 47 l[n + 1].p.data.toList)) with hl | hl
      · rw [code_up h1 hf hs (by rw [beforeL_pos hi]; simp [hl]), if_pos hl, if_neg (by decide), par_up hp]
      · rw [code_order h1 hf hs (by rw [beforeL_pos hi]; simp [hl])]
        simp [hl]

end Go.Proofs.YtblfgnlelhjcnaaDoor.Recs

/- Layers: the error of a list, the code of errors. Conditions: the table of kinds, the sentinels (as each states). -/

namespace Go.Proofs.YtblfgnlelhjcnaaDoor.Recs
set_option maxRecDepth 100000
open Go.RowKit Paths Errs

theorem ret_eq {a b : Value} (h : a = b) : Ending.returned a = .returned b := by rw [h]

end Go.Proofs.YtblfgnlelhjcnaaDoor.Recs

/- Layers: LayerFault and LayerOK of the model. -/

namespace Go.Proofs.YtblfgnlelhjcnaaDoor.Recs
set_option maxRecDepth 100000
open Go.RowKit Paths

end Go.Proofs.YtblfgnlelhjcnaaDoor.Recs

/- Layers: comparison of two lists of records, of the program and of its model. -/

namespace Go.Proofs.YtblfgnlelhjcnaaDoor.Recs
set_option maxRecDepth 100000
open Go.RowKit Paths

instance decR : DecidableEq R := fun x y =>
  if h : x.k = y.k ∧ x.m = y.m ∧ x.p = y.p ∧ x.b = y.b ∧ x.o = y.o then isTrue (by cases x; cases y; simp_all) else isFalse (fun e => h (by subst e; simp))
/-- Two records are alike, or one field is the first that is not. -/
theorem five (x y : R) : (x.k == y.k) = false ∨ ((x.k == y.k) = true ∧ (x.p.toList == y.p.toList) = false) ∨ ((x.k == y.k) = true ∧ (x.p.toList == y.p.toList) = true ∧ (x.b.toList == y.b.toList) = false) ∨
    ((x.k == y.k) = true ∧ (x.p.toList == y.p.toList) = true ∧ (x.b.toList == y.b.toList) = true ∧ (x.m == y.m) = false) ∨ ((x.k == y.k) = true ∧ (x.p.toList == y.p.toList) = true ∧ (x.b.toList == y.b.toList) = true ∧ (x.m == y.m) = true ∧ (x.o == y.o) = false) ∨
    ((x.k == y.k) = true ∧ (x.p.toList == y.p.toList) = true ∧ (x.b.toList == y.b.toList) = true ∧ (x.m == y.m) = true ∧ (x.o == y.o) = true) := by
  cases (x.k == y.k) <;> cases (x.p.toList == y.p.toList) <;> cases (x.b.toList == y.b.toList) <;> cases (x.m == y.m) <;> cases (x.o == y.o) <;> simp
theorem rec_eq {x y : R} (h0 : (x.k == y.k) = true) (h1 : (x.p.toList == y.p.toList) = true) (h2 : (x.b.toList == y.b.toList) = true) (h3 : (x.m == y.m) = true) (h4 : (x.o == y.o) = true) : x = y := by
  have e0 := eq_of_beq h0
  have e1 := str_eq_of h1
  have e2 := str_eq_of h2
  have e3 := eq_of_beq h3
  have e4 := eq_of_beq h4
  cases x; cases y
  simp only at e0 e1 e2 e3 e4
  subst e0 e1 e2 e3 e4
  rfl
theorem ne_at {A B : List R} {k : Nat} (h1 : k < A.length) (h2 : k < B.length) (h : A[k] ≠ B[k]) : Hid (¬ A = B) := fun e => h (getElem_of_eq h1 h2 e)

end Go.Proofs.YtblfgnlelhjcnaaDoor.Recs

/- Layers: SameLayer, of the program and of its model. -/

namespace Go.Proofs.YtblfgnlelhjcnaaDoor.Recs
set_option maxRecDepth 100000
open Go.RowKit Paths Errs

def okL (l : List R) : Bool := decide (l.length ≤ 4096) && layerOK l
def sameC (A B : List R) : Bool := okL A && (okL B && decide (A = B))

end Go.Proofs.YtblfgnlelhjcnaaDoor.Recs

/- The laws' marks in a slice of records: written, and read again. -/

namespace Go.Proofs.YtblfgnlelhjcnaaDoor.Recs
set_option maxRecDepth 100000
open Go.RowKit Paths

/-- The marks of one record, from x on. -/
def mr (x : Int) : R := ⟨x, x + 1 + 1 + 1, markS (x + 1), markS (x + 1 + 1), (x + 1 + 1 + 1 + 1) % 3 == 0⟩
def markR (x : Int) (n : Nat) : List R := (List.range n).map fun i : Nat => mr (x + 5 * (i : Int))
theorem markR_len (x : Int) (n : Nat) : (markR x n).length = n := by simp [markR]
theorem markR_at {x : Int} {n j : Nat} (h : j < n) : (markR x n)[j]'(by rw [markR_len]; exact h) = mr (x + 5 * j) := by simp [markR]

set_option maxHeartbeats 3200000 in
theorem markRecordS_any (v : Value) (n base : Nat) (M : List R) (x : Int) (w : World) (hrow : RowOf w base v n M) (h0 : 0 ≤ x) (hk : x + 5 * n ≤ 1099511627776) :
    Calls Tryd.prog 34 #[v, .int .i64 x] w fun e w' => e = .returned (.int .i64 (x + 5 * n)) ∧ RowOf w' base v n (markR x n) ∧ w.grownBy w' v.ownBlock := by
  rcases hrow.2.2 with ⟨rfl, rfl⟩ | ⟨g, cap, cur, rfl, hbg, hgg, hnc, hcm, _⟩
  · go_enter Tryd.func34, Tryd.ntmps34
    go_wp2
    refine wp_loop_rounds 1 ?_
    rw [rounds_succ]
    go_wp2
    go_ret
    exact ⟨by simp, ⟨by simp [markR], World.ownsRow_nil _ _ _ _⟩, World.grownBy.refl _ _⟩
  · unfold maxLen at hcm
    clear hgg
    go_enter Tryd.func34, Tryd.ntmps34
    go_wp2
    go_loopw [1, 5] (fun m i wr => ∃ (j : Nat) (N : List R), j ≤ n ∧ i = .int .i64 j ∧ m = .int .i64 (x + 5 * j) ∧ RowOf wr base (.slice (some ⟨g, 0, none⟩) n cap) n N ∧ Hid (N.take j = (markR x n).take j) ∧ w.grownBy wr (some g)) (fun _ i _ => n - (intOf i).toNat)
    case atStart => exact ⟨0, M, by omega, rfl, by simp, hrow, rfl, World.grownBy.refl _ _⟩
    case round =>
      obtain ⟨j, N, hj, rfl, rfl, hr, HN, hgr⟩ := hrel
      by_cases hlt : j < n
      · have hi1 : (j : Int) < (n : Int) := by omega
        have hi0 : (0 : Int) ≤ (j : Int) := by omega
        have hm : j < N.length := by rw [hr.1]; exact hlt
        have HS := Lib.hid (set_take (l := markR x n) hm (by rw [markR_len]; exact hlt) HN.out)
        rw [markR_at hlt] at HS
        generalize hX : x + 5 * (j : Int) = X at *
        have hX0 : 0 ≤ X := by omega
        have hX1 : X + 5 ≤ 1099511627776 := by omega
        obtain ⟨d0, d1, d2, d3, d4⟩ := hr.cells hm
        have hf := hr.frozen
        obtain ⟨a1, b1⟩ := hr.field (i := j) (c := 0) (r := { N[j] with k := X }) (u := .int .i64 X) hm (by omega) rfl
        go_wp2_with fail
        refine (markText_any _ _ (by omega) (by omega)).mono ?_
        rintro e w1 ⟨rfl, hb1⟩
        have r1 := a1.below hb1
        have g1 := grown_trans hgr (grown_trans b1 (grown_below hb1 _))
        have l1 : j < (N.set j { N[j] with k := X }).length := by simpa using hm
        obtain ⟨e0, e1, e2, e3, e4⟩ := r1.cells l1
        have hf1 := r1.frozen
        obtain ⟨a2, b2⟩ := r1.field (i := j) (c := 1) (r := { N[j] with k := X, p := markS (X + 1) }) (u := .string (markS (X + 1))) l1 (by omega) (by simp [R.cs])
        rw [List.set_set] at a2
        clear d0 d1 d2 d3 d4 hf a1 b1
        go_wp2_with fail
        refine (markText_any _ _ (by omega) (by omega)).mono ?_
        rintro e w2 ⟨rfl, hb2⟩
        have r2 := a2.below hb2
        have g2 := grown_trans g1 (grown_trans b2 (grown_below hb2 _))
        have l2 : j < (N.set j { N[j] with k := X, p := markS (X + 1) }).length := by simpa using hm
        clear e0 e1 e2 e3 e4 hf1 a2 b2 r1
        obtain ⟨e0, e1, e2, e3, e4⟩ := r2.cells l2
        have hf2 := r2.frozen
        obtain ⟨a3, b3⟩ := r2.field (i := j) (c := 2) (r := { N[j] with k := X, p := markS (X + 1), b := markS (X + 1 + 1) }) (u := .string (markS (X + 1 + 1))) l2 (by omega) (by simp [R.cs])
        rw [List.set_set] at a3
        obtain ⟨a4, b4⟩ := a3.field (i := j) (c := 3) (r := { N[j] with k := X, p := markS (X + 1), b := markS (X + 1 + 1), m := X + 1 + 1 + 1 }) (u := .int .i64 (X + 1 + 1 + 1)) (by simpa using hm) (by omega) (by simp [R.cs])
        rw [List.set_set] at a4
        obtain ⟨a5, b5⟩ := a4.field (i := j) (c := 4) (r := mr X) (u := .bool ((X + 1 + 1 + 1 + 1) % 3 == 0)) (by simpa using hm) (by omega) (by simp [R.cs, mr])
        rw [List.set_set] at a5
        have HA := Lib.hid a5
        have HG := Lib.hid (grown_trans (grown_trans (grown_trans g2 b3) b4) b5)
        clear a3 a4 a5 b3 b4 b5
        go_wp2_with fail
        exact ⟨⟨j + 1, N.set j (mr X), by omega, by go_num, by subst hX; go_num, HA.out, HS, HG.out⟩, by simp [intOf]; omega⟩
      · obtain rfl : j = n := by omega
        go_wp2
        go_ret
        refine ⟨rfl, ?_, hgr⟩
        have := HN.out
        rw [List.take_of_length_le (by rw [hr.1]; exact Nat.le_refl _), List.take_of_length_le (by rw [markR_len]; exact Nat.le_refl _)] at this
        rw [← this]
        exact hr

theorem int_ne_self (x : Int) : (x != x) = false := by simp
set_option maxHeartbeats 3200000 in
theorem heldRecordS_any (v : Value) (n base : Nat) (x : Int) (w : World) (hrow : RowOf w base v n (markR x n)) (h0 : 0 ≤ x) (hk : x + 5 * n ≤ 1099511627776) :
    Calls Tryd.prog 35 #[v, .int .i64 x] w fun e w' => e = .returned (.int .i64 (x + 5 * n)) ∧ Below w.heap.size w w' := by
  rcases hrow.2.2 with ⟨rfl, rfl⟩ | ⟨g, cap, cur, rfl, hbg, hgg, hnc, hcm, _⟩
  · go_enter Tryd.func35, Tryd.ntmps35
    go_wp2
    refine wp_loop_rounds 1 ?_
    rw [rounds_succ]
    go_wp2
    go_ret
    exact ⟨by simp, Below.refl _ _⟩
  · unfold maxLen at hcm
    have hglt : g < w.heap.size := (Array.getElem?_eq_some_iff.1 hgg).1
    clear hgg
    have HC : Hid (∀ j, j < n → RecCells w g (j * 5) (mr (x + 5 * (j : Int)))) := fun j hj => by
      have := hrow.cells (i := j) (by rw [markR_len]; exact hj)
      rw [markR_at hj] at this
      exact this
    clear hrow
    go_enter Tryd.func35, Tryd.ntmps35
    go_wp2
    go_loopw [1, 5] (fun m i wr => ∃ j : Nat, j ≤ n ∧ i = .int .i64 j ∧ m = .int .i64 (x + 5 * j) ∧ Below w.heap.size w wr) (fun _ i _ => n - (intOf i).toNat)
    case atStart => exact ⟨0, by omega, rfl, by simp, Below.refl _ _⟩
    case round =>
      obtain ⟨j, hj, rfl, rfl, hbw⟩ := hrel
      by_cases hlt : j < n
      · have HR := Lib.hid (HC.out j hlt)
        generalize hX : x + 5 * (j : Int) = X at *
        have hX0 : 0 ≤ X := by omega
        have hX1 : X + 5 ≤ 1099511627776 := by omega
        obtain ⟨c0, c1, c2, c3, c4⟩ := HR.out.below hbw hglt
        unfold mr at c0 c1 c2 c3 c4
        have hi1 : (j : Int) < (n : Int) := by omega
        have hi0 : (0 : Int) ≤ (j : Int) := by omega
        have hgr : g < wr.heap.size := Nat.lt_of_lt_of_le hglt hbw.size
        go_wp2_with fail
        go_region_held3 (fun w' => w'.cell? ⟨g, j * 5 + 1, none⟩ = some (.string (markS (X + 1)))) (first | exact c1 | exact (hb1.cell (p := ⟨g, j * 5 + 1, none⟩) hgr).trans c1 | go_keep) (first | (go_at_call 47; refine (markText_any _ _ (by omega) (by omega)).mono ?_; rintro e w1 ⟨rfl, hb1⟩))
        have hbw1 := hbw.drew.trans (hb1.mono hbw.size)
        have hgr1 : g < w1.heap.size := Nat.lt_of_lt_of_le hglt hbw1.size
        clear c0 c1 c2 c3 c4
        obtain ⟨c0, c1, c2, c3, c4⟩ := HR.out.below hbw1 hglt
        unfold mr at c0 c1 c2 c3 c4
        go_wp2_with fail
        go_region_held3 (fun w' => w'.cell? ⟨g, j * 5 + 2, none⟩ = some (.string (markS (X + 1 + 1)))) (first | exact c2 | exact (hb2.cell (p := ⟨g, j * 5 + 2, none⟩) hgr1).trans c2 | go_keep) (first | (go_at_call 47; refine (markText_any _ _ (by omega) (by omega)).mono ?_; rintro e w2 ⟨rfl, hb2⟩))
        have hbw2 := hbw1.drew.trans (hb2.mono hbw1.size)
        clear c0 c1 c2 c3 c4
        obtain ⟨c0, c1, c2, c3, c4⟩ := HR.out.below hbw2 hglt
        unfold mr at c0 c1 c2 c3 c4
        go_wp2_with fail
        exact ⟨⟨j + 1, by omega, by go_num, by subst hX; go_num, hbw2⟩, by simp [intOf]; omega⟩
      · obtain rfl : j = n := by omega
        go_wp2
        go_ret
        exact ⟨rfl, hbw⟩
end Go.Proofs.YtblfgnlelhjcnaaDoor.Recs
