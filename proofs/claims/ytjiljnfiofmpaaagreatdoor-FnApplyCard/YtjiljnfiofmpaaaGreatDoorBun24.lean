/- Several texts of mine in one file (each begins with its own remark). -/
import Derived.Test.YtjiljnfiofmpaaaGreatDoorBun18
import Derived.Test.YtjiljnfiofmpaaaGreatDoorBun17
import Derived.Test.YtjiljnfiofmpaaaGreatDoorBun20
import Derived.Test.YtjiljnfiofmpaaaGreatDoorBun19
import Derived.Test.YtjiljnfiofmpaaaGreatDoorBun21
import Derived.Test.YtjiljnfiofmpaaaGreatDoorBun5
/- Applying layers to trees, of the model: a record, a layer, a stack. -/

namespace Go.Proofs.YtjiljnfiofmpaaaGreatDoor.Recs
set_option maxRecDepth 100000
open Go.RowKit Paths

theorem l04Node_any (r : R) (w : World) :
    Calls Tryz.prog 119 #[r.val] w fun e w' => e = .returned r.nod ∧ Below w.heap.size w w' := by
  unfold R.nod R.val
  go_enter Tryz.func119, Tryz.ntmps119
  go_wp2_with fail
  refine bodyPost_ret (v := .agg #[.int .i64 r.k, .string r.p, .string r.b, .int .i64 r.m]) (by simp [results, Tryz.results119, go_sem]) rfl ⟨rfl, ?_⟩
  exact ((Below.refl _ _).alloc (Nat.le_refl _) _).alloc (by simp) _

theorem do_white {t : List R} {r : R} (h : r.k = 4) : doR t r = withoutL t r.p true := if_pos h
theorem do_clears {t : List R} {r : R} (h : r.k ≠ 4) (hc : clears t r = true) : doR t r = putL (withoutL t r.p false) (nodeOf r) := by
  unfold doR
  rw [if_neg h, if_pos hc]
theorem do_keeps {t : List R} {r : R} (h : r.k ≠ 4) (hc : clears t r = false) : doR t r = putL t (nodeOf r) := by
  unfold doR
  rw [if_neg h, hc]
  rfl
theorem clears_stops {t : List R} {r : R} (h : stops r = true) : clears t r = true := by unfold clears; rw [h]; rfl
theorem clears_at {t : List R} {r x : R} (h : recAt t r.p = some x) (hk : x.k ≠ 3) : clears t r = true := by unfold clears; rw [h]; simp [hk]
theorem clears_no {t : List R} {r : R} (h : stops r = false) (h2 : ∀ x, recAt t r.p = some x → x.k = 3) : clears t r = false := by
  unfold clears
  rw [h]
  cases hr : recAt t r.p with
  | none => rfl
  | some x => simp [h2 x hr]
theorem without_le (t : List R) (q : ByteArray) (s : Bool) : (withoutL t q s).length ≤ t.length := List.length_filter_le _ _
theorem put_le (t : List R) (n : R) : (putL t n).length ≤ t.length + 1 := by
  unfold putL
  rw [List.length_append, List.length_cons]
  have h : ∀ l : List R, (l.filter fun x => lessR x n).length + (l.filter fun x => lessR n x).length ≤ l.length := by
    intro l
    induction l with
    | nil => simp
    | cons x l ih =>
      have hx : ¬ (lessR x n = true ∧ lessR n x = true) := fun ⟨h1, h2⟩ => by
        unfold lessR at h1 h2
        rw [lessP_asymm _ _ h1] at h2
        cases h2
      rw [List.filter_cons, List.filter_cons, List.length_cons]
      by_cases h1 : lessR x n = true
      · by_cases h2 : lessR n x = true
        · exact absurd ⟨h1, h2⟩ hx
        · rw [if_pos h1, if_neg h2, List.length_cons]; omega
      · by_cases h2 : lessR n x = true
        · rw [if_neg h1, if_pos h2, List.length_cons]; omega
        · rw [if_neg h1, if_neg h2]; omega
  have := h t
  omega
theorem do_le (t : List R) (r : R) : (doR t r).length ≤ t.length + 1 := by
  unfold doR
  split
  · exact Nat.le_succ_of_le (without_le _ _ _)
  · split
    · exact Nat.le_trans (put_le _ _) (Nat.succ_le_succ (without_le _ _ _))
    · exact put_le _ _
theorem do_path {t : List R} {r : R} (ht : ∀ x ∈ t, pathB x.p.data.toList = true) (hr : pathB r.p.data.toList = true) : ∀ x ∈ doR t r, pathB x.p.data.toList = true := by
  intro x hx
  rcases mem_do.1 hx with ⟨_, rfl⟩ | ⟨h1, _⟩
  · exact hr
  · exact ht x h1
theorem path_35 {r : R} (h : pathB r.p.data.toList = true) : r.p.size ≤ 35 := by rw [Lib.size_eq]; exact pathB_len h

set_option maxHeartbeats 4000000 in
theorem l05Do_any (v : Value) (t : List R) (r : R) (base : Nat) (w : World) (h : RowN w base v t.length t) (hv : v ≠ .slice none 0 0) (hs : Sorted t) (hp : ∀ x ∈ t, pathB x.p.data.toList = true) (hr : pathB r.p.data.toList = true) (hl : t.length ≤ 1000) :
    Calls Tryz.prog 145 #[v, r.val] w fun e w' => ∃ x, e = .returned x ∧ Below w.heap.size w w' ∧ RowN w' w.heap.size x (doR t r).length (doR t r) ∧ x ≠ .slice none 0 0 := by
  have hb0 : Below w.heap.size w (w.alloc (.cells #[.int .i64 r.k, .string r.p, .string r.b, .int .i64 r.m, .bool r.o] 26)) := (Below.refl _ _).alloc (Nat.le_refl _) _
  have bc := box_cells w r 26
  have hsl := (h.below hb0).sl
  have HAT := l04At_any v t r.p (w.alloc (.cells #[.int .i64 r.k, .string r.p, .string r.b, .int .i64 r.m, .bool r.o] 26)) hsl (by omega)
  have HW := fun s => l04Without_any v t r.p s (w.alloc (.cells #[.int .i64 r.k, .string r.p, .string r.b, .int .i64 r.m, .bool r.o] 26)) hsl hl hp hr
  have HPUT : ∀ (u : Value) (L : List R) (b : Nat) (W : World), RowN W b u L.length L → u ≠ .slice none 0 0 → Sorted L → (∀ x ∈ L, pathB x.p.data.toList = true) → L.length ≤ 1000 →
      Calls Tryz.prog 72 #[u, r.nod] W fun e w' => ∃ x, e = .returned x ∧ Below W.heap.size W w' ∧ RowN w' W.heap.size x (putL L (nodeOf r)).length (putL L (nodeOf r)) ∧ x ≠ .slice none 0 0 :=
    fun u L b W h1 h2 h3 h4 h5 => l04Put_any u L (nodeOf r) b W h1 h2 h3 (fun x hx => path_35 (h4 x hx)) (path_35 hr) rfl h5
  have HNO := fun W => l04Node_any r W
  have hcl : ∀ x, (recAt t r.p = some x → x.k ≠ 3 → clears t r = true) := fun x h1 h2 => clears_at h1 h2
  have HRA := Lib.hid (atL_recAt t r.p)
  have HH := Lib.hid (h.below hb0)
  have HV := Lib.hid hv
  have HS := Lib.hid hs
  have HPP := Lib.hid hp
  have HRR := Lib.hid hr
  obtain ⟨g, cap, rfl, hcap, hcm, hgb, hgl⟩ := notnil h hv
  have HCE : Hid (∀ i (hi : i < t.length), NodCells (w.alloc (.cells #[.int .i64 r.k, .string r.p, .string r.b, .int .i64 r.m, .bool r.o] 26)) g (i * 4) t[i]) := fun i hi => (h.below hb0).cells hi
  clear h hv hs hp hr hsl hcl
  obtain ⟨rk, rm, rp, rb, ro⟩ := r
  unfold R.val
  unfold R.nod at HPUT HNO
  unfold R.val at HNO
  dsimp only at *
  generalize hW0 : w.alloc (.cells #[.int .i64 rk, .string rp, .string rb, .int .i64 rm, .bool ro] 26) = W0 at *
  have HB0 := Lib.hid hb0
  have HW0 := Lib.hid hW0
  clear hb0
  by_cases h4 : rk = 4
  · have q4 : (rk == 4) = true := by simp [h4]
    have HD : Hid (doR t ⟨rk, rm, rp, rb, ro⟩ = withoutL t rp true) := do_white h4
    have HWT := HW true
    clear HW HPUT HNO h4
    obtain ⟨d0, d1, d2, d3, d4⟩ := bc
    go_enter Tryz.func145, Tryz.ntmps145
    go_wp2_with fail
    refine HAT.mono ?_
    rintro e w' ⟨rfl, rfl⟩
    go_wp2_with fail
    refine HWT.mono ?_
    rintro e w2 ⟨x, rfl, hb2, hrow2, hx2⟩
    have HR2 := Lib.hid hrow2
    have HX2 := Lib.hid hx2
    clear hrow2 hx2
    go_wp2_with fail
    go_ret
    refine ⟨x, rfl, HB0.out.trans (hb2.mono HB0.out.size), ?_, HX2.out⟩
    rw [HD.out]
    exact ⟨HR2.out.1, own_down HR2.out.2.1 HB0.out.size, HR2.out.2.2⟩
  have q4 : (rk == 4) = false := by simp [h4]
  have HN4 := Lib.hid h4
  clear h4
  by_cases h3 : rk = 3
  · have q3 : (rk != 3) = false := by simp [h3]
    cases ro with
    | true =>
      have HD : Hid (doR t ⟨rk, rm, rp, rb, true⟩ = putL (withoutL t rp false) (nodeOf ⟨rk, rm, rp, rb, true⟩)) := do_clears HN4.out (clears_stops (by unfold stops; simp))
      have HWF := HW false
      clear HW h3
      obtain ⟨d0, d1, d2, d3, d4⟩ := bc
      go_enter Tryz.func145, Tryz.ntmps145
      go_wp2_with fail
      refine HAT.mono ?_
      rintro e w' ⟨rfl, rfl⟩
      go_wp2_with fail
      refine HWF.mono ?_
      rintro e w2 ⟨x2, rfl, hb2, hrow2, hx2⟩
      have bc2 : RecCells w2 w.heap.size 0 ⟨rk, rm, rp, rb, true⟩ := RecCells.below ⟨d0, d1, d2, d3, d4⟩ hb2 (by rw [← HW0.out]; simp)
      clear d0 d1 d2 d3 d4
      obtain ⟨d0, d1, d2, d3, d4⟩ := bc2
      obtain ⟨g2, cap2, rfl, _, _, _, _⟩ := notnil hrow2 hx2
      have HR2 := Lib.hid hrow2
      have HX2 := Lib.hid hx2
      clear hrow2 hx2
      have hall2 := HB0.out.trans (hb2.mono HB0.out.size)
      go_wp2_with fail
      refine (HNO _).mono ?_
      rintro e w3 ⟨rfl, hb3⟩
      have hall := hall2.trans (hb3.mono hall2.size)
      have HPC := HPUT _ (withoutL t rp false) W0.heap.size w3 (HR2.out.below hb3) HX2.out (without_sorted HS.out _ _) (fun x hx => HPP.out x (mem_without.1 hx).1) (Nat.le_trans (without_le _ _ _) hl)
      go_wp2_with fail
      refine HPC.mono ?_
      rintro e w9 ⟨x, rfl, hb9, hrow9, hx9⟩
      have HR9 := Lib.hid hrow9
      have HX9 := Lib.hid hx9
      clear hrow9 hx9
      go_wp2_with fail
      go_ret
      refine ⟨x, rfl, hall.trans (hb9.mono hall.size), ?_, HX9.out⟩
      rw [HD.out]
      exact ⟨HR9.out.1, own_down HR9.out.2.1 hall.size, HR9.out.2.2⟩
    | false =>
      have HST : Hid (stops ⟨rk, rm, rp, rb, false⟩ = false) := (by show stops _ = false; unfold stops; simp [h3])
      clear h3
      rcases HRA.out with ⟨ha, hn⟩ | ⟨i, hi, ha, hn⟩
      · have HD : Hid (doR t ⟨rk, rm, rp, rb, false⟩ = putL t (nodeOf ⟨rk, rm, rp, rb, false⟩)) := do_keeps HN4.out (clears_no HST.out (fun x hx => by rw [hn] at hx; cases hx))
        rw [ha] at HAT
        clear ha hn HRA HW
        obtain ⟨d0, d1, d2, d3, d4⟩ := bc
        go_enter Tryz.func145, Tryz.ntmps145
        go_wp2_with fail
        refine HAT.mono ?_
        rintro e w' ⟨rfl, rfl⟩
        go_wp2_with fail
        refine (HNO _).mono ?_
        rintro e w3 ⟨rfl, hb3⟩
        have hall := HB0.out.trans (hb3.mono HB0.out.size)
        have HPC := HPUT _ t base w3 (HH.out.below hb3) HV.out HS.out HPP.out hl
        go_wp2_with fail
        refine HPC.mono ?_
        rintro e w9 ⟨x, rfl, hb9, hrow9, hx9⟩
        have HR9 := Lib.hid hrow9
        have HX9 := Lib.hid hx9
        clear hrow9 hx9
        go_wp2_with fail
        go_ret
        refine ⟨x, rfl, hall.trans (hb9.mono hall.size), ?_, HX9.out⟩
        rw [HD.out]
        exact ⟨HR9.out.1, own_down HR9.out.2.1 hall.size, HR9.out.2.2⟩
      · rw [ha] at HAT
        obtain ⟨n0, n1, n2, n3⟩ := HCE.out i hi
        have hi0 : (0 : Int) ≤ (i : Int) := by omega
        have hd0 : decide ((0 : Int) ≤ (i : Int)) = true := by simp
        have hi1 : (i : Int) < (t.length : Int) := by omega
        clear ha HRA
        by_cases hk : t[i].k = 3
        · have HD : Hid (doR t ⟨rk, rm, rp, rb, false⟩ = putL t (nodeOf ⟨rk, rm, rp, rb, false⟩)) := do_keeps HN4.out (clears_no HST.out (fun x hx => by rw [hn] at hx; cases hx; exact hk))
          have qk : (t[i].k != 3) = false := by simp [hk]
          clear hn hk HW
          obtain ⟨d0, d1, d2, d3, d4⟩ := bc
          go_enter Tryz.func145, Tryz.ntmps145
          go_wp2_with fail
          refine HAT.mono ?_
          rintro e w' ⟨rfl, rfl⟩
          go_wp2_with fail
          refine (HNO _).mono ?_
          rintro e w3 ⟨rfl, hb3⟩
          have hall := HB0.out.trans (hb3.mono HB0.out.size)
          have HPC := HPUT _ t base w3 (HH.out.below hb3) HV.out HS.out HPP.out hl
          go_wp2_with fail
          refine HPC.mono ?_
          rintro e w9 ⟨x, rfl, hb9, hrow9, hx9⟩
          have HR9 := Lib.hid hrow9
          have HX9 := Lib.hid hx9
          clear hrow9 hx9
          go_wp2_with fail
          go_ret
          refine ⟨x, rfl, hall.trans (hb9.mono hall.size), ?_, HX9.out⟩
          rw [HD.out]
          exact ⟨HR9.out.1, own_down HR9.out.2.1 hall.size, HR9.out.2.2⟩
        · have HD : Hid (doR t ⟨rk, rm, rp, rb, false⟩ = putL (withoutL t rp false) (nodeOf ⟨rk, rm, rp, rb, false⟩)) := do_clears HN4.out (clears_at hn hk)
          have qk : (t[i].k != 3) = true := by simp [hk]
          have HWF := HW false
          clear hn hk HW
          obtain ⟨d0, d1, d2, d3, d4⟩ := bc
          go_enter Tryz.func145, Tryz.ntmps145
          go_wp2_with fail
          refine HAT.mono ?_
          rintro e w' ⟨rfl, rfl⟩
          go_wp2_with fail
          refine HWF.mono ?_
          rintro e w2 ⟨x2, rfl, hb2, hrow2, hx2⟩
          have bc2 : RecCells w2 w.heap.size 0 ⟨rk, rm, rp, rb, false⟩ := RecCells.below ⟨d0, d1, d2, d3, d4⟩ hb2 (by rw [← HW0.out]; simp)
          clear d0 d1 d2 d3 d4
          obtain ⟨d0, d1, d2, d3, d4⟩ := bc2
          obtain ⟨g2, cap2, rfl, _, _, _, _⟩ := notnil hrow2 hx2
          have HR2 := Lib.hid hrow2
          have HX2 := Lib.hid hx2
          clear hrow2 hx2
          have hall2 := HB0.out.trans (hb2.mono HB0.out.size)
          go_wp2_with fail
          refine (HNO _).mono ?_
          rintro e w3 ⟨rfl, hb3⟩
          have hall := hall2.trans (hb3.mono hall2.size)
          have HPC := HPUT _ (withoutL t rp false) W0.heap.size w3 (HR2.out.below hb3) HX2.out (without_sorted HS.out _ _) (fun x hx => HPP.out x (mem_without.1 hx).1) (Nat.le_trans (without_le _ _ _) hl)
          go_wp2_with fail
          refine HPC.mono ?_
          rintro e w9 ⟨x, rfl, hb9, hrow9, hx9⟩
          have HR9 := Lib.hid hrow9
          have HX9 := Lib.hid hx9
          clear hrow9 hx9
          go_wp2_with fail
          go_ret
          refine ⟨x, rfl, hall.trans (hb9.mono hall.size), ?_, HX9.out⟩
          rw [HD.out]
          exact ⟨HR9.out.1, own_down HR9.out.2.1 hall.size, HR9.out.2.2⟩
  · have q3 : (rk != 3) = true := by simp [h3]
    have HD : Hid (doR t ⟨rk, rm, rp, rb, ro⟩ = putL (withoutL t rp false) (nodeOf ⟨rk, rm, rp, rb, ro⟩)) := do_clears HN4.out (clears_stops (by unfold stops; simp [h3]))
    have HWF := HW false
    clear HW h3
    obtain ⟨d0, d1, d2, d3, d4⟩ := bc
    go_enter Tryz.func145, Tryz.ntmps145
    go_wp2_with fail
    refine HAT.mono ?_
    rintro e w' ⟨rfl, rfl⟩
    go_wp2_with fail
    refine HWF.mono ?_
    rintro e w2 ⟨x2, rfl, hb2, hrow2, hx2⟩
    have bc2 : RecCells w2 w.heap.size 0 ⟨rk, rm, rp, rb, ro⟩ := RecCells.below ⟨d0, d1, d2, d3, d4⟩ hb2 (by rw [← HW0.out]; simp)
    clear d0 d1 d2 d3 d4
    obtain ⟨d0, d1, d2, d3, d4⟩ := bc2
    obtain ⟨g2, cap2, rfl, _, _, _, _⟩ := notnil hrow2 hx2
    have HR2 := Lib.hid hrow2
    have HX2 := Lib.hid hx2
    clear hrow2 hx2
    have hall2 := HB0.out.trans (hb2.mono HB0.out.size)
    go_wp2_with fail
    refine (HNO _).mono ?_
    rintro e w3 ⟨rfl, hb3⟩
    have hall := hall2.trans (hb3.mono hall2.size)
    have HPC := HPUT _ (withoutL t rp false) W0.heap.size w3 (HR2.out.below hb3) HX2.out (without_sorted HS.out _ _) (fun x hx => HPP.out x (mem_without.1 hx).1) (Nat.le_trans (without_le _ _ _) hl)
    go_wp2_with fail
    refine HPC.mono ?_
    rintro e w9 ⟨x, rfl, hb9, hrow9, hx9⟩
    have HR9 := Lib.hid hrow9
    have HX9 := Lib.hid hx9
    clear hrow9 hx9
    go_wp2_with fail
    go_ret
    refine ⟨x, rfl, hall.trans (hb9.mono hall.size), ?_, HX9.out⟩
    rw [HD.out]
    exact ⟨HR9.out.1, own_down HR9.out.2.1 hall.size, HR9.out.2.2⟩
end Go.Proofs.YtjiljnfiofmpaaaGreatDoor.Recs

/- Applying layers to trees, of the model: a layer, a stack. -/

namespace Go.Proofs.YtjiljnfiofmpaaaGreatDoor.Recs
set_option maxRecDepth 100000
open Go.RowKit Paths

theorem apply_le : ∀ (l t : List R), (applyL l t).length ≤ t.length + l.length
  | [], t => Nat.le_refl _
  | r :: l, t => by
    have h1 := apply_le l (doR t r)
    have h2 := do_le t r
    show (applyL l (doR t r)).length ≤ _
    rw [List.length_cons]
    omega
theorem apply_path : ∀ (l : List R) {t : List R}, (∀ x ∈ l, pathB x.p.data.toList = true) → (∀ x ∈ t, pathB x.p.data.toList = true) → ∀ x ∈ applyL l t, pathB x.p.data.toList = true
  | [], _, _, h => h
  | r :: l, _, hl, h => apply_path l (fun x hx => hl x (List.mem_cons_of_mem _ hx)) (do_path h (hl r List.mem_cons_self))
theorem RowN.down {w : World} {base base' : Nat} {v : Value} {n : Nat} {M : List R} (h : RowN w base v n M) (hb : base' ≤ base) : RowN w base' v n M := ⟨h.1, own_down h.2.1 hb, h.2.2⟩
theorem mem_take_path {l : List R} (h : ∀ x ∈ l, pathB x.p.data.toList = true) (k : Nat) : ∀ x ∈ l.take k, pathB x.p.data.toList = true := fun x hx => h x (List.mem_of_mem_take hx)
theorem all_snoc (s : List (List R)) (t : List R) {k : Nat} (hk : k < s.length) : applyAllL (s.take (k + 1)) t = applyL s[k] (applyAllL (s.take k) t) := by
  unfold applyAllL
  rw [List.take_succ_eq_append_getElem hk, List.foldl_append]
  rfl
theorem all_sorted (s : List (List R)) {t : List R} (h : Sorted t) : Sorted (applyAllL s t) := by
  induction s generalizing t with
  | nil => exact h
  | cons l s ih => exact ih (apply_sorted l h)
theorem all_path (s : List (List R)) {t : List R} (hs : ∀ l ∈ s, ∀ x ∈ l, pathB x.p.data.toList = true) (h : ∀ x ∈ t, pathB x.p.data.toList = true) : ∀ x ∈ applyAllL s t, pathB x.p.data.toList = true := by
  induction s generalizing t with
  | nil => exact h
  | cons l s ih => exact ih (fun l' hl' => hs l' (List.mem_cons_of_mem _ hl')) (apply_path l (hs l List.mem_cons_self) h)
theorem all_le (s : List (List R)) (t : List R) (hs : ∀ l ∈ s, l.length ≤ 16) : (applyAllL s t).length ≤ t.length + 16 * s.length := by
  induction s generalizing t with
  | nil => exact Nat.le_refl _
  | cons l s ih =>
    have h1 := ih (applyL l t) (fun l' hl' => hs l' (List.mem_cons_of_mem _ hl'))
    have h2 := apply_le l t
    have h3 := hs l List.mem_cons_self
    show (applyAllL s (applyL l t)).length ≤ _
    rw [List.length_cons]
    omega
theorem row_nil {w : World} {base : Nat} {t : List R} (h : RowN w base (.slice none 0 0) t.length t) : t = [] := by
  have h1 := h.2.1.1
  have h2 := h.2.1.2
  rcases h2 with ⟨_, hn⟩ | ⟨g, cap, cur, e, _⟩
  · exact List.eq_nil_of_length_eq_zero hn
  · cases e
theorem row_cases {w : World} {base : Nat} {v : Value} {t : List R} (h : RowN w base v t.length t) : (v = .slice none 0 0 ∧ t = []) ∨ ∃ g cap, v = .slice (some ⟨g, 0, none⟩) t.length cap ∧ t.length ≤ cap := by
  by_cases hv : v = .slice none 0 0
  · subst hv
    exact .inl ⟨rfl, row_nil h⟩
  · obtain ⟨g, cap, rfl, hc, _⟩ := notnil h hv
    exact .inr ⟨g, cap, rfl, hc⟩
theorem nilN (w : World) (base : Nat) : RowN w base (.slice none 0 0) ([] : List R).length [] := ⟨rfl, World.ownsRow_nil _ _ _ _, fun x hx => by cases hx⟩

set_option maxHeartbeats 4000000 in
theorem l05Apply_any (v u : Value) (l t : List R) (base : Nat) (w : World) (h : RecSl w v l) (ht : RowN w base u t.length t) (hp : ∀ x ∈ l, pathB x.p.data.toList = true) (hs : Sorted t) (htp : ∀ x ∈ t, pathB x.p.data.toList = true) (hl : t.length + l.length ≤ 1000) :
    Calls Tryz.prog 95 #[v, u] w fun e w' => ∃ x, e = .returned x ∧ Below w.heap.size w w' ∧ RowN w' w.heap.size x (applyL l t).length (applyL l t) ∧ x ≠ .slice none 0 0 := by
  obtain ⟨sA, scap, rfl, hcap, h⟩ := h
  have H := Lib.hid h
  have HS := Lib.hid hs
  have HP := Lib.hid hp
  have HTP := Lib.hid htp
  clear h hs hp htp
  obtain ⟨i0, hi, hI0, hI1, hI2⟩ := info_parts nodInfo
  have hE : (w.alloc (.cells #[] 29)).ownsRow w.heap.size 29 4 (.slice (some ⟨w.heap.size, 0, none⟩) 0 0) 0 [] := World.ownsRow_lit w #[] 0 (Nat.le_refl _) (Nat.zero_le _) rfl
  have cE : Below w.heap.size w (w.alloc (.cells #[] 29)) := (Below.refl _ _).alloc (Nat.le_refl _) _
  rcases row_cases ht with ⟨rfl, ht0⟩ | ⟨g, cap, rfl, hgc⟩
  · have HR0 : Hid (RowN (w.alloc (.cells #[] 29)) w.heap.size (.slice (some ⟨w.heap.size, 0, none⟩) 0 0) t.length t ∧ (Value.slice (some ⟨w.heap.size, 0, none⟩) 0 0) ≠ .slice none 0 0) := (by
      show _ ∧ _
      rw [ht0]
      exact ⟨⟨rfl, hE, fun x hx => by cases hx⟩, fun e => by cases e⟩)
    clear ht ht0
    have cS := cE
    go_enter Tryz.func95, Tryz.ntmps95
    go_wp2_with (first
      | (at_builtin; refine wpList_append_own_none rfl _ _ 23 rfl w.heap.size 29 i0 4 Tryz.underlying23 hi _ _ _ rfl hE rfl ?_)
      | go_in)
    go_loopw [1, 5] (fun tv i wr => ∃ k : Nat, k ≤ l.length ∧ i = .int .i64 k ∧ Below w.heap.size w wr ∧ Hid (RowN wr w.heap.size tv (applyL (l.take k) t).length (applyL (l.take k) t) ∧ tv ≠ .slice none 0 0)) (fun _ i _ => l.length - (intOf i).toNat)
    case atStart => exact ⟨0, by omega, rfl, cS, HR0.out⟩
    case round =>
      obtain ⟨k, hk, rfl, hbw, HK⟩ := hrel
      by_cases hlt : k < l.length
      · obtain ⟨b, off, rfl, hb, hcell⟩ := H.out (by omega)
        obtain ⟨c0, c1, c2, c3, c4⟩ := (hcell k l[k] (by simp [hlt])).below hbw hb
        clear hcell
        have hi1 : (k : Int) < (l.length : Int) := by omega
        have hi0 : (0 : Int) ≤ (k : Int) := by omega
        obtain ⟨g2, cap2, rfl, _, _, _, _⟩ := notnil HK.out.1 HK.out.2
        have HLE := Lib.hid (apply_le (l.take k) t)
        have hle : (applyL (l.take k) t).length ≤ 1000 := by
          have h1 := HLE.out
          rw [List.length_take] at h1
          omega
        have HDO := l05Do_any _ (applyL (l.take k) t) l[k] w.heap.size wr HK.out.1 HK.out.2 (apply_sorted _ HS.out) (apply_path _ (mem_take_path HP.out k) HTP.out) (HP.out _ (List.getElem_mem hlt)) hle
        unfold R.val at HDO
        have HSN := Lib.hid (apply_snoc l t hlt)
        go_wp2_with fail
        refine HDO.mono ?_
        rintro e w2 ⟨x, rfl, hb2, hrow2, hx2⟩
        have HR2 := Lib.hid hrow2
        have HX2 := Lib.hid hx2
        clear hrow2 hx2
        go_wp2_with fail
        go_roundw
        case rel => exact ⟨k + 1, by omega, by go_num, hbw.trans (hb2.mono hbw.size), by
          show RowN _ _ _ _ _ ∧ _
          rw [HSN.out]
          exact ⟨HR2.out.down hbw.size, HX2.out⟩⟩
        case measure => simp [intOf]; omega
      · obtain rfl : k = l.length := by omega
        have HK2 := HK.out
        rw [List.take_of_length_le (Nat.le_refl _)] at HK2
        have HK3 := Lib.hid HK2
        clear HK2
        go_wp2
        go_ret
        exact ⟨_, rfl, hbw, HK3.out.1, HK3.out.2⟩
  · have hsrc := src_cells (ht.below cE) 0 t (.inl rfl)
    have hfl := flatN_len t
    have hone := flatN_one t
    have hbz := cE.size
    have HTN := Lib.hid ht
    rw [Nat.zero_mul] at hsrc
    go_enter Tryz.func95, Tryz.ntmps95
    go_wp2_with (first
      | (at_builtin; refine wpList_append_own _ rfl _ _ 23 rfl w.heap.size 29 i0 (.agg #[.int .i64 0, .string ByteArray.empty, .string ByteArray.empty, .int .i64 0]) 4 48 Tryz.underlying23 hi hI0 hI1 hI2 rfl (by decide) _ _ _ rfl hE ⟨g, 0, none⟩ t.length cap (flatN t) rfl hfl hsrc hone (by unfold maxLen; omega) (by omega) hbz ?_; intro v' w9 hown' hgrow9 hnil9; rw [Nat.zero_add, List.nil_append] at hown'; have HR0 : Hid (RowN w9 w.heap.size v' t.length t ∧ v' ≠ .slice none 0 0) := ⟨⟨rfl, hown', HTN.out.2.2⟩, fun e => by have := (hnil9.1 e).1; cases this⟩; have cS := cE.grown hgrow9 hbz (fun j hj => (hE.lt j hj).1); clear hown' hgrow9 hnil9 hsrc hone)
      | go_in)
    go_loopw [1, 5] (fun tv i wr => ∃ k : Nat, k ≤ l.length ∧ i = .int .i64 k ∧ Below w.heap.size w wr ∧ Hid (RowN wr w.heap.size tv (applyL (l.take k) t).length (applyL (l.take k) t) ∧ tv ≠ .slice none 0 0)) (fun _ i _ => l.length - (intOf i).toNat)
    case atStart => exact ⟨0, by omega, rfl, cS, HR0.out⟩
    case round =>
      obtain ⟨k, hk, rfl, hbw, HK⟩ := hrel
      by_cases hlt : k < l.length
      · obtain ⟨b, off, rfl, hb, hcell⟩ := H.out (by omega)
        obtain ⟨c0, c1, c2, c3, c4⟩ := (hcell k l[k] (by simp [hlt])).below hbw hb
        clear hcell
        have hi1 : (k : Int) < (l.length : Int) := by omega
        have hi0 : (0 : Int) ≤ (k : Int) := by omega
        obtain ⟨g2, cap2, rfl, _, _, _, _⟩ := notnil HK.out.1 HK.out.2
        have HLE := Lib.hid (apply_le (l.take k) t)
        have hle : (applyL (l.take k) t).length ≤ 1000 := by
          have h1 := HLE.out
          rw [List.length_take] at h1
          omega
        have HDO := l05Do_any _ (applyL (l.take k) t) l[k] w.heap.size wr HK.out.1 HK.out.2 (apply_sorted _ HS.out) (apply_path _ (mem_take_path HP.out k) HTP.out) (HP.out _ (List.getElem_mem hlt)) hle
        unfold R.val at HDO
        have HSN := Lib.hid (apply_snoc l t hlt)
        go_wp2_with fail
        refine HDO.mono ?_
        rintro e w2 ⟨x, rfl, hb2, hrow2, hx2⟩
        have HR2 := Lib.hid hrow2
        have HX2 := Lib.hid hx2
        clear hrow2 hx2
        go_wp2_with fail
        go_roundw
        case rel => exact ⟨k + 1, by omega, by go_num, hbw.trans (hb2.mono hbw.size), by
          show RowN _ _ _ _ _ ∧ _
          rw [HSN.out]
          exact ⟨HR2.out.down hbw.size, HX2.out⟩⟩
        case measure => simp [intOf]; omega
      · obtain rfl : k = l.length := by omega
        have HK2 := HK.out
        rw [List.take_of_length_le (Nat.le_refl _)] at HK2
        have HK3 := Lib.hid HK2
        clear HK2
        go_wp2
        go_ret
        exact ⟨_, rfl, hbw, HK3.out.1, HK3.out.2⟩

set_option maxHeartbeats 4000000 in
theorem l05All_any (v u : Value) (LL : List (List R)) (t : List R) (base : Nat) (w : World) (h : StkSl w v LL) (ht : RowN w base u t.length t) (hp : ∀ l ∈ LL, l.length ≤ 16 ∧ ∀ x ∈ l, pathB x.p.data.toList = true) (hs : Sorted t) (htp : ∀ x ∈ t, pathB x.p.data.toList = true) (hl : t.length + 16 * LL.length ≤ 900) :
    Calls Tryz.prog 106 #[v, u] w fun e w' => ∃ x, e = .returned x ∧ Below w.heap.size w w' ∧ RowN w' w.heap.size x (applyAllL LL t).length (applyAllL LL t) ∧ x ≠ .slice none 0 0 := by
  obtain ⟨sA, scap, rfl, hcap, h⟩ := h
  have H := Lib.hid h
  have HS := Lib.hid hs
  have HP := Lib.hid hp
  have HTP := Lib.hid htp
  clear h hs hp htp
  obtain ⟨i0, hi, hI0, hI1, hI2⟩ := info_parts nodInfo
  have hE : (w.alloc (.cells #[] 29)).ownsRow w.heap.size 29 4 (.slice (some ⟨w.heap.size, 0, none⟩) 0 0) 0 [] := World.ownsRow_lit w #[] 0 (Nat.le_refl _) (Nat.zero_le _) rfl
  have cE : Below w.heap.size w (w.alloc (.cells #[] 29)) := (Below.refl _ _).alloc (Nat.le_refl _) _
  rcases row_cases ht with ⟨rfl, ht0⟩ | ⟨g, cap, rfl, hgc⟩
  · have HR0 : Hid (RowN (w.alloc (.cells #[] 29)) w.heap.size (.slice (some ⟨w.heap.size, 0, none⟩) 0 0) t.length t ∧ (Value.slice (some ⟨w.heap.size, 0, none⟩) 0 0) ≠ .slice none 0 0) := (by
      show _ ∧ _
      rw [ht0]
      exact ⟨⟨rfl, hE, fun x hx => by cases hx⟩, fun e => by cases e⟩)
    clear ht ht0
    have cS := cE
    go_enter Tryz.func106, Tryz.ntmps106
    go_wp2_with (first
      | (at_builtin; refine wpList_append_own_none rfl _ _ 23 rfl w.heap.size 29 i0 4 Tryz.underlying23 hi _ _ _ rfl hE rfl ?_)
      | go_in)
    go_loopw [1, 5] (fun tv i wr => ∃ k : Nat, k ≤ LL.length ∧ i = .int .i64 k ∧ Below w.heap.size w wr ∧ Hid (RowN wr w.heap.size tv (applyAllL (LL.take k) t).length (applyAllL (LL.take k) t) ∧ tv ≠ .slice none 0 0)) (fun _ i _ => LL.length - (intOf i).toNat)
    case atStart => exact ⟨0, by omega, rfl, cS, HR0.out⟩
    case round =>
      obtain ⟨k, hk, rfl, hbw, HK⟩ := hrel
      by_cases hlt : k < LL.length
      · obtain ⟨b, off, rfl, hb, hcell⟩ := H.out (by omega)
        obtain ⟨u1, c1, hu1⟩ := hcell k LL[k] (by simp [hlt])
        have c1' := (hbw.cell (p := ⟨b, off + k, none⟩) hb).trans c1
        have hu2 := hu1.below hbw
        clear hcell c1
        have hi1 : (k : Int) < (LL.length : Int) := by omega
        have hi0 : (0 : Int) ≤ (k : Int) := by omega
        obtain ⟨g2, cap2, rfl, _, _, _, _⟩ := notnil HK.out.1 HK.out.2
        have HLE := Lib.hid (all_le (LL.take k) t (fun l hm => (HP.out l (List.mem_of_mem_take hm)).1))
        have hle : (applyAllL (LL.take k) t).length + LL[k].length ≤ 1000 := by
          have h1 := HLE.out
          have h2 := (HP.out _ (List.getElem_mem hlt)).1
          rw [List.length_take] at h1
          omega
        have HDO := l05Apply_any u1 _ LL[k] (applyAllL (LL.take k) t) w.heap.size wr hu2 HK.out.1 (HP.out _ (List.getElem_mem hlt)).2 (all_sorted _ HS.out) (all_path _ (fun l hm => (HP.out l (List.mem_of_mem_take hm)).2) HTP.out) hle
        obtain ⟨uA, ucap, rfl, _⟩ := hu1
        have HSN := Lib.hid (all_snoc LL t hlt)
        clear hu2
        go_wp2_with fail
        refine HDO.mono ?_
        rintro e w2 ⟨x, rfl, hb2, hrow2, hx2⟩
        have HR2 := Lib.hid hrow2
        have HX2 := Lib.hid hx2
        clear hrow2 hx2
        go_wp2_with fail
        go_roundw
        case rel => exact ⟨k + 1, by omega, by go_num, hbw.trans (hb2.mono hbw.size), by
          show RowN _ _ _ _ _ ∧ _
          rw [HSN.out]
          exact ⟨HR2.out.down hbw.size, HX2.out⟩⟩
        case measure => simp [intOf]; omega
      · obtain rfl : k = LL.length := by omega
        have HK2 := HK.out
        rw [List.take_of_length_le (Nat.le_refl _)] at HK2
        have HK3 := Lib.hid HK2
        clear HK2
        go_wp2
        go_ret
        exact ⟨_, rfl, hbw, HK3.out.1, HK3.out.2⟩
  · have hsrc := src_cells (ht.below cE) 0 t (.inl rfl)
    have hfl := flatN_len t
    have hone := flatN_one t
    have hbz := cE.size
    have HTN := Lib.hid ht
    rw [Nat.zero_mul] at hsrc
    go_enter Tryz.func106, Tryz.ntmps106
    go_wp2_with (first
      | (at_builtin; refine wpList_append_own _ rfl _ _ 23 rfl w.heap.size 29 i0 (.agg #[.int .i64 0, .string ByteArray.empty, .string ByteArray.empty, .int .i64 0]) 4 48 Tryz.underlying23 hi hI0 hI1 hI2 rfl (by decide) _ _ _ rfl hE ⟨g, 0, none⟩ t.length cap (flatN t) rfl hfl hsrc hone (by unfold maxLen; omega) (by omega) hbz ?_; intro v' w9 hown' hgrow9 hnil9; rw [Nat.zero_add, List.nil_append] at hown'; have HR0 : Hid (RowN w9 w.heap.size v' t.length t ∧ v' ≠ .slice none 0 0) := ⟨⟨rfl, hown', HTN.out.2.2⟩, fun e => by have := (hnil9.1 e).1; cases this⟩; have cS := cE.grown hgrow9 hbz (fun j hj => (hE.lt j hj).1); clear hown' hgrow9 hnil9 hsrc hone)
      | go_in)
    go_loopw [1, 5] (fun tv i wr => ∃ k : Nat, k ≤ LL.length ∧ i = .int .i64 k ∧ Below w.heap.size w wr ∧ Hid (RowN wr w.heap.size tv (applyAllL (LL.take k) t).length (applyAllL (LL.take k) t) ∧ tv ≠ .slice none 0 0)) (fun _ i _ => LL.length - (intOf i).toNat)
    case atStart => exact ⟨0, by omega, rfl, cS, HR0.out⟩
    case round =>
      obtain ⟨k, hk, rfl, hbw, HK⟩ := hrel
      by_cases hlt : k < LL.length
      · obtain ⟨b, off, rfl, hb, hcell⟩ := H.out (by omega)
        obtain ⟨u1, c1, hu1⟩ := hcell k LL[k] (by simp [hlt])
        have c1' := (hbw.cell (p := ⟨b, off + k, none⟩) hb).trans c1
        have hu2 := hu1.below hbw
        clear hcell c1
        have hi1 : (k : Int) < (LL.length : Int) := by omega
        have hi0 : (0 : Int) ≤ (k : Int) := by omega
        obtain ⟨g2, cap2, rfl, _, _, _, _⟩ := notnil HK.out.1 HK.out.2
        have HLE := Lib.hid (all_le (LL.take k) t (fun l hm => (HP.out l (List.mem_of_mem_take hm)).1))
        have hle : (applyAllL (LL.take k) t).length + LL[k].length ≤ 1000 := by
          have h1 := HLE.out
          have h2 := (HP.out _ (List.getElem_mem hlt)).1
          rw [List.length_take] at h1
          omega
        have HDO := l05Apply_any u1 _ LL[k] (applyAllL (LL.take k) t) w.heap.size wr hu2 HK.out.1 (HP.out _ (List.getElem_mem hlt)).2 (all_sorted _ HS.out) (all_path _ (fun l hm => (HP.out l (List.mem_of_mem_take hm)).2) HTP.out) hle
        obtain ⟨uA, ucap, rfl, _⟩ := hu1
        have HSN := Lib.hid (all_snoc LL t hlt)
        clear hu2
        go_wp2_with fail
        refine HDO.mono ?_
        rintro e w2 ⟨x, rfl, hb2, hrow2, hx2⟩
        have HR2 := Lib.hid hrow2
        have HX2 := Lib.hid hx2
        clear hrow2 hx2
        go_wp2_with fail
        go_roundw
        case rel => exact ⟨k + 1, by omega, by go_num, hbw.trans (hb2.mono hbw.size), by
          show RowN _ _ _ _ _ ∧ _
          rw [HSN.out]
          exact ⟨HR2.out.down hbw.size, HX2.out⟩⟩
        case measure => simp [intOf]; omega
      · obtain rfl : k = LL.length := by omega
        have HK2 := HK.out
        rw [List.take_of_length_le (Nat.le_refl _)] at HK2
        have HK3 := Lib.hid HK2
        clear HK2
        go_wp2
        go_ret
        exact ⟨_, rfl, hbw, HK3.out.1, HK3.out.2⟩
end Go.Proofs.YtjiljnfiofmpaaaGreatDoor.Recs
