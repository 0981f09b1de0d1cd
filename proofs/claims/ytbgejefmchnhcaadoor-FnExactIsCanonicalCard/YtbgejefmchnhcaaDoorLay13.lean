/- Layers: the canonical form, of the program. -/
import Derived.Test.YtbgejefmchnhcaaDoorLay12
namespace Go.Proofs.YtbgejefmchnhcaaDoor.Recs
set_option maxRecDepth 100000
open Go.RowKit Paths Errs

theorem canon_skip {l : List R} {r : R} (hu : underL l r.p = true) (hk : r.k = 4) : canonR l r = none := by unfold canonR; rw [if_pos hu, if_pos hk]
theorem canon_under {l : List R} {r : R} (hu : underL l r.p = true) (hk : r.k ≠ 4) : canonR l r = some { r with o := false } := by unfold canonR; rw [if_pos hu, if_neg hk]
theorem canon_deep {l : List R} {r : R} (hu : underL l r.p = false) (hd : (cutAt 47 r.p.data.toList).length = 4) : canonR l r = some { r with o := false } := by
  unfold canonR; rw [if_neg (by rw [hu]; decide), hd]; simp
theorem canon_plain {l : List R} {r : R} (hu : underL l r.p = false) (hd : (cutAt 47 r.p.data.toList).length < 4) : canonR l r = some r := by
  unfold canonR; rw [if_neg (by rw [hu]; decide), decide_eq_true hd]; simp
/-- What is done, and what is still to do. -/
def Done (l : List R) (k : Nat) (M : List R) : Prop := canonL l = M ++ (l.drop k).filterMap (canonR l)
theorem done_start (l : List R) : Done l 0 [] := rfl
theorem done_skip {l M : List R} {k : Nat} (hk : k < l.length) (h : Done l k M) (hc : canonR l l[k] = none) : Done l (k + 1) M := by
  unfold Done at h ⊢
  rw [h, List.drop_eq_getElem_cons hk, List.filterMap_cons, hc]
theorem done_take {l M : List R} {k : Nat} {r : R} (hk : k < l.length) (h : Done l k M) (hc : canonR l l[k] = some r) : Done l (k + 1) (M ++ [r]) := by
  unfold Done at h ⊢
  rw [h, List.drop_eq_getElem_cons hk, List.filterMap_cons, hc]
  simp
theorem done_end {l M : List R} {k : Nat} (hk : l.length ≤ k) (h : Done l k M) : canonL l = M := by
  unfold Done at h
  rw [h, List.drop_eq_nil_of_le hk]
  simp
theorem flat_snoc (M : List R) (r : R) : flat (M ++ [r]) = flat M ++ r.cs := by unfold flat; rw [List.flatMap_append]; simp
theorem done_len {l M : List R} {k : Nat} (h : Done l k M) (hl : l.length ≤ 16) : M.length ≤ 16 := by
  have h1 : (canonL l).length ≤ l.length := List.length_filterMap_le _ _
  unfold Done at h
  rw [h, List.length_append] at h1
  omega
theorem rec_cells_new (w : World) (r : R) (t : TypeId) (j : Nat) (u : Value) (h : r.cs[j]? = some u) : (w.alloc (.cells #[.int .i64 r.k, .string r.p, .string r.b, .int .i64 r.m, .bool r.o] t)).cell? ((⟨w.heap.size, 0, none⟩ : Addr).add j) = some u := by
  rw [Addr.add_lit]
  match j, h with
  | 0, h => cases h; go_simp
  | 1, h => cases h; go_simp
  | 2, h => cases h; go_simp
  | 3, h => cases h; go_simp
  | 4, h => cases h; go_simp
  | j + 5, h => simp [R.cs] at h
theorem rec_one (r : R) : ∀ u ∈ r.cs, u.oneCell' = true := by
  intro u hu
  simp only [R.cs, List.mem_cons, List.not_mem_nil, or_false] at hu
  rcases hu with rfl | rfl | rfl | rfl | rfl <;> rfl
theorem RowOf.ne {w : World} {base : Nat} {v : Value} {n : Nat} {M : List R} (h : RowOf w base v n M) : v.ownBlock ≠ some w.heap.size := fun e => by
  have := (h.2.lt _ e).2
  omega
theorem RowOf.form {w : World} {base : Nat} {v : Value} {n : Nat} {M : List R} (h : RowOf w base v n M) : ∃ A cap, v = .slice A n cap := own_form h.2

theorem row_snoc {w : World} {base : Nat} {v : Value} {M : List R} {r : R} (h : w.ownsRow base 32 5 v (M.length + 1) (flat M ++ r.cs)) : RowOf w base v (M ++ [r]).length (M ++ [r]) :=
  ⟨rfl, by rw [flat_snoc, List.length_append]; exact h⟩

set_option maxHeartbeats 3200000 in
theorem canonicalForm_any (v : Value) (l : List R) (w : World) (h : RecSl w v l) (hok : layerOK l = true) (hr : ∀ r ∈ l, r.p.size ≤ maxLen) :
    Calls Tryd.prog 41 #[v] w fun e w' => ∃ x, e = .returned x ∧ Below w.heap.size w w' ∧ RowOf w' w.heap.size x (canonL l).length (canonL l) := by
  obtain ⟨i0, hi, hI0, hI1, hI2⟩ := info_parts recInfo
  have hl16 := layer_len hok
  have hsl := h
  obtain ⟨A, cap, rfl, hcap, h⟩ := h
  have HSl := Lib.hid hsl
  have H := Lib.hid h
  have HO := Lib.hid hok
  clear h hsl hok
  go_enter Tryd.func41, Tryd.ntmps41
  go_wp2
  go_loopw [3, 9] (fun f i wr => ∃ (k : Nat) (M : List R), k ≤ l.length ∧ i = .int .i64 k ∧ RowOf wr w.heap.size f M.length M ∧ Hid (Done l k M) ∧ Below w.heap.size w wr) (fun _ i _ => l.length - (intOf i).toNat)
  case atStart => exact ⟨0, [], by omega, rfl, ⟨rfl, World.ownsRow_nil _ _ _ _⟩, done_start l, Below.refl _ _⟩
  case round =>
    obtain ⟨k, M, hk, rfl, hrow, HD, hbw⟩ := hrel
    by_cases hlt : k < l.length
    · obtain ⟨b, off, rfl, hb, hcell⟩ := H.out (by omega)
      obtain ⟨c0, c1, c2, c3, c4⟩ := (hcell k l[k] (by simp [hlt])).below hbw hb
      clear hcell
      have hi1 : (k : Int) < (l.length : Int) := by omega
      have hi0 : (0 : Int) ≤ (k : Int) := by omega
      have hm := List.getElem_mem hlt
      have hp := (fault_path (layer_rec HO.out hm)).1
      have HU := Lib.hid (under_same HO.out hp)
      have hq := hr l[k] hm
      have hM := done_len HD.out hl16
      obtain ⟨fA, fcap, rfl⟩ := hrow.form
      have hbA : Below wr.heap.size wr (wr.alloc (.cells #[.int .i64 l[k].k, .string l[k].p, .string l[k].b, .int .i64 l[k].m, .bool l[k].o] 32)) := (Below.refl _ _).alloc (Nat.le_refl _) _
      have hslA := HSl.out.below (hbw.trans (hbA.mono hbw.size))
      have HC := underOpaque_any _ l l[k].p _ hslA (by omega) hq hr
      rw [HU.out] at HC
      have hrA := hrow.below hbA
      rcases Bool.eq_false_or_eq_true (underL l l[k].p) with hu | hu
      · rw [hu] at HC
        by_cases h4 : l[k].k = 4
        · have HN := Lib.hid (done_skip hlt HD.out (canon_skip hu h4))
          have hd4 : (l[k].k == 4) = true := by simpa using h4
          clear h4
          go_wp2_with fail
          refine HC.mono ?_
          rintro e w1 ⟨rfl, hb1⟩
          obtain ⟨hc1, hf1⟩ := bcell hb1
          have hz1 : wr.heap.size < w1.heap.size := by have := hb1.size; simp at this; omega
          have cA := hbw.trans (hbA.mono hbw.size)
          have c1 := cA.trans (hb1.mono cA.size)
          go_wp2_with fail
          exact ⟨⟨k + 1, M, by omega, by go_num, hrA.below hb1, HN, c1⟩, by simp [intOf]; omega⟩
        · have HN := Lib.hid (done_take hlt HD.out (canon_under hu h4))
          have hd4 : (l[k].k == 4) = false := by simpa using h4
          clear h4
          go_wp2_with fail
          refine HC.mono ?_
          rintro e w1 ⟨rfl, hb1⟩
          obtain ⟨hc1, hf1⟩ := bcell hb1
          have hz1 : wr.heap.size < w1.heap.size := by have := hb1.size; simp at this; omega
          have cA := hbw.trans (hbA.mono hbw.size)
          have c1 := cA.trans (hb1.mono cA.size)
          have hr2 : RowOf (w1.setCell ⟨wr.heap.size, 4, none⟩ (.bool false)) w.heap.size (.slice fA M.length fcap) M.length M := ⟨rfl, ownsRow_setCell_other (hrA.below hb1).2 hrow.ne _⟩
          have cW : Below w.heap.size w (w1.setCell ⟨wr.heap.size, 4, none⟩ (.bool false)) := c1.setCell hbw.size _
          have hr3 : ((w1.setCell ⟨wr.heap.size, 4, none⟩ (.bool false)).alloc (.cells #[.int .i64 l[k].k, .string l[k].p, .string l[k].b, .int .i64 l[k].m, .bool false] 32)).ownsRow w.heap.size 32 5 (.slice fA M.length fcap) M.length (flat M) := hr2.2.alloc _
          have hsz : (w1.setCell ⟨wr.heap.size, 4, none⟩ (.bool false)).heap.size = w1.heap.size := by simp [World.setCell]
          have hnews := rec_cells_new (w1.setCell ⟨wr.heap.size, 4, none⟩ (.bool false)) { l[k] with o := false } 32
          rw [hsz] at hnews
          have hone := rec_one { l[k] with o := false }
          have hbz : w.heap.size ≤ ((w1.setCell ⟨wr.heap.size, 4, none⟩ (.bool false)).alloc (.cells #[.int .i64 l[k].k, .string l[k].p, .string l[k].b, .int .i64 l[k].m, .bool false] 32)).heap.size := (cW.alloc cW.size _).size
          go_wp2_with (first
            | (at_builtin; refine wpList_append_own _ rfl _ _ 26 rfl w.heap.size 32 i0 (.agg #[.int .i64 0, .string ByteArray.empty, .string ByteArray.empty, .int .i64 0, .bool false]) 5 56 Tryd.underlying26 hi hI0 hI1 hI2 rfl (by decide) _ _ _ rfl hr3 ⟨w1.heap.size, 0, none⟩ 1 1 (R.cs { l[k] with o := false }) rfl rfl hnews hone (by unfold maxLen; omega) (by omega) hbz ?_; intro v' w9 hown' hgrow9 hnil9))
          exact ⟨⟨k + 1, M ++ [{ l[k] with o := false }], by omega, by go_num, row_snoc hown', HN, (cW.alloc cW.size _).grown hgrow9 hbz (fun j hj => (hrow.2.lt j hj).1)⟩, by simp [intOf]; omega⟩
      · rw [hu] at HC
        go_wp2_with fail
        refine HC.mono ?_
        rintro e w1 ⟨rfl, hb1⟩
        obtain ⟨hc1, hf1⟩ := bcell hb1
        have hz1 : wr.heap.size < w1.heap.size := by have := hb1.size; simp at this; omega
        have cA := hbw.trans (hbA.mono hbw.size)
        have c1 := cA.trans (hb1.mono cA.size)
        go_wp2_with fail
        refine (splitPath_any _ _ hq).mono ?_
        rintro e w2 ⟨v2, rfl, hb2, ho2, -, -⟩
        rw [partsOf_yes hp] at ho2
        obtain ⟨A2, cap2, rfl⟩ := own_form ho2
        obtain ⟨hc2, hf2⟩ := bcell hb2
        have hz2 : wr.heap.size < w2.heap.size := by have := hb2.size; omega
        have c2 := c1.trans (hb2.mono c1.size)
        have hp4 := (pathB_parts hp).1
        by_cases h4 : (cutAt 47 l[k].p.data.toList).length = 4
        · have HN := Lib.hid (done_take hlt HD.out (canon_deep hu h4))
          rw [h4]
          have hr2 : RowOf (w2.setCell ⟨wr.heap.size, 4, none⟩ (.bool false)) w.heap.size (.slice fA M.length fcap) M.length M := ⟨rfl, ownsRow_setCell_other ((hrA.below hb1).below hb2).2 hrow.ne _⟩
          have cW : Below w.heap.size w (w2.setCell ⟨wr.heap.size, 4, none⟩ (.bool false)) := c2.setCell hbw.size _
          have hr3 : ((w2.setCell ⟨wr.heap.size, 4, none⟩ (.bool false)).alloc (.cells #[.int .i64 l[k].k, .string l[k].p, .string l[k].b, .int .i64 l[k].m, .bool false] 32)).ownsRow w.heap.size 32 5 (.slice fA M.length fcap) M.length (flat M) := hr2.2.alloc _
          have hsz : (w2.setCell ⟨wr.heap.size, 4, none⟩ (.bool false)).heap.size = w2.heap.size := by simp [World.setCell]
          have hnews := rec_cells_new (w2.setCell ⟨wr.heap.size, 4, none⟩ (.bool false)) { l[k] with o := false } 32
          rw [hsz] at hnews
          have hone := rec_one { l[k] with o := false }
          have hbz : w.heap.size ≤ ((w2.setCell ⟨wr.heap.size, 4, none⟩ (.bool false)).alloc (.cells #[.int .i64 l[k].k, .string l[k].p, .string l[k].b, .int .i64 l[k].m, .bool false] 32)).heap.size := (cW.alloc cW.size _).size
          go_wp2_with (first
            | (at_builtin; refine wpList_append_own _ rfl _ _ 26 rfl w.heap.size 32 i0 (.agg #[.int .i64 0, .string ByteArray.empty, .string ByteArray.empty, .int .i64 0, .bool false]) 5 56 Tryd.underlying26 hi hI0 hI1 hI2 rfl (by decide) _ _ _ rfl hr3 ⟨w2.heap.size, 0, none⟩ 1 1 (R.cs { l[k] with o := false }) rfl rfl hnews hone (by unfold maxLen; omega) (by omega) hbz ?_; intro v' w9 hown' hgrow9 hnil9))
          exact ⟨⟨k + 1, M ++ [{ l[k] with o := false }], by omega, by go_num, row_snoc hown', HN, (cW.alloc cW.size _).grown hgrow9 hbz (fun j hj => (hrow.2.lt j hj).1)⟩, by simp [intOf]; omega⟩
        · have HN := Lib.hid (done_take hlt HD.out (canon_plain hu (by omega)))
          have hd4 : (((cutAt 47 l[k].p.data.toList).length : Int) == 4) = false := by simp; omega
          have hr2 : RowOf w2 w.heap.size (.slice fA M.length fcap) M.length M := (hrA.below hb1).below hb2
          have cW := c2
          have hr3 : (w2.alloc (.cells #[.int .i64 l[k].k, .string l[k].p, .string l[k].b, .int .i64 l[k].m, .bool l[k].o] 32)).ownsRow w.heap.size 32 5 (.slice fA M.length fcap) M.length (flat M) := hr2.2.alloc _
          have hsz : w2.heap.size = w2.heap.size := rfl
          have hnews := rec_cells_new w2 { l[k] with o := l[k].o } 32
          rw [hsz] at hnews
          have hone := rec_one { l[k] with o := l[k].o }
          have hbz : w.heap.size ≤ (w2.alloc (.cells #[.int .i64 l[k].k, .string l[k].p, .string l[k].b, .int .i64 l[k].m, .bool l[k].o] 32)).heap.size := (cW.alloc cW.size _).size
          go_wp2_with (first
            | (at_builtin; refine wpList_append_own _ rfl _ _ 26 rfl w.heap.size 32 i0 (.agg #[.int .i64 0, .string ByteArray.empty, .string ByteArray.empty, .int .i64 0, .bool false]) 5 56 Tryd.underlying26 hi hI0 hI1 hI2 rfl (by decide) _ _ _ rfl hr3 ⟨w2.heap.size, 0, none⟩ 1 1 (R.cs { l[k] with o := l[k].o }) rfl rfl hnews hone (by unfold maxLen; omega) (by omega) hbz ?_; intro v' w9 hown' hgrow9 hnil9))
          exact ⟨⟨k + 1, M ++ [{ l[k] with o := l[k].o }], by omega, by go_num, row_snoc hown', HN, (cW.alloc cW.size _).grown hgrow9 hbz (fun j hj => (hrow.2.lt j hj).1)⟩, by simp [intOf]; omega⟩
    · have HE := Lib.hid (done_end (by omega) HD.out)
      go_wp2
      go_ret
      exact ⟨_, rfl, hbw, by rw [HE.out]; exact hrow⟩
end Go.Proofs.YtbgejefmchnhcaaDoor.Recs
