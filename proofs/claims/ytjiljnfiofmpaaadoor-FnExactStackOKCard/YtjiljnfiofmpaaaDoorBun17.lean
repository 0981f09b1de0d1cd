/- Several texts of mine in one file (each begins with its own remark). -/
import Derived.Test.YtjiljnfiofmpaaaDoorBun15
import Derived.Deep.RegionHeld3
/- Rows of nodes: parts of a row as the source of an append; a copy of a list of nodes that is never nil. -/

namespace Go.Proofs.YtjiljnfiofmpaaaDoor.Recs
set_option maxRecDepth 100000
open Go.RowKit Paths

theorem flatN_append (a b : List R) : flatN (a ++ b) = flatN a ++ flatN b := by simp [flatN]
theorem flatN_take (l : List R) (k : Nat) : flatN (l.take k) = (flatN l).take (k * 4) := by
  by_cases hk : k ≤ l.length
  · conv => rhs; rw [← List.take_append_drop k l, flatN_append]
    rw [List.take_left' (by rw [flatN_len, List.length_take]; omega)]
  · rw [List.take_of_length_le (by omega), List.take_of_length_le (by rw [flatN_len]; omega)]
theorem flatN_drop (l : List R) (k : Nat) : flatN (l.drop k) = (flatN l).drop (k * 4) := by
  by_cases hk : k ≤ l.length
  · conv => rhs; rw [← List.take_append_drop k l, flatN_append]
    rw [List.drop_left' (by rw [flatN_len, List.length_take]; omega)]
  · rw [List.drop_eq_nil_of_le (by omega), List.drop_eq_nil_of_le (by rw [flatN_len]; omega)]
    rfl
theorem flatN_one (l : List R) : ∀ u ∈ flatN l, u.oneCell' = true := by
  intro u hu
  unfold flatN at hu
  rw [List.mem_flatMap] at hu
  obtain ⟨r, _, hr⟩ := hu
  exact nodR_one r u hr
/-- The cells of a part of a row. -/
theorem src_cells {w : World} {base g cap n : Nat} {l : List R} (h : RowN w base (.slice (some ⟨g, 0, none⟩) n cap) n l) (i : Nat) (m : List R) (hm : m = l.drop i ∨ (i = 0 ∧ ∃ k, m = l.take k)) :
    ∀ j u, (flatN m)[j]? = some u → w.cell? ((⟨g, i * 4, none⟩ : Addr).add j) = some u := by
  intro j u hj
  rw [Addr.add_lit]
  have key : (flatN l)[i * 4 + j]? = some u := by
    rcases hm with rfl | ⟨rfl, k, rfl⟩
    · rw [flatN_drop, List.getElem?_drop] at hj
      exact hj
    · rw [flatN_take, List.getElem?_take] at hj
      split at hj
      · rw [Nat.zero_mul, Nat.zero_add]; exact hj
      · cases hj
  have hlt : i * 4 + j < n * 4 := by
    have := (List.getElem?_eq_some_iff.1 key).1
    rw [flatN_len, h.1] at this
    exact this
  rw [h.2.1.cellAt (i * 4 + j) hlt]
  exact key
theorem rowN_of {w : World} {base : Nat} {v : Value} {n : Nat} {M : List R} (h : w.ownsRow base 40 4 v n (flatN M)) (hn : M.length = n) (hM : ∀ x ∈ M, x.o = false) : RowN w base v n M := ⟨hn, h, hM⟩
theorem notnil {w : World} {base : Nat} {v : Value} {n : Nat} {M : List R} (h : RowN w base v n M) (hv : v ≠ .slice none 0 0) : ∃ g cap, v = .slice (some ⟨g, 0, none⟩) n cap ∧ n ≤ cap ∧ cap ≤ maxLen ∧ base ≤ g ∧ g < w.heap.size := by
  rcases h.2.1.2 with ⟨rfl, _⟩ | ⟨g, cap, cur, rfl, hb, hg, hc, hm, _⟩
  · exact absurd rfl hv
  · exact ⟨g, cap, rfl, hc, hm, hb, (Array.getElem?_eq_some_iff.1 hg).1⟩

set_option maxHeartbeats 800000 in
theorem toNodeS_some (v : Value) (l : List R) (w : World) (h : NodSl w v l) (hl : l.length ≤ 1048576) :
    Calls Tryd.prog 8 #[v] w fun e w' => ∃ x, e = .returned x ∧ Below w.heap.size w w' ∧ RowN w' w.heap.size x l.length l ∧ x ≠ .slice none 0 0 := by
  obtain ⟨i0, hi, hz0, hz1, hz2⟩ := info_parts nodInfo
  obtain ⟨ho, A, cap, rfl, hcap, h⟩ := h
  have H := Lib.hid h
  clear h
  obtain ⟨w0, hr, hown, hg⟩ := run_make_full (P := Tryd.prog) w w.heap.size 25 40 i0 _ 4 Tryd.underlying25 hi hz0 hz1 .i64 .i64 l.length (by rw [hz2]; omega) (by unfold maxLen; omega) (Nat.le_refl _)
  rw [madeN_flat] at hown
  have hrow : RowN w0 w.heap.size (.slice (some ⟨w.heap.size, 0, none⟩) l.length l.length) l.length (List.replicate l.length zR) := ⟨by simp, hown, fun r hm => by rw [(List.mem_replicate.1 hm).2]; rfl⟩
  have hb0 : Below w.heap.size w w0 := (Below.refl _ _).grown hg (Nat.le_refl _) (fun k hk => by cases hk)
  clear hown hg
  go_enter Tryd.func8, Tryd.ntmps8
  go_wp2
  go_loopw [4] (fun i wr => ∃ (j : Nat) (M : List R), j ≤ l.length ∧ i = .int .i64 j ∧ RowN wr w.heap.size (.slice (some ⟨w.heap.size, 0, none⟩) l.length l.length) l.length M ∧ Hid (M.take j = l.take j) ∧ Below w.heap.size w wr) (fun i _ => l.length - (intOf i).toNat)
  case atStart => exact ⟨0, _, by omega, rfl, hrow, rfl, hb0⟩
  case round =>
    obtain ⟨j, M, hj, rfl, hrj, HM, hbw⟩ := hrel
    by_cases hlt : j < l.length
    · obtain ⟨b, off, rfl, hb, hcell⟩ := H.out (by omega)
      obtain ⟨c0, c1, c2, c3⟩ := (hcell j l[j] (by simp [hlt])).below hbw hb
      clear hcell
      have hi1 : (j : Int) < (l.length : Int) := by omega
      have hi0 : (0 : Int) ≤ (j : Int) := by omega
      go_wp2_with fail
      refine (toNode_any _ _ _ _ _).mono ?_
      rintro e w1 ⟨rfl, hb1⟩
      have hr1 := hrj.below hb1
      have hm : j < M.length := by rw [hrj.1]; exact hlt
      obtain ⟨d0, d1, d2, d3⟩ := hr1.cells hm
      have hf := hr1.frozen
      have HS := Lib.hid (hr1.store l[j] hm (ho l[j] (List.getElem_mem hlt)))
      have HT := Lib.hid (set_take hm hlt HM.out)
      have hbw1 := hbw.trans (hb1.mono hbw.size)
      clear hr1 c0 c1 c2 c3
      go_wp2
      go_roundw
      case rel => exact ⟨j + 1, _, by omega, by go_num, HS.out.1, HT, hbw1.grown HS.out.2 hbw1.size (fun k hk => by cases hk; exact Nat.le_refl _)⟩
      case measure => simp [intOf]; omega
    · obtain rfl : j = l.length := by omega
      go_wp2
      go_ret
      refine ⟨_, rfl, hbw, ?_, by simp⟩
      have := HM.out
      rw [List.take_of_length_le (by rw [hrj.1]; exact Nat.le_refl _), List.take_of_length_le (Nat.le_refl _)] at this
      subst this
      exact hrj

theorem own_down {w : World} {base base' : Nat} {e : TypeId} {size : Nat} {v : Value} {n : Nat} {xs : List Value} (h : w.ownsRow base e size v n xs) (hb : base' ≤ base) : w.ownsRow base' e size v n xs := by
  obtain ⟨h1, h2⟩ := h
  refine ⟨h1, ?_⟩
  rcases h2 with h2 | ⟨g, cap', cur, a, b, c⟩
  · exact .inl h2
  · exact .inr ⟨g, cap', cur, a, Nat.le_trans hb b, c⟩
end Go.Proofs.YtjiljnfiofmpaaaDoor.Recs
