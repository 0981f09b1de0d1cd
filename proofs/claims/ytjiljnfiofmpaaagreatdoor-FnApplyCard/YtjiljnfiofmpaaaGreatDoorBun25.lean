/- Several texts of mine in one file (each begins with its own remark). -/
import Derived.Test.YtjiljnfiofmpaaaGreatDoorBun23
import Derived.Test.YtjiljnfiofmpaaaGreatDoorBun24
import Derived.Shelf.SlSortCmp.NoneTotal
/- The program: layers applied to a tree by its map of paths; the answer in a slice of its own. -/

namespace Go.Proofs.YtjiljnfiofmpaaaGreatDoor.Recs
set_option maxRecDepth 100000
open Go.RowKit Paths

theorem collectN_any (Bm b nn : Nat) (t : List R) (w : World) (hBm : Bm < w.heap.size) (hm : w.cell? ⟨Bm, 0, none⟩ = some (.map (some b))) (hM : MapT w b nn t) (hnn : nn ≤ 100000) :
    Calls Tryz.prog 188 #[.func (.func 190) #[] #[.pointer (some ⟨Bm, 0, none⟩)]] w fun e w' =>
      ∃ v xs, e = .returned v ∧ Below w.heap.size w w' ∧ AllT t xs ∧ w'.ownsRow w.heap.size 29 4 v xs.length (flatN xs) := by
  have HC := callsIn_wide.1 (appendSeq_in Fence.wide 6 trivial trivial rfl (by omega) Bm b nn t w hBm hm hM hnn)
  clear hm hM
  go_enter Tryz.func188, Tryz.ntmps188
  go_wp2_with fail
  refine HC.mono ?_
  rintro e w1 ⟨v, xs, rfl, hb1, hx, hrow⟩
  have HX := Lib.hid hx
  have HR := Lib.hid hrow
  clear hx hrow
  go_wp2_with fail
  go_ret
  exact ⟨v, xs, rfl, hb1, HX.out, HR.out⟩

theorem allT_len {t xs : List R} (h : AllT t xs) (ht : t.Nodup) : xs.length = t.length := (List.perm_ext_iff_of_nodup h.1 ht).2 h.2 |>.length_eq
theorem sorted_nodup {t : List R} (h : Sorted t) : t.Nodup := List.Pairwise.imp (fun {a b} (hl : lessR a b = true) => fun e => by
  subst e
  unfold lessR at hl
  rw [lessP_irrefl] at hl
  cases hl) h

set_option maxHeartbeats 1000000 in
theorem sortedN_any (Bm b nn : Nat) (t : List R) (w : World) (hBm : Bm < w.heap.size) (hm : w.cell? ⟨Bm, 0, none⟩ = some (.map (some b))) (hM : MapT w b nn t) (hnn : nn ≤ 100000) (ht : Sorted t) (hp : ∀ x ∈ t, pathB x.p.data.toList = true) (hl : t.length ≤ 100000) :
    Calls Tryz.prog 170 #[.func (.func 190) #[] #[.pointer (some ⟨Bm, 0, none⟩)], .func (.func 172) #[] #[]] w fun e w' =>
      ∃ v, e = .returned v ∧ Below w.heap.size w w' ∧ RowN w' w.heap.size v t.length t := by
  have HC := collectN_any Bm b nn t w hBm hm hM hnn
  have HMO := Lib.hid hM.2
  clear hm hM
  go_enter Tryz.func170, Tryz.ntmps170
  go_wp2_with fail
  refine HC.mono ?_
  rintro e w1 ⟨v, xs, rfl, hb1, hx, hrow⟩
  have hxl := allT_len hx (sorted_nodup ht)
  by_cases hv : v = .slice none 0 0
  · subst hv
    have hx0 : xs = [] := by
      rcases hrow.2 with ⟨_, hn⟩ | ⟨g, cap, cur, e, _⟩
      · exact List.eq_nil_of_length_eq_zero hn
      · cases e
    have HT0 : Hid (t = []) := List.eq_nil_of_length_eq_zero (by rw [← hxl, hx0]; rfl)
    have HN := AnyF.slices_SortFunc_none Tryz.sortN none 0 (.func (.func 172) #[] #[]) w1
    change Calls Tryz.prog 189 _ _ _ at HN
    clear hx hrow hx0 hxl
    go_wp2_with fail
    refine HN.mono ?_
    rintro e w2 ⟨rfl, rfl⟩
    go_wp2_with fail
    go_ret
    exact ⟨_, rfl, hb1, by rw [HT0.out]; exact nilN _ _⟩
  · obtain ⟨g, cap, rfl⟩ : ∃ g cap, v = .slice (some ⟨g, 0, none⟩) xs.length cap := by
      rcases hrow.2 with ⟨e, _⟩ | ⟨g, cap, cur, e, _⟩
      · exact absurd e hv
      · exact ⟨g, cap, e⟩
    have HS := sortN_any g cap xs t w.heap.size w1 hrow hx ht hp (by omega)
    have hgl := (hrow.lt g rfl)
    have HXL := Lib.hid hxl
    clear hx hrow hv hxl
    go_wp2_with fail
    refine HS.mono ?_
    rintro e w2 ⟨rfl, hg2, hlen, hrow2⟩
    have HR2 := Lib.hid hrow2
    have hb2 := hb1.grown hg2 hb1.size (fun k hk => by cases hk; exact hgl.1)
    clear hrow2 hg2 hlen
    go_wp2_with fail
    go_ret
    refine ⟨_, rfl, hb2, rfl, ?_, HMO.out⟩
    have := HR2.out
    rw [HXL.out] at this ⊢
    exact this

set_option maxHeartbeats 1000000 in
theorem mapTree_any (b nn : Nat) (t : List R) (w : World) (hM : MapT w b nn t) (hnn : nn ≤ 100000) (ht : Sorted t) (hp : ∀ x ∈ t, pathB x.p.data.toList = true) (hl : t.length ≤ 100000) :
    Calls Tryz.prog 143 #[.map (some b)] w fun e w' => ∃ v, e = .returned v ∧ Below w.heap.size w w' ∧ RowN w' w.heap.size v t.length t := by
  have hb1 : Below w.heap.size w (w.alloc (.cells #[.map (some b)] 159)) := (Below.refl _ _).alloc (Nat.le_refl _) _
  have HV : Calls Tryz.prog 171 #[.map (some b)] w fun e w' => e = .returned (.func (.func 190) #[] #[.pointer (some ⟨w.heap.size, 0, none⟩)]) ∧ w' = w.alloc (.cells #[.map (some b)] 159) := by
    clear hM ht hp hb1
    go_enter Tryz.func171, Tryz.ntmps171
    go_wp2_with fail
    go_ret
    exact ⟨rfl, rfl⟩
  have HS := sortedN_any w.heap.size b nn t (w.alloc (.cells #[.map (some b)] 159)) (by simp) (cell_one_new w _ _ 0 _ rfl) (hM.below hb1) hnn ht hp hl
  clear hM ht hp
  go_enter Tryz.func143, Tryz.ntmps143
  go_wp2_with fail
  refine HV.mono ?_
  rintro e w1 ⟨rfl, rfl⟩
  generalize w.alloc (.cells #[.map (some b)] 159) = W1 at *
  go_wp2_with fail
  refine HS.mono ?_
  rintro e w2 ⟨v, rfl, hb2, hrow⟩
  have HR := Lib.hid hrow
  clear hrow
  go_wp2_with fail
  go_ret
  exact ⟨v, rfl, hb1.trans (hb2.mono hb1.size), HR.out.down hb1.size⟩
end Go.Proofs.YtjiljnfiofmpaaaGreatDoor.Recs

/- The program: layers applied to a tree (afterLayers), and the limit of nodes. -/

namespace Go.Proofs.YtjiljnfiofmpaaaGreatDoor.Recs
set_option maxRecDepth 100000
open Go.RowKit Paths

theorem all_tree : ∀ (s : List (List R)) {t : List R}, (∀ l ∈ s, IsLayer l) → IsTree t → IsTree (applyAllL s t)
  | [], _, _, h => h
  | l :: s, _, hs, h => all_tree s (fun l' hl' => hs l' (List.mem_cons_of_mem _ hl')) (apply_tree (hs l List.mem_cons_self) h)

set_option maxHeartbeats 2000000 in
theorem afterLayers_any (v sv : Value) (t : List R) (LL : List (List R)) (w : World) (h : NodSl w v t) (hS : StkSl w sv LL) (hT : IsTree t) (hl : t.length ≤ 1000) (hLL : ∀ l ∈ LL, IsLayer l ∧ l.length ≤ 16) (hn : LL.length ≤ 100) :
    Calls Tryz.prog 89 #[v, sv] w fun e w' => ∃ x, e = .returned x ∧ Below w.heap.size w w' ∧ RowN w' w.heap.size x (applyAllL LL t).length (applyAllL LL t) := by
  have HMT := mapOfTree_any v t w h (by omega) hT.sorted (fun r hr => (by have h35 : r.p.size ≤ 35 := (by rw [Lib.size_eq]; exact pathB_len (hT.path r hr)); unfold maxLen; omega))
  obtain ⟨ho, A, cap, rfl, hcap, _⟩ := h
  obtain ⟨sA, scap, rfl, hscap, hS⟩ := hS
  have H := Lib.hid hS
  have HT := Lib.hid hT
  have HL := Lib.hid hLL
  clear hS hT hLL ho
  go_enter Tryz.func89, Tryz.ntmps89
  go_wp2_with fail
  refine HMT.mono ?_
  rintro e w1 ⟨rfl, hb1, hM1⟩
  have HM1 := Lib.hid hM1
  clear hM1
  go_wp2
  go_loopw [12] (fun i wr => ∃ k : Nat, k ≤ LL.length ∧ i = .int .i64 k ∧ Below w.heap.size w wr ∧ Hid (MapT wr w.heap.size (t.length + 16 * k) (applyAllL (LL.take k) t))) (fun i _ => LL.length - (intOf i).toNat)
  case atStart => exact ⟨0, by omega, rfl, hb1, HM1.out⟩
  case round =>
    obtain ⟨k, hk, rfl, hbw, HK⟩ := hrel
    by_cases hlt : k < LL.length
    · obtain ⟨b, off, rfl, hb, hcell⟩ := H.out (by omega)
      obtain ⟨u1, c1, hu1⟩ := hcell k LL[k] (by simp [hlt])
      have c1' := (hbw.cell (p := ⟨b, off + k, none⟩) hb).trans c1
      have hu2 := hu1.below hbw
      clear hcell c1
      have hi1 : (k : Int) < (LL.length : Int) := by omega
      have hi0 : (0 : Int) ≤ (k : Int) := by omega
      obtain ⟨hly, h16⟩ := HL.out _ (List.getElem_mem hlt)
      have HAP := mapApply_any w.heap.size (t.length + 16 * k) _ u1 LL[k] wr HK.out hu2 (by omega) hly (all_tree _ (fun l hm => (HL.out l (List.mem_of_mem_take hm)).1) HT.out)
      obtain ⟨uA, ucap, rfl, _⟩ := hu1
      have HSN := Lib.hid (all_snoc LL t hlt)
      clear hu2 hly
      go_wp2_with fail
      refine HAP.mono ?_
      rintro e w2 ⟨rfl, hg2, hM2⟩
      have HM2 := Lib.hid hM2
      clear hM2
      go_wp2_with fail
      go_roundw
      case rel => exact ⟨k + 1, by omega, by go_num, hbw.grown hg2 hbw.size (fun j hj => by cases hj; exact Nat.le_refl _), by
        show MapT _ _ _ _
        rw [HSN.out]
        exact HM2.out.mono (by omega)⟩
      case measure => simp [intOf]; omega
    · obtain rfl : k = LL.length := by omega
      have HK2 := HK.out
      rw [List.take_of_length_le (Nat.le_refl _)] at HK2
      have HTR := all_tree LL (fun l hm => (HL.out l hm).1) HT.out
      have hle := all_le LL t (fun l hm => (HL.out l hm).2)
      have HMT := mapTree_any w.heap.size _ _ wr HK2 (by omega) HTR.sorted HTR.path (by omega)
      clear HK2 HTR hle
      go_wp2_with fail
      refine HMT.mono ?_
      rintro e w3 ⟨x, rfl, hb3, hrow⟩
      have HR := Lib.hid hrow
      clear hrow
      go_wp2_with fail
      go_ret
      exact ⟨x, rfl, hbw.trans (hb3.mono hbw.size), HR.out.down hbw.size⟩

/-- What the limit leaves of a list of nodes. -/
def limL (T : List R) : List R := if 24 < T.length then [] else T
def limC (T : List R) : Int := if 24 < T.length then 7 else 0
theorem limitNodes_any (v : Value) (T : List R) (base : Nat) (w : World) (h : RowN w base v T.length T) :
    Calls Tryz.prog 88 #[v] w fun e w' => ∃ x, e = .returned (.tuple #[x, .int .i64 (limC T)]) ∧ w = w' ∧ RowN w base x (limL T).length (limL T) := by
  obtain ⟨vA, vcap, rfl⟩ := own_form h.2.1
  have HR := Lib.hid h
  clear h
  by_cases h24 : 24 < T.length
  · have hd : decide ((24 : Int) < (T.length : Int)) = true := by simp; omega
    have HC : Hid (limC T = 7) := if_pos h24
    have HL : Hid (limL T = []) := if_pos h24
    go_enter Tryz.func88, Tryz.ntmps88
    go_wp2_with fail
    go_ret2
    exact ⟨_, by rw [HC.out]; rfl, rfl, by rw [HL.out]; exact nilN _ _⟩
  · have hd : decide ((24 : Int) < (T.length : Int)) = false := by simp; omega
    have HC : Hid (limC T = 0) := if_neg h24
    have HL : Hid (limL T = T) := if_neg h24
    go_enter Tryz.func88, Tryz.ntmps88
    go_wp2_with fail
    go_ret2
    exact ⟨_, by rw [HC.out]; rfl, rfl, by rw [HL.out]; exact HR.out⟩
end Go.Proofs.YtjiljnfiofmpaaaGreatDoor.Recs
