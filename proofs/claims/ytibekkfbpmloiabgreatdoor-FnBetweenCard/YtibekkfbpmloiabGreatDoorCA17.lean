/- Parts of several texts of mine in one file (each begins with its own remark). -/
import Derived.Test.YtibekkfbpmloiabGreatDoorCA1
import Derived.Test.YtibekkfbpmloiabGreatDoorCA10
import Derived.Test.YtibekkfbpmloiabGreatDoorCA11
import Derived.Test.YtibekkfbpmloiabGreatDoorCA12
import Derived.Test.YtibekkfbpmloiabGreatDoorCA13
import Derived.Test.YtibekkfbpmloiabGreatDoorCA14
import Derived.Test.YtibekkfbpmloiabGreatDoorCA15
import Derived.Test.YtibekkfbpmloiabGreatDoorCA16
import Derived.Test.YtibekkfbpmloiabGreatDoorCA2
import Derived.Test.YtibekkfbpmloiabGreatDoorCA3
import Derived.Test.YtibekkfbpmloiabGreatDoorCA4
import Derived.Test.YtibekkfbpmloiabGreatDoorCA5
import Derived.Test.YtibekkfbpmloiabGreatDoorCA6
import Derived.Test.YtibekkfbpmloiabGreatDoorCA7
import Derived.Test.YtibekkfbpmloiabGreatDoorCA8
import Derived.Test.YtibekkfbpmloiabGreatDoorCA9
import Derived.Test.YtibekkfbpmloiabGreatDoorChecked
import Derived.Test.YtibekkfbpmloiabGreatDoorShelf
import Derived.Test.YtibekkfbpmloiabGreatDoorProg
import Derived.Test.YtibekkfbpmloiabGreatDoorRows
import Derived.Test.YtibekkfbpmloiabGreatDoorShelf2
import Derived.Deep.Slices
import Derived.OpenShut
import Derived.ShutString
import Derived.ChangeArms
import Derived.WideShapes
import Derived.Lib.LaidTab
import Derived.BigQuiet
import Derived.Deep.QuietTactic
import Derived.Deep.RegionHeld3
import Derived.StillTailTactics
import Derived.Deep.Draws
import Derived.Deep.LoopGhost
import Derived.WalkKit
import Derived.WalkSpells
import Derived.WalkSmall
import Derived.Lib.OthersKept
import Derived.Lib.Hide
import Derived.Lib.Strings
import Derived.Deep.RegionWith
import Derived.Laws.OwnMore
import Derived.BigRegion
import Derived.Lib.Join
import Derived.Laws.BytesArg
import Derived.Stop.LaidErr
import Derived.WalkLawsBesides
import Derived.LaidEql
import Derived.Stop.Asserts
import Derived.Below
import Derived.Stop.LaidTwo
import Derived.OneCell
import Derived.Lib.SliceRun
import Derived.Lib.Overlaps
import Derived.Lib.AppendZerosOnto
import Derived.Laws.NewBlocks
import Derived.Laws.IdiomCopy
import Derived.Deep.RegionLaw
import Derived.ChangeVars
import Derived.Deep.DeepHandedRow
import Derived.Deep.AppendLies
import Derived.Laws.EntriesVeiled
import Derived.Deep.Cut
import Derived.Deep.CutRange
import Derived.Deep.CutBlock
import Derived.Laws.IdiomRangeMap
import Derived.Maps.RangeWalk
import Derived.Maps.Ext
import Derived.Lib.SlMapFilter
import Derived.Shelf.SlSortCmp.NoneTotal
import Derived.Sort.OwnSorted
import Derived.RangeFuncNested
import Derived.RangeFuncBound
import Derived.RangeFuncCalls
import Derived.RangeFuncLeaves
import Derived.RangeFuncBox
import Derived.Shelf.Abstract
import Derived.Shelf.RegionOpen
import Derived.OwnWalkIn
import Derived.TacticsInMore
import Derived.LoopNIn
import Derived.LoopIn
import Derived.Maps.OwnIn
import Derived.Maps.AppendAt
import Derived.Sort.MapsRangeIn
import Derived.Sort.KeysCollected
import Derived.Sort.Grow
/- Applying layers to trees, of the model: a layer, a stack. -/
namespace Go.Proofs.YtibekkfbpmloiabGreatDoor.Recs
set_option maxRecDepth 100000
open Go.RowKit Paths

theorem apply_le : ∀ (l t : List R), (applyL l t).length ≤ t.length + l.length
  | [], t => Nat.le_refl _
  | r :: l, t => by
    have h1 := apply_le l (doR t r)
    have h2 := do_le t r
    show (applyL l (doR t r)).length ≤ _
    rw [List.length_cons]
    omega
theorem apply_path : ∀ (l : List R) {t : List R}, (∀ x ∈ l, pathB x.p.data.toList = true) → (∀ x ∈ t, pathB x.p.data.toList = true) → ∀ x ∈ applyL l t, pathB x.p.data.toList = true
  | [], _, _, h => h
  | r :: l, _, hl, h => apply_path l (fun x hx => hl x (List.mem_cons_of_mem _ hx)) (do_path h (hl r List.mem_cons_self))
theorem RowN.down {w : World} {base base' : Nat} {v : Value} {n : Nat} {M : List R} (h : RowN w base v n M) (hb : base' ≤ base) : RowN w base' v n M := ⟨h.1, own_down h.2.1 hb, h.2.2⟩
theorem mem_take_path {l : List R} (h : ∀ x ∈ l, pathB x.p.data.toList = true) (k : Nat) : ∀ x ∈ l.take k, pathB x.p.data.toList = true := fun x hx => h x (List.mem_of_mem_take hx)
theorem all_snoc (s : List (List R)) (t : List R) {k : Nat} (hk : k < s.length) : applyAllL (s.take (k + 1)) t = applyL s[k] (applyAllL (s.take k) t) := by
  unfold applyAllL
  rw [List.take_succ_eq_append_getElem hk, List.foldl_append]
  rfl
theorem all_le (s : List (List R)) (t : List R) (hs : ∀ l ∈ s, l.length ≤ 16) : (applyAllL s t).length ≤ t.length + 16 * s.length := by
  induction s generalizing t with
  | nil => exact Nat.le_refl _
  | cons l s ih =>
    have h1 := ih (applyL l t) (fun l' hl' => hs l' (List.mem_cons_of_mem _ hl'))
    have h2 := apply_le l t
    have h3 := hs l List.mem_cons_self
    show (applyAllL s (applyL l t)).length ≤ _
    rw [List.length_cons]
    omega
theorem row_nil {w : World} {base : Nat} {t : List R} (h : RowN w base (.slice none 0 0) t.length t) : t = [] := by
  have h1 := h.2.1.1
  have h2 := h.2.1.2
  rcases h2 with ⟨_, hn⟩ | ⟨g, cap, cur, e, _⟩
  · exact List.eq_nil_of_length_eq_zero hn
  · cases e
theorem row_cases {w : World} {base : Nat} {v : Value} {t : List R} (h : RowN w base v t.length t) : (v = .slice none 0 0 ∧ t = []) ∨ ∃ g cap, v = .slice (some ⟨g, 0, none⟩) t.length cap ∧ t.length ≤ cap := by
  by_cases hv : v = .slice none 0 0
  · subst hv
    exact .inl ⟨rfl, row_nil h⟩
  · obtain ⟨g, cap, rfl, hc, _⟩ := notnil h hv
    exact .inr ⟨g, cap, rfl, hc⟩
theorem nilN (w : World) (base : Nat) : RowN w base (.slice none 0 0) ([] : List R).length [] := ⟨rfl, World.ownsRow_nil _ _ _ _, fun x hx => by cases hx⟩

set_option maxHeartbeats 4000000 in
theorem l05Apply_any (v u : Value) (l t : List R) (base : Nat) (w : World) (h : RecSl w v l) (ht : RowN w base u t.length t) (hp : ∀ x ∈ l, pathB x.p.data.toList = true) (hs : Sorted t) (htp : ∀ x ∈ t, pathB x.p.data.toList = true) (hl : t.length + l.length ≤ 1000) :
    Calls Tryz.prog 67 #[v, u] w fun e w' => ∃ x, e = .returned x ∧ Below w.heap.size w w' ∧ RowN w' w.heap.size x (applyL l t).length (applyL l t) ∧ x ≠ .slice none 0 0 := by
  obtain ⟨sA, scap, rfl, hcap, h⟩ := h
  have H := Lib.hid h
  have HS := Lib.hid hs
  have HP := Lib.hid hp
  have HTP := Lib.hid htp
  clear h hs hp htp
  obtain ⟨i0, hi, hI0, hI1, hI2⟩ := info_parts nodInfo
  have hE : (w.alloc (.cells #[] 68)).ownsRow w.heap.size 68 4 (.slice (some ⟨w.heap.size, 0, none⟩) 0 0) 0 [] := World.ownsRow_lit w #[] 0 (Nat.le_refl _) (Nat.zero_le _) rfl
  have cE : Below w.heap.size w (w.alloc (.cells #[] 68)) := (Below.refl _ _).alloc (Nat.le_refl _) _
  rcases row_cases ht with ⟨rfl, ht0⟩ | ⟨g, cap, rfl, hgc⟩
  · have HR0 : Hid (RowN (w.alloc (.cells #[] 68)) w.heap.size (.slice (some ⟨w.heap.size, 0, none⟩) 0 0) t.length t ∧ (Value.slice (some ⟨w.heap.size, 0, none⟩) 0 0) ≠ .slice none 0 0) := (by
      show _ ∧ _
      rw [ht0]
      exact ⟨⟨rfl, hE, fun x hx => by cases hx⟩, fun e => by cases e⟩)
    clear ht ht0
    have cS := cE
    go_enter Tryz.func67, Tryz.ntmps67
    go_wp2_with (first
      | (at_builtin; refine wpList_append_own_none rfl _ _ 23 rfl w.heap.size 68 i0 4 Tryz.underlying23 hi _ _ _ rfl hE rfl ?_)
      | go_in)
    go_loopw [1, 5] (fun tv i wr => ∃ k : Nat, k ≤ l.length ∧ i = .int .i64 k ∧ Below w.heap.size w wr ∧ Hid (RowN wr w.heap.size tv (applyL (l.take k) t).length (applyL (l.take k) t) ∧ tv ≠ .slice none 0 0)) (fun _ i _ => l.length - (intOf i).toNat)
    case atStart => exact ⟨0, by omega, rfl, cS, HR0.out⟩
    case round =>
      obtain ⟨k, hk, rfl, hbw, HK⟩ := hrel
      by_cases hlt : k < l.length
      · obtain ⟨b, off, rfl, hb, hcell⟩ := H.out (by omega)
        obtain ⟨c0, c1, c2, c3, c4⟩ := (hcell k l[k] (by simp [hlt])).below hbw hb
        clear hcell
        have hi1 : (k : Int) < (l.length : Int) := by omega
        have hi0 : (0 : Int) ≤ (k : Int) := by omega
        obtain ⟨g2, cap2, rfl, _, _, _, _⟩ := notnil HK.out.1 HK.out.2
        have HLE := Lib.hid (apply_le (l.take k) t)
        have hle : (applyL (l.take k) t).length ≤ 1000 := by
          have h1 := HLE.out
          rw [List.length_take] at h1
          omega
        have HDO := l05Do_any _ (applyL (l.take k) t) l[k] w.heap.size wr HK.out.1 HK.out.2 (apply_sorted _ HS.out) (apply_path _ (mem_take_path HP.out k) HTP.out) (HP.out _ (List.getElem_mem hlt)) hle
        unfold R.val at HDO
        have HSN := Lib.hid (apply_snoc l t hlt)
        go_wp2_with fail
        refine HDO.mono ?_
        rintro e w2 ⟨x, rfl, hb2, hrow2, hx2⟩
        have HR2 := Lib.hid hrow2
        have HX2 := Lib.hid hx2
        clear hrow2 hx2
        go_wp2_with fail
        go_roundw
        case rel => exact ⟨k + 1, by omega, by go_num, hbw.trans (hb2.mono hbw.size), by
          show RowN _ _ _ _ _ ∧ _
          rw [HSN.out]
          exact ⟨HR2.out.down hbw.size, HX2.out⟩⟩
        case measure => simp [intOf]; omega
      · obtain rfl : k = l.length := by omega
        have HK2 := HK.out
        rw [List.take_of_length_le (Nat.le_refl _)] at HK2
        have HK3 := Lib.hid HK2
        clear HK2
        go_wp2
        go_ret
        exact ⟨_, rfl, hbw, HK3.out.1, HK3.out.2⟩
  · have hsrc := src_cells (ht.below cE) 0 t (.inl rfl)
    have hfl := flatN_len t
    have hone := flatN_one t
    have hbz := cE.size
    have HTN := Lib.hid ht
    rw [Nat.zero_mul] at hsrc
    go_enter Tryz.func67, Tryz.ntmps67
    go_wp2_with (first
      | (at_builtin; refine wpList_append_own _ rfl _ _ 23 rfl w.heap.size 68 i0 (.agg #[.int .i64 0, .string ByteArray.empty, .string ByteArray.empty, .int .i64 0]) 4 48 Tryz.underlying23 hi hI0 hI1 hI2 rfl (by decide) _ _ _ rfl hE ⟨g, 0, none⟩ t.length cap (flatN t) rfl hfl hsrc hone (by unfold maxLen; omega) (by omega) hbz ?_; intro v' w9 hown' hgrow9 hnil9; rw [Nat.zero_add, List.nil_append] at hown'; have HR0 : Hid (RowN w9 w.heap.size v' t.length t ∧ v' ≠ .slice none 0 0) := ⟨⟨rfl, hown', HTN.out.2.2⟩, fun e => by have := (hnil9.1 e).1; cases this⟩; have cS := cE.grown hgrow9 hbz (fun j hj => (hE.lt j hj).1); clear hown' hgrow9 hnil9 hsrc hone)
      | go_in)
    go_loopw [1, 5] (fun tv i wr => ∃ k : Nat, k ≤ l.length ∧ i = .int .i64 k ∧ Below w.heap.size w wr ∧ Hid (RowN wr w.heap.size tv (applyL (l.take k) t).length (applyL (l.take k) t) ∧ tv ≠ .slice none 0 0)) (fun _ i _ => l.length - (intOf i).toNat)
    case atStart => exact ⟨0, by omega, rfl, cS, HR0.out⟩
    case round =>
      obtain ⟨k, hk, rfl, hbw, HK⟩ := hrel
      by_cases hlt : k < l.length
      · obtain ⟨b, off, rfl, hb, hcell⟩ := H.out (by omega)
        obtain ⟨c0, c1, c2, c3, c4⟩ := (hcell k l[k] (by simp [hlt])).below hbw hb
        clear hcell
        have hi1 : (k : Int) < (l.length : Int) := by omega
        have hi0 : (0 : Int) ≤ (k : Int) := by omega
        obtain ⟨g2, cap2, rfl, _, _, _, _⟩ := notnil HK.out.1 HK.out.2
        have HLE := Lib.hid (apply_le (l.take k) t)
        have hle : (applyL (l.take k) t).length ≤ 1000 := by
          have h1 := HLE.out
          rw [List.length_take] at h1
          omega
        have HDO := l05Do_any _ (applyL (l.take k) t) l[k] w.heap.size wr HK.out.1 HK.out.2 (apply_sorted _ HS.out) (apply_path _ (mem_take_path HP.out k) HTP.out) (HP.out _ (List.getElem_mem hlt)) hle
        unfold R.val at HDO
        have HSN := Lib.hid (apply_snoc l t hlt)
        go_wp2_with fail
        refine HDO.mono ?_
        rintro e w2 ⟨x, rfl, hb2, hrow2, hx2⟩
        have HR2 := Lib.hid hrow2
        have HX2 := Lib.hid hx2
        clear hrow2 hx2
        go_wp2_with fail
        go_roundw
        case rel => exact ⟨k + 1, by omega, by go_num, hbw.trans (hb2.mono hbw.size), by
          show RowN _ _ _ _ _ ∧ _
          rw [HSN.out]
          exact ⟨HR2.out.down hbw.size, HX2.out⟩⟩
        case measure => simp [intOf]; omega
      · obtain rfl : k = l.length := by omega
        have HK2 := HK.out
        rw [List.take_of_length_le (Nat.le_refl _)] at HK2
        have HK3 := Lib.hid HK2
        clear HK2
        go_wp2
        go_ret
        exact ⟨_, rfl, hbw, HK3.out.1, HK3.out.2⟩

end Go.Proofs.YtibekkfbpmloiabGreatDoor.Recs

/- The program: layers applied to a tree by its map of paths; the answer in a slice of its own. -/
namespace Go.Proofs.YtibekkfbpmloiabGreatDoor.Recs
set_option maxRecDepth 100000
open Go.RowKit Paths

theorem collectN_any (Bm b nn : Nat) (t : List R) (w : World) (hBm : Bm < w.heap.size) (hm : w.cell? ⟨Bm, 0, none⟩ = some (.map (some b))) (hM : MapT w b nn t) (hnn : nn ≤ 100000) :
    Calls Tryz.prog 215 #[.func (.func 217) #[] #[.pointer (some ⟨Bm, 0, none⟩)]] w fun e w' =>
      ∃ v xs, e = .returned v ∧ Below w.heap.size w w' ∧ AllT t xs ∧ w'.ownsRow w.heap.size 68 4 v xs.length (flatN xs) := by
  have HC := callsIn_wide.1 (appendSeq_in Fence.wide 6 trivial trivial rfl (by omega) Bm b nn t w hBm hm hM hnn)
  clear hm hM
  go_enter Tryz.func215, Tryz.ntmps215
  go_wp2_with fail
  refine HC.mono ?_
  rintro e w1 ⟨v, xs, rfl, hb1, hx, hrow⟩
  have HX := Lib.hid hx
  have HR := Lib.hid hrow
  clear hx hrow
  go_wp2_with fail
  go_ret
  exact ⟨v, xs, rfl, hb1, HX.out, HR.out⟩

theorem allT_len {t xs : List R} (h : AllT t xs) (ht : t.Nodup) : xs.length = t.length := (List.perm_ext_iff_of_nodup h.1 ht).2 h.2 |>.length_eq
theorem sorted_nodup {t : List R} (h : Sorted t) : t.Nodup := List.Pairwise.imp (fun {a b} (hl : lessR a b = true) => fun e => by
  subst e
  unfold lessR at hl
  rw [lessP_irrefl] at hl
  cases hl) h

set_option maxHeartbeats 1000000 in
theorem sortedN_any (Bm b nn : Nat) (t : List R) (w : World) (hBm : Bm < w.heap.size) (hm : w.cell? ⟨Bm, 0, none⟩ = some (.map (some b))) (hM : MapT w b nn t) (hnn : nn ≤ 100000) (ht : Sorted t) (hp : ∀ x ∈ t, pathB x.p.data.toList = true) (hl : t.length ≤ 100000) :
    Calls Tryz.prog 195 #[.func (.func 217) #[] #[.pointer (some ⟨Bm, 0, none⟩)], .func (.func 197) #[] #[]] w fun e w' =>
      ∃ v, e = .returned v ∧ Below w.heap.size w w' ∧ RowN w' w.heap.size v t.length t := by
  have HC := collectN_any Bm b nn t w hBm hm hM hnn
  have HMO := Lib.hid hM.2
  clear hm hM
  go_enter Tryz.func195, Tryz.ntmps195
  go_wp2_with fail
  refine HC.mono ?_
  rintro e w1 ⟨v, xs, rfl, hb1, hx, hrow⟩
  have hxl := allT_len hx (sorted_nodup ht)
  by_cases hv : v = .slice none 0 0
  · subst hv
    have hx0 : xs = [] := by
      rcases hrow.2 with ⟨_, hn⟩ | ⟨g, cap, cur, e, _⟩
      · exact List.eq_nil_of_length_eq_zero hn
      · cases e
    have HT0 : Hid (t = []) := List.eq_nil_of_length_eq_zero (by rw [← hxl, hx0]; rfl)
    have HN := AnyF.slices_SortFunc_none Tryz.sortN none 0 (.func (.func 197) #[] #[]) w1
    change Calls Tryz.prog 216 _ _ _ at HN
    clear hx hrow hx0 hxl
    go_wp2_with fail
    refine HN.mono ?_
    rintro e w2 ⟨rfl, rfl⟩
    go_wp2_with fail
    go_ret
    exact ⟨_, rfl, hb1, by rw [HT0.out]; exact nilN _ _⟩
  · obtain ⟨g, cap, rfl⟩ : ∃ g cap, v = .slice (some ⟨g, 0, none⟩) xs.length cap := by
      rcases hrow.2 with ⟨e, _⟩ | ⟨g, cap, cur, e, _⟩
      · exact absurd e hv
      · exact ⟨g, cap, e⟩
    have HS := sortN_any g cap xs t w.heap.size w1 hrow hx ht hp (by omega)
    have hgl := (hrow.lt g rfl)
    have HXL := Lib.hid hxl
    clear hx hrow hv hxl
    go_wp2_with fail
    refine HS.mono ?_
    rintro e w2 ⟨rfl, hg2, hlen, hrow2⟩
    have HR2 := Lib.hid hrow2
    have hb2 := hb1.grown hg2 hb1.size (fun k hk => by cases hk; exact hgl.1)
    clear hrow2 hg2 hlen
    go_wp2_with fail
    go_ret
    refine ⟨_, rfl, hb2, rfl, ?_, HMO.out⟩
    have := HR2.out
    rw [HXL.out] at this ⊢
    exact this

set_option maxHeartbeats 1000000 in
theorem mapTree_any (b nn : Nat) (t : List R) (w : World) (hM : MapT w b nn t) (hnn : nn ≤ 100000) (ht : Sorted t) (hp : ∀ x ∈ t, pathB x.p.data.toList = true) (hl : t.length ≤ 100000) :
    Calls Tryz.prog 145 #[.map (some b)] w fun e w' => ∃ v, e = .returned v ∧ Below w.heap.size w w' ∧ RowN w' w.heap.size v t.length t := by
  have hb1 : Below w.heap.size w (w.alloc (.cells #[.map (some b)] 150)) := (Below.refl _ _).alloc (Nat.le_refl _) _
  have HV : Calls Tryz.prog 196 #[.map (some b)] w fun e w' => e = .returned (.func (.func 217) #[] #[.pointer (some ⟨w.heap.size, 0, none⟩)]) ∧ w' = w.alloc (.cells #[.map (some b)] 150) := by
    clear hM ht hp hb1
    go_enter Tryz.func196, Tryz.ntmps196
    go_wp2_with fail
    go_ret
    exact ⟨rfl, rfl⟩
  have HS := sortedN_any w.heap.size b nn t (w.alloc (.cells #[.map (some b)] 150)) (by simp) (cell_one_new w _ _ 0 _ rfl) (hM.below hb1) hnn ht hp hl
  clear hM ht hp
  go_enter Tryz.func145, Tryz.ntmps145
  go_wp2_with fail
  refine HV.mono ?_
  rintro e w1 ⟨rfl, rfl⟩
  generalize w.alloc (.cells #[.map (some b)] 150) = W1 at *
  go_wp2_with fail
  refine HS.mono ?_
  rintro e w2 ⟨v, rfl, hb2, hrow⟩
  have HR := Lib.hid hrow
  clear hrow
  go_wp2_with fail
  go_ret
  exact ⟨v, rfl, hb1.trans (hb2.mono hb1.size), HR.out.down hb1.size⟩
end Go.Proofs.YtibekkfbpmloiabGreatDoor.Recs

/- The program: layers applied to a tree (afterLayers), and the limit of nodes. -/
namespace Go.Proofs.YtibekkfbpmloiabGreatDoor.Recs
set_option maxRecDepth 100000
open Go.RowKit Paths

theorem all_tree : ∀ (s : List (List R)) {t : List R}, (∀ l ∈ s, IsLayer l) → IsTree t → IsTree (applyAllL s t)
  | [], _, _, h => h
  | l :: s, _, hs, h => all_tree s (fun l' hl' => hs l' (List.mem_cons_of_mem _ hl')) (apply_tree (hs l List.mem_cons_self) h)

set_option maxHeartbeats 2000000 in
theorem afterLayers_any (v sv : Value) (t : List R) (LL : List (List R)) (w : World) (h : NodSl w v t) (hS : StkSl w sv LL) (hT : IsTree t) (hl : t.length ≤ 1000) (hLL : ∀ l ∈ LL, IsLayer l ∧ l.length ≤ 16) (hn : LL.length ≤ 100) :
    Calls Tryz.prog 79 #[v, sv] w fun e w' => ∃ x, e = .returned x ∧ Below w.heap.size w w' ∧ RowN w' w.heap.size x (applyAllL LL t).length (applyAllL LL t) := by
  have HMT := mapOfTree_any v t w h (by omega) hT.sorted (fun r hr => (by have h35 : r.p.size ≤ 35 := (by rw [Lib.size_eq]; exact pathB_len (hT.path r hr)); unfold maxLen; omega))
  obtain ⟨ho, A, cap, rfl, hcap, _⟩ := h
  obtain ⟨sA, scap, rfl, hscap, hS⟩ := hS
  have H := Lib.hid hS
  have HT := Lib.hid hT
  have HL := Lib.hid hLL
  clear hS hT hLL ho
  go_enter Tryz.func79, Tryz.ntmps79
  go_wp2_with fail
  refine HMT.mono ?_
  rintro e w1 ⟨rfl, hb1, hM1⟩
  have HM1 := Lib.hid hM1
  clear hM1
  go_wp2
  go_loopw [12] (fun i wr => ∃ k : Nat, k ≤ LL.length ∧ i = .int .i64 k ∧ Below w.heap.size w wr ∧ Hid (MapT wr w.heap.size (t.length + 16 * k) (applyAllL (LL.take k) t))) (fun i _ => LL.length - (intOf i).toNat)
  case atStart => exact ⟨0, by omega, rfl, hb1, HM1.out⟩
  case round =>
    obtain ⟨k, hk, rfl, hbw, HK⟩ := hrel
    by_cases hlt : k < LL.length
    · obtain ⟨b, off, rfl, hb, hcell⟩ := H.out (by omega)
      obtain ⟨u1, c1, hu1⟩ := hcell k LL[k] (by simp [hlt])
      have c1' := (hbw.cell (p := ⟨b, off + k, none⟩) hb).trans c1
      have hu2 := hu1.below hbw
      clear hcell c1
      have hi1 : (k : Int) < (LL.length : Int) := by omega
      have hi0 : (0 : Int) ≤ (k : Int) := by omega
      obtain ⟨hly, h16⟩ := HL.out _ (List.getElem_mem hlt)
      have HAP := mapApply_any w.heap.size (t.length + 16 * k) _ u1 LL[k] wr HK.out hu2 (by omega) hly (all_tree _ (fun l hm => (HL.out l (List.mem_of_mem_take hm)).1) HT.out)
      obtain ⟨uA, ucap, rfl, _⟩ := hu1
      have HSN := Lib.hid (all_snoc LL t hlt)
      clear hu2 hly
      go_wp2_with fail
      refine HAP.mono ?_
      rintro e w2 ⟨rfl, hg2, hM2⟩
      have HM2 := Lib.hid hM2
      clear hM2
      go_wp2_with fail
      go_roundw
      case rel => exact ⟨k + 1, by omega, by go_num, hbw.grown hg2 hbw.size (fun j hj => by cases hj; exact Nat.le_refl _), by
        show MapT _ _ _ _
        rw [HSN.out]
        exact HM2.out.mono (by omega)⟩
      case measure => simp [intOf]; omega
    · obtain rfl : k = LL.length := by omega
      have HK2 := HK.out
      rw [List.take_of_length_le (Nat.le_refl _)] at HK2
      have HTR := all_tree LL (fun l hm => (HL.out l hm).1) HT.out
      have hle := all_le LL t (fun l hm => (HL.out l hm).2)
      have HMT := mapTree_any w.heap.size _ _ wr HK2 (by omega) HTR.sorted HTR.path (by omega)
      clear HK2 HTR hle
      go_wp2_with fail
      refine HMT.mono ?_
      rintro e w3 ⟨x, rfl, hb3, hrow⟩
      have HR := Lib.hid hrow
      clear hrow
      go_wp2_with fail
      go_ret
      exact ⟨x, rfl, hbw.trans (hb3.mono hbw.size), HR.out.down hbw.size⟩

end Go.Proofs.YtibekkfbpmloiabGreatDoor.Recs

/- The code of the errors of a call's arguments, whichever check they come from. Conditions: the table of kinds, the two sentinels. -/
namespace Go.Proofs.YtibekkfbpmloiabGreatDoor.Recs
set_option maxRecDepth 100000
open Go.RowKit Paths Errs

/-- An error that a check hands back: none, one of the two sentinels, or the one that names a record. -/
inductive EU where
  | fine
  | long
  | inv
  | bad (i c : Int)
def EU.val (x y : Addr) : EU → Value
  | .fine => .nilIface
  | .long => errV x
  | .inv => errV y
  | .bad i c => recV i c
def EN.u : EN → EU
  | .fine => .fine
  | .long => .long
  | .inv => .inv
theorem EN.u_val (e : EN) (x y : Addr) : e.u.val x y = e.val x y := by cases e <;> rfl
def euFrom : List EU → Int → Int
  | [], c => c
  | .fine :: t, c => euFrom t c
  | .long :: _, _ => 2
  | .inv :: t, _ => euFrom t 1
  | .bad _ _ :: t, _ => euFrom t 1
theorem eu_end {L : List EU} {k : Nat} {c : Int} (h : L.length ≤ k) : euFrom (L.drop k) c = c := by rw [List.drop_eq_nil_of_le h]; rfl
theorem eu_fine {L : List EU} {k : Nat} {c : Int} (h : k < L.length) (he : L[k] = .fine) : euFrom (L.drop k) c = euFrom (L.drop (k + 1)) c := by rw [List.drop_eq_getElem_cons h, he]; rfl
theorem eu_long {L : List EU} {k : Nat} {c : Int} (h : k < L.length) (he : L[k] = .long) : euFrom (L.drop k) c = 2 := by rw [List.drop_eq_getElem_cons h, he]; rfl
theorem eu_inv {L : List EU} {k : Nat} {c : Int} (h : k < L.length) (he : L[k] = .inv) : euFrom (L.drop k) c = euFrom (L.drop (k + 1)) 1 := by rw [List.drop_eq_getElem_cons h, he]; rfl
theorem eu_bad {L : List EU} {k : Nat} {c i d : Int} (h : k < L.length) (he : L[k] = .bad i d) : euFrom (L.drop k) c = euFrom (L.drop (k + 1)) 1 := by rw [List.drop_eq_getElem_cons h, he]; rfl

set_option maxHeartbeats 1600000 in
theorem argumentU_any (g : Nat) (L : List EU) (x y : Addr) (w : World) (hT : Three w x y) (hg : g < w.heap.size) (hn : L.length ≤ 1000) (hc : ∀ k (h : k < L.length), w.cell? ⟨g, k, none⟩ = some (L[k].val x y)) :
    Calls Tryz.prog 69 #[.slice (some ⟨g, 0, none⟩) L.length L.length] w fun e w' => e = .returned (.int .i64 (euFrom L 0)) ∧ Below w.heap.size w w' := by
  have HC := Lib.hid hc
  have HT := Lib.hid hT
  clear hc hT
  go_enter Tryz.func69, Tryz.ntmps69
  go_wp2
  go_loopw [3, 8] (fun c i wr => ∃ (k : Nat) (d : Int), k ≤ L.length ∧ i = .int .i64 k ∧ c = .int .i64 d ∧ Hid (euFrom L 0 = euFrom (L.drop k) d) ∧ Below w.heap.size w wr) (fun _ i _ => L.length - (intOf i).toNat)
  case atStart => exact ⟨0, 0, by omega, rfl, rfl, rfl, Below.refl _ _⟩
  case round =>
    obtain ⟨k, d, hk, rfl, rfl, HK, hbw⟩ := hrel
    by_cases hlt : k < L.length
    · have hcell : wr.cell? ⟨g, k, none⟩ = some (L[k].val x y) := (hbw.cell (p := ⟨g, k, none⟩) hg).trans (HC.out k hlt)
      have hTr := HT.out.below hbw (Nat.le_refl _)
      have hx := hTr.long
      have hy := hTr.bad
      have hi1 : (k : Int) < (L.length : Int) := by omega
      have hi0 : (0 : Int) ≤ (k : Int) := by omega
      cases hE : L[k] with
      | fine =>
        have HF := Lib.hid (HK.out.trans (eu_fine hlt hE))
        rw [hE] at hcell
        unfold EU.val at hcell
        have H1 := is_nil x wr
        have H2 := is_nil y wr
        unfold errV at hx hy H1 H2
        go_wp2_with fail
        refine H1.mono ?_
        rintro e w1 ⟨rfl, rfl⟩
        go_wp2_with fail
        refine H2.mono ?_
        rintro e w2 ⟨rfl, rfl⟩
        go_wp2_with fail
        exact ⟨⟨k + 1, d, by omega, by go_num, rfl, HF, hbw⟩, by simp [intOf]; omega⟩
      | long =>
        have HF := Lib.hid (HK.out.trans (eu_long hlt hE))
        rw [hE] at hcell
        unfold EU.val at hcell
        have H1 := is_same x wr
        unfold errV at hx hy H1 hcell
        go_wp2_with fail
        refine H1.mono ?_
        rintro e w1 ⟨rfl, rfl⟩
        go_wp2_with fail
        go_ret
        exact ⟨ret_int HF.out.symm, hbw⟩
      | inv =>
        have HF := Lib.hid (HK.out.trans (eu_inv hlt hE))
        rw [hE] at hcell
        unfold EU.val at hcell
        obtain ⟨cx, tx, rx⟩ := hTr.rowx
        obtain ⟨cy, ty, ry⟩ := hTr.rowy
        have H1 := is_other y x _ _ _ _ wr (Ne.symm hTr.ne) ry rx
        have H2 := is_same y wr
        unfold errV at hx hy H1 H2 hcell
        go_wp2_with fail
        refine H1.mono ?_
        rintro e w1 ⟨rfl, rfl⟩
        go_wp2_with fail
        refine H2.mono ?_
        rintro e w2 ⟨rfl, rfl⟩
        go_wp2_with fail
        exact ⟨⟨k + 1, 1, by omega, by go_num, rfl, HF, hbw⟩, by simp [intOf]; omega⟩
      | bad i c =>
        have HF := Lib.hid (HK.out.trans (eu_bad hlt hE))
        rw [hE] at hcell
        unfold EU.val at hcell
        obtain ⟨cx, tx, rx⟩ := hTr.rowx
        obtain ⟨cy, ty, ry⟩ := hTr.rowy
        have H1 := is_rec_other i c y x _ _ _ _ wr hy (Ne.symm hTr.ne) ry rx
        have hxl := World.block_lt_of_cell? wr _ hx
        have hyl := World.block_lt_of_cell? wr _ hy
        have hye := hy
        unfold recV at hcell H1
        unfold errV at hx hy H1
        go_wp2_with fail
        refine H1.mono ?_
        rintro e w1 ⟨rfl, hb1⟩
        have hy1 : w1.cell? ⟨1, 0, none⟩ = some (errV y) := (hb1.cell (p := ⟨1, 0, none⟩) hyl).trans hye
        have H2 := is_rec_same i c y w1 hy1
        unfold recV at H2
        unfold errV at hy1 H2
        go_wp2_with fail
        refine H2.mono ?_
        rintro e w2 ⟨rfl, hb2⟩
        go_wp2_with fail
        exact ⟨⟨k + 1, 1, by omega, by go_num, rfl, HF, (hbw.trans (hb1.mono hbw.size)).trans (hb2.mono (hbw.trans (hb1.mono hbw.size)).size)⟩, by simp [intOf]; omega⟩
    · have HE := Lib.hid (HK.out.trans (eu_end (by omega)))
      go_wp2
      go_ret
      exact ⟨ret_int HE.out.symm, hbw⟩

end Go.Proofs.YtibekkfbpmloiabGreatDoor.Recs

/- The code of a call with a stack. Conditions: the table of kinds, the two sentinels. -/
namespace Go.Proofs.YtibekkfbpmloiabGreatDoor.Recs
set_option maxRecDepth 100000
open Go.RowKit Paths Errs

theorem StkSl.form {w : World} {v : Value} {LL : List (List R)} (h : StkSl w v LL) : ∃ A cap, v = .slice A LL.length cap := by
  obtain ⟨A, cap, rfl, _⟩ := h
  exact ⟨A, cap, rfl⟩
end Go.Proofs.YtibekkfbpmloiabGreatDoor.Recs

/- Apply, Changes of the program. Conditions: the table of kinds, the two sentinels. -/
namespace Go.Proofs.YtibekkfbpmloiabGreatDoor.Recs
set_option maxRecDepth 100000
open Go.RowKit Paths Errs

theorem layer_16 {l : List R} (h : layerOK l = true) : l.length ≤ 16 := layer_len h
theorem RecSl.form {w : World} {v : Value} {l : List R} (h : RecSl w v l) : ∃ A cap, v = .slice A l.length cap := by
  obtain ⟨A, cap, rfl, _⟩ := h
  exact ⟨A, cap, rfl⟩
end Go.Proofs.YtibekkfbpmloiabGreatDoor.Recs

/- Apply, Changes of the model. -/
namespace Go.Proofs.YtibekkfbpmloiabGreatDoor.Recs
set_option maxRecDepth 100000
open Go.RowKit Paths

theorem emptyN (w : World) {base : Nat} (hb : base ≤ w.heap.size) : RowN (w.alloc (.cells #[] 68)) base (.slice (some ⟨w.heap.size, 0, none⟩) 0 0) ([] : List R).length [] := ⟨rfl, World.ownsRow_lit w #[] 0 hb (Nat.zero_le _) rfl, fun x hx => by cases hx⟩
end Go.Proofs.YtibekkfbpmloiabGreatDoor.Recs
