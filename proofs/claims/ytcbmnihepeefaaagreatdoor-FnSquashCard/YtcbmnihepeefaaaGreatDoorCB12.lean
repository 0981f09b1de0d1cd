/- Parts of several texts of mine in one file (each begins with its own remark). -/
import Derived.Test.YtcbmnihepeefaaaGreatDoorCA1
import Derived.Test.YtcbmnihepeefaaaGreatDoorCA10
import Derived.Test.YtcbmnihepeefaaaGreatDoorCA2
import Derived.Test.YtcbmnihepeefaaaGreatDoorCA3
import Derived.Test.YtcbmnihepeefaaaGreatDoorCA4
import Derived.Test.YtcbmnihepeefaaaGreatDoorCA5
import Derived.Test.YtcbmnihepeefaaaGreatDoorCA6
import Derived.Test.YtcbmnihepeefaaaGreatDoorCA7
import Derived.Test.YtcbmnihepeefaaaGreatDoorCA8
import Derived.Test.YtcbmnihepeefaaaGreatDoorCA9
import Derived.Test.YtcbmnihepeefaaaGreatDoorCB1
import Derived.Test.YtcbmnihepeefaaaGreatDoorCB11
import Derived.Test.YtcbmnihepeefaaaGreatDoorCB2
import Derived.Test.YtcbmnihepeefaaaGreatDoorCB5
import Derived.Test.YtcbmnihepeefaaaGreatDoorCB6
import Derived.Test.YtcbmnihepeefaaaGreatDoorCB7
import Derived.Test.YtcbmnihepeefaaaGreatDoorCB8
import Derived.Test.YtcbmnihepeefaaaGreatDoorCB9
import Derived.Test.YtcbmnihepeefaaaGreatDoorChecked
import Derived.Test.YtcbmnihepeefaaaGreatDoorShelf
import Derived.Test.YtcbmnihepeefaaaGreatDoorProg
import Derived.Test.YtcbmnihepeefaaaGreatDoorRows
import Derived.Test.YtcbmnihepeefaaaGreatDoorShelf2
import Derived.Deep.RegionWith
import Derived.StillTailTactics
import Derived.Laws.OwnMore
import Derived.BigQuiet
import Derived.BigRegion
import Derived.Deep.QuietTactic
import Derived.Deep.RegionHeld3
import Derived.Deep.Slices
import Derived.OpenShut
import Derived.ShutString
import Derived.ChangeArms
import Derived.WideShapes
import Derived.Lib.LaidTab
import Derived.Deep.Draws
import Derived.Deep.LoopGhost
import Derived.WalkKit
import Derived.WalkSpells
import Derived.WalkSmall
import Derived.Lib.OthersKept
import Derived.Lib.Hide
import Derived.Lib.Strings
import Derived.Lib.Join
import Derived.Laws.BytesArg
import Derived.Stop.LaidErr
import Derived.WalkLawsBesides
import Derived.LaidEql
import Derived.Stop.Asserts
import Derived.Below
import Derived.Stop.LaidTwo
import Derived.OneCell
import Derived.Lib.SliceRun
import Derived.Lib.Overlaps
import Derived.Lib.AppendZerosOnto
import Derived.Laws.NewBlocks
import Derived.Laws.IdiomCopy
import Derived.Deep.RegionLaw
import Derived.ChangeVars
import Derived.Deep.DeepHandedRow
import Derived.Deep.AppendLies
import Derived.Laws.EntriesVeiled
import Derived.Laws.IdiomRangeMap
import Derived.Maps.RangeWalk
import Derived.Maps.Ext
import Derived.Lib.SlMapFilter
import Derived.Shelf.SlSortCmp.NoneTotal
import Derived.Sort.OwnSorted
import Derived.RangeFuncNested
import Derived.RangeFuncBound
import Derived.RangeFuncCalls
import Derived.RangeFuncLeaves
import Derived.RangeFuncBox
import Derived.Shelf.Abstract
import Derived.Shelf.RegionOpen
import Derived.OwnWalkIn
import Derived.TacticsInMore
import Derived.LoopNIn
import Derived.LoopIn
import Derived.Maps.OwnIn
import Derived.Maps.AppendAt
import Derived.Sort.MapsRangeIn
import Derived.Sort.KeysCollected
import Derived.Sort.Grow
/- Trees: RemoveNode, of the program and of its model. Conditions (of the program's): the table of kinds, the two sentinels. -/
namespace Go.Proofs.YtcbmnihepeefaaaGreatDoor.Recs
set_option maxRecDepth 100000
open Go.RowKit Paths Errs

theorem without_step {l : List R} {k : Nat} (hk : k < l.length) (q : ByteArray) (s : Bool) : withoutL (l.take (k + 1)) q s = if (!isUp q l[k].p && !(s && decide (l[k].p = q))) = true then withoutL (l.take k) q s ++ [l[k]] else withoutL (l.take k) q s := by
  unfold withoutL
  rw [List.take_add_one, List.getElem?_eq_getElem hk, List.filter_append]
  simp only [Option.toList]
  cases hb : (!isUp q l[k].p && !(s && decide (l[k].p = q))) with
  | true =>
    rw [if_pos rfl, List.filter_cons_of_pos (p := fun x : R => !isUp q x.p && !(s && decide (x.p = q))) hb]
    rfl
  | false =>
    rw [if_neg (by decide), List.filter_cons_of_neg (p := fun x : R => !isUp q x.p && !(s && decide (x.p = q))) (by rw [hb]; decide)]
    simp
theorem without_len (l : List R) (q : ByteArray) (s : Bool) : (withoutL l q s).length ≤ l.length := List.length_filter_le _ _

set_option maxHeartbeats 3200000 in
theorem l04Without_any (v : Value) (l : List R) (q : ByteArray) (s : Bool) (w : World) (h : NodSl w v l) (hl : l.length ≤ 1000) (ht : ∀ r ∈ l, pathB r.p.data.toList = true) (hq : pathB q.data.toList = true) :
    Calls Tryz.prog 109 #[v, .string q, .bool s] w fun e w' => ∃ x, e = .returned x ∧ Below w.heap.size w w' ∧ RowN w' w.heap.size x (withoutL l q s).length (withoutL l q s) ∧ x ≠ .slice none 0 0 := by
  obtain ⟨i0, hi, hI0, hI1, hI2⟩ := info_parts nodInfo
  obtain ⟨ho, sA, cap, rfl, hcap, h⟩ := h
  have H := Lib.hid h
  have HT := Lib.hid ht
  have HO := Lib.hid ho
  have hqs : q.size ≤ 35 := by rw [Lib.size_eq]; exact pathB_len hq
  have hqp : 0 < q.size := by rw [Lib.size_eq]; exact List.length_pos_iff.2 (pathB_ne hq)
  have hb0 : Below w.heap.size w (w.alloc (.cells #[] 29)) := (Below.refl _ _).alloc (Nat.le_refl _) _
  have hown0 : (w.alloc (.cells #[] 29)).ownsRow w.heap.size 29 4 (.slice (some ⟨w.heap.size, 0, none⟩) 0 0) 0 [] := World.ownsRow_lit w #[] 0 (Nat.le_refl _) (Nat.zero_le _) rfl
  clear h ht ho
  go_enter Tryz.func109, Tryz.ntmps109
  go_wp2
  go_loopw [7, 8] (fun f i wr => ∃ (k : Nat) (M : List R), k ≤ l.length ∧ i = .int .i64 k ∧ Hid (M = withoutL (l.take k) q s) ∧ RowN wr w.heap.size f M.length M ∧ Hid (f ≠ .slice none 0 0) ∧ Below w.heap.size w wr) (fun _ i _ => l.length - (intOf i).toNat)
  case atStart => exact ⟨0, [], by omega, rfl, rfl, ⟨rfl, hown0, fun r hr => by cases hr⟩, (fun e => by cases e), hb0⟩
  case round =>
    obtain ⟨k, M, hk, rfl, HM, hrow, HNN, hbw⟩ := hrel
    by_cases hlt : k < l.length
    · obtain ⟨b, off, rfl, hb, hcell⟩ := H.out (by omega)
      obtain ⟨c0, c1, c2, c3⟩ := (hcell k l[k] (by simp [hlt])).below hbw hb
      clear hcell
      have hi1 : (k : Int) < (l.length : Int) := by omega
      have hi0 : (0 : Int) ≤ (k : Int) := by omega
      have hp := HT.out _ (List.getElem_mem hlt)
      have hko := HO.out _ (List.getElem_mem hlt)
      have hs : l[k].p.size ≤ 35 := by rw [Lib.size_eq]; exact pathB_len hp
      have HBL := l01Below_two l[k].p q wr hqp (by omega) (by omega)
      rw [← isUp_below hp] at HBL
      have HST := Lib.hid (without_step hlt q s)
      have hMl : M.length ≤ 1000 := by
        rw [HM.out]
        exact Nat.le_trans (without_len _ _ _) (by rw [List.length_take]; omega)
      obtain ⟨fA, fcap, rfl⟩ := own_form hrow.2.1
      have hr3 : (wr.alloc (.cells #[.int .i64 l[k].k, .string l[k].p, .string l[k].b, .int .i64 l[k].m] 29)).ownsRow w.heap.size 29 4 (.slice fA M.length fcap) M.length (flatN M) := hrow.2.1.alloc _
      have hnews := nodR_cells_new wr l[k] 29
      have hone := nodR_one l[k]
      have hbz : w.heap.size ≤ (wr.alloc (.cells #[.int .i64 l[k].k, .string l[k].p, .string l[k].b, .int .i64 l[k].m] 29)).heap.size := (hbw.alloc hbw.size _).size
      have HROW := Lib.hid hrow
      cases hu : isUp q l[k].p with
      | true =>
        have HN : Hid (M = withoutL (l.take (k + 1)) q s) := by show _ = _; rw [HST.out, hu, if_neg (by simp), ← HM.out]
        rw [hu] at HBL
        go_wp2_with fail
        refine HBL.mono ?_
        rintro e w2 ⟨rfl, rfl⟩
        go_wp2_with fail
        exact ⟨⟨k + 1, M, by omega, by go_num, HN, HROW.out, HNN, hbw⟩, by simp [intOf]; omega⟩
      | false =>
        rw [hu] at HBL
        cases s with
        | false =>
          have HN : Hid (M ++ [l[k]] = withoutL (l.take (k + 1)) q false) := by show _ = _; rw [HST.out, hu, if_pos (by simp), ← HM.out]
          clear hrow
          go_wp2_with fail
          refine HBL.mono ?_
          rintro e w2 ⟨rfl, rfl⟩
          go_wp2_with (first
            | (at_builtin; refine wpList_append_own _ rfl _ _ 23 rfl w.heap.size 29 i0 (.agg #[.int .i64 0, .string ByteArray.empty, .string ByteArray.empty, .int .i64 0]) 4 48 Tryz.underlying23 hi hI0 hI1 hI2 rfl (by decide) _ _ _ rfl hr3 ⟨wr.heap.size, 0, none⟩ 1 1 (R.ns l[k]) rfl rfl hnews hone (by unfold maxLen; omega) (by omega) hbz ?_; intro v' w9 hown' hgrow9 hnil9; skip))
          exact ⟨⟨k + 1, M ++ [l[k]], by omega, by go_num, HN, rowN_snoc hown' HROW.out.2.2 hko, (fun e => by have := (hnil9.1 e).2; omega), (hbw.alloc hbw.size _).grown hgrow9 hbz (fun j hj => (HROW.out.2.1.lt j hj).1)⟩, by simp [intOf]; omega⟩
        | true =>
          by_cases he : l[k].p = q
          · have HN : Hid (M = withoutL (l.take (k + 1)) q true) := by show _ = _; rw [HST.out, hu, if_neg (by simp [he]), ← HM.out]
            have hd : (l[k].p.toList != q.toList) = false := by rw [he]; simp
            have hd2 : (l[k].p.toList == q.toList) = true := by rw [he]; simp
            clear he
            go_wp2_with fail
            refine HBL.mono ?_
            rintro e w2 ⟨rfl, rfl⟩
            go_wp2_with fail
            exact ⟨⟨k + 1, M, by omega, by go_num, HN, HROW.out, HNN, hbw⟩, by simp [intOf]; omega⟩
          · have HN : Hid (M ++ [l[k]] = withoutL (l.take (k + 1)) q true) := by show _ = _; rw [HST.out, hu, if_pos (by simp [he]), ← HM.out]
            have hd2 : (l[k].p.toList == q.toList) = false := by rw [str_eq_dec, decide_eq_false he]
            have hd : (l[k].p.toList != q.toList) = true := by rw [bne, hd2]; rfl
            clear he hrow
            go_wp2_with fail
            refine HBL.mono ?_
            rintro e w2 ⟨rfl, rfl⟩
            go_wp2_with (first
              | (at_builtin; refine wpList_append_own _ rfl _ _ 23 rfl w.heap.size 29 i0 (.agg #[.int .i64 0, .string ByteArray.empty, .string ByteArray.empty, .int .i64 0]) 4 48 Tryz.underlying23 hi hI0 hI1 hI2 rfl (by decide) _ _ _ rfl hr3 ⟨wr.heap.size, 0, none⟩ 1 1 (R.ns l[k]) rfl rfl hnews hone (by unfold maxLen; omega) (by omega) hbz ?_; intro v' w9 hown' hgrow9 hnil9; skip))
            exact ⟨⟨k + 1, M ++ [l[k]], by omega, by go_num, HN, rowN_snoc hown' HROW.out.2.2 hko, (fun e => by have := (hnil9.1 e).2; omega), (hbw.alloc hbw.size _).grown hgrow9 hbz (fun j hj => (HROW.out.2.1.lt j hj).1)⟩, by simp [intOf]; omega⟩
    · have HF : Hid (M = withoutL l q s) := by show _ = _; rw [HM.out, List.take_of_length_le (by omega)]
      have HROW := Lib.hid hrow
      obtain ⟨fA, fcap, rfl⟩ := own_form hrow.2.1
      clear hrow
      go_wp2_with fail
      go_ret
      exact ⟨_, rfl, hbw, by rw [← HF.out]; exact HROW.out, HNN.out⟩

end Go.Proofs.YtcbmnihepeefaaaGreatDoor.Recs

/- The canonical form is told by the effect: two canonical layers that have the same effect on every tree are one; so combining is associative. -/
namespace Go.Proofs.YtcbmnihepeefaaaGreatDoor.Recs
open Go.RowKit Paths

theorem fault_more {r : R} (h : r.fault = 0) : (r.o = true → r.k = 3) ∧ (r.k = 4 → r.b.size = 0 ∧ r.m = 0 ∧ r.o = false) := by
  unfold R.fault faultI at h
  split at h
  · cases h
  split at h
  · cases h
  split at h
  · cases h
  split at h
  · cases h
  split at h
  · cases h
  rename_i h1 h2 h3 h4 h5
  have h6 : r.o = true → r.k = 3 := fun ho => by
    refine Classical.byContradiction fun hk => h4 (.inr ⟨ho, hk⟩)
  refine ⟨h6, fun hk => ⟨?_, ?_, ?_⟩⟩
  · refine Classical.byContradiction fun hz => h4 (.inl ⟨hz, .inr hk⟩)
  · refine Classical.byContradiction fun hz => h5 (.inr (.inr ⟨hz, .inl hk⟩))
  · cases ho : r.o with
    | false => rfl
    | true => have := h6 ho; omega
section
variable {a b : List R} (ha : Canon a) (hb : Canon b) (hlen : a.length + b.length < 4096) (he : ∀ t, IsTree t → applyL a t = applyL b t)
include ha hb he
include hlen
end
end Go.Proofs.YtcbmnihepeefaaaGreatDoor.Recs

/- Combining layers, plain: the combination is canonical; combining is associative; the combination of a stack has the effect of applying its layers in order, and no other canonical layer has it. -/
namespace Go.Proofs.YtcbmnihepeefaaaGreatDoor.Recs
open Go.RowKit Paths

theorem fine_ok {l : List R} (h : Fine l) (hl : l.length ≤ 16) : layerOK l = true := layerOK_of hl h.fine h.layer.sorted h.layer.housed

end Go.Proofs.YtcbmnihepeefaaaGreatDoor.Recs

/- Applying layers to trees, of the model: a record, a layer, a stack. -/
namespace Go.Proofs.YtcbmnihepeefaaaGreatDoor.Recs
set_option maxRecDepth 100000
open Go.RowKit Paths

theorem l04Node_any (r : R) (w : World) :
    Calls Tryz.prog 163 #[r.val] w fun e w' => e = .returned r.nod ∧ Below w.heap.size w w' := by
  unfold R.nod R.val
  go_enter Tryz.func163, Tryz.ntmps163
  go_wp2_with fail
  refine bodyPost_ret (v := .agg #[.int .i64 r.k, .string r.p, .string r.b, .int .i64 r.m]) (by simp [results, Tryz.results163, go_sem]) rfl ⟨rfl, ?_⟩
  exact ((Below.refl _ _).alloc (Nat.le_refl _) _).alloc (by simp) _

theorem without_le (t : List R) (q : ByteArray) (s : Bool) : (withoutL t q s).length ≤ t.length := List.length_filter_le _ _
theorem put_le (t : List R) (n : R) : (putL t n).length ≤ t.length + 1 := by
  unfold putL
  rw [List.length_append, List.length_cons]
  have h : ∀ l : List R, (l.filter fun x => lessR x n).length + (l.filter fun x => lessR n x).length ≤ l.length := by
    intro l
    induction l with
    | nil => simp
    | cons x l ih =>
      have hx : ¬ (lessR x n = true ∧ lessR n x = true) := fun ⟨h1, h2⟩ => by
        unfold lessR at h1 h2
        rw [lessP_asymm _ _ h1] at h2
        cases h2
      rw [List.filter_cons, List.filter_cons, List.length_cons]
      by_cases h1 : lessR x n = true
      · by_cases h2 : lessR n x = true
        · exact absurd ⟨h1, h2⟩ hx
        · rw [if_pos h1, if_neg h2, List.length_cons]; omega
      · by_cases h2 : lessR n x = true
        · rw [if_neg h1, if_pos h2, List.length_cons]; omega
        · rw [if_neg h1, if_neg h2]; omega
  have := h t
  omega
theorem do_le (t : List R) (r : R) : (doR t r).length ≤ t.length + 1 := by
  unfold doR
  split
  · exact Nat.le_succ_of_le (without_le _ _ _)
  · split
    · exact Nat.le_trans (put_le _ _) (Nat.succ_le_succ (without_le _ _ _))
    · exact put_le _ _
end Go.Proofs.YtcbmnihepeefaaaGreatDoor.Recs

/- Applying layers to trees, of the model: a layer, a stack. -/
namespace Go.Proofs.YtcbmnihepeefaaaGreatDoor.Recs
set_option maxRecDepth 100000
open Go.RowKit Paths

theorem apply_le : ∀ (l t : List R), (applyL l t).length ≤ t.length + l.length
  | [], t => Nat.le_refl _
  | r :: l, t => by
    have h1 := apply_le l (doR t r)
    have h2 := do_le t r
    show (applyL l (doR t r)).length ≤ _
    rw [List.length_cons]
    omega
theorem RowN.down {w : World} {base base' : Nat} {v : Value} {n : Nat} {M : List R} (h : RowN w base v n M) (hb : base' ≤ base) : RowN w base' v n M := ⟨h.1, own_down h.2.1 hb, h.2.2⟩
theorem all_snoc (s : List (List R)) (t : List R) {k : Nat} (hk : k < s.length) : applyAllL (s.take (k + 1)) t = applyL s[k] (applyAllL (s.take k) t) := by
  unfold applyAllL
  rw [List.take_succ_eq_append_getElem hk, List.foldl_append]
  rfl
theorem all_le (s : List (List R)) (t : List R) (hs : ∀ l ∈ s, l.length ≤ 16) : (applyAllL s t).length ≤ t.length + 16 * s.length := by
  induction s generalizing t with
  | nil => exact Nat.le_refl _
  | cons l s ih =>
    have h1 := ih (applyL l t) (fun l' hl' => hs l' (List.mem_cons_of_mem _ hl'))
    have h2 := apply_le l t
    have h3 := hs l List.mem_cons_self
    show (applyAllL s (applyL l t)).length ≤ _
    rw [List.length_cons]
    omega
theorem nilN (w : World) (base : Nat) : RowN w base (.slice none 0 0) ([] : List R).length [] := ⟨rfl, World.ownsRow_nil _ _ _ _, fun x hx => by cases hx⟩

end Go.Proofs.YtcbmnihepeefaaaGreatDoor.Recs

/- The program: layers applied to a tree by its map of paths; the answer in a slice of its own. -/
namespace Go.Proofs.YtcbmnihepeefaaaGreatDoor.Recs
set_option maxRecDepth 100000
open Go.RowKit Paths

theorem collectN_any (Bm b nn : Nat) (t : List R) (w : World) (hBm : Bm < w.heap.size) (hm : w.cell? ⟨Bm, 0, none⟩ = some (.map (some b))) (hM : MapT w b nn t) (hnn : nn ≤ 100000) :
    Calls Tryz.prog 239 #[.func (.func 241) #[] #[.pointer (some ⟨Bm, 0, none⟩)]] w fun e w' =>
      ∃ v xs, e = .returned v ∧ Below w.heap.size w w' ∧ AllT t xs ∧ w'.ownsRow w.heap.size 29 4 v xs.length (flatN xs) := by
  have HC := callsIn_wide.1 (appendSeq_in Fence.wide 6 trivial trivial rfl (by omega) Bm b nn t w hBm hm hM hnn)
  clear hm hM
  go_enter Tryz.func239, Tryz.ntmps239
  go_wp2_with fail
  refine HC.mono ?_
  rintro e w1 ⟨v, xs, rfl, hb1, hx, hrow⟩
  have HX := Lib.hid hx
  have HR := Lib.hid hrow
  clear hx hrow
  go_wp2_with fail
  go_ret
  exact ⟨v, xs, rfl, hb1, HX.out, HR.out⟩

theorem allT_len {t xs : List R} (h : AllT t xs) (ht : t.Nodup) : xs.length = t.length := (List.perm_ext_iff_of_nodup h.1 ht).2 h.2 |>.length_eq
theorem sorted_nodup {t : List R} (h : Sorted t) : t.Nodup := List.Pairwise.imp (fun {a b} (hl : lessR a b = true) => fun e => by
  subst e
  unfold lessR at hl
  rw [lessP_irrefl] at hl
  cases hl) h

set_option maxHeartbeats 1000000 in
theorem sortedN_any (Bm b nn : Nat) (t : List R) (w : World) (hBm : Bm < w.heap.size) (hm : w.cell? ⟨Bm, 0, none⟩ = some (.map (some b))) (hM : MapT w b nn t) (hnn : nn ≤ 100000) (ht : Sorted t) (hp : ∀ x ∈ t, pathB x.p.data.toList = true) (hl : t.length ≤ 100000) :
    Calls Tryz.prog 223 #[.func (.func 241) #[] #[.pointer (some ⟨Bm, 0, none⟩)], .func (.func 225) #[] #[]] w fun e w' =>
      ∃ v, e = .returned v ∧ Below w.heap.size w w' ∧ RowN w' w.heap.size v t.length t := by
  have HC := collectN_any Bm b nn t w hBm hm hM hnn
  have HMO := Lib.hid hM.2
  clear hm hM
  go_enter Tryz.func223, Tryz.ntmps223
  go_wp2_with fail
  refine HC.mono ?_
  rintro e w1 ⟨v, xs, rfl, hb1, hx, hrow⟩
  have hxl := allT_len hx (sorted_nodup ht)
  by_cases hv : v = .slice none 0 0
  · subst hv
    have hx0 : xs = [] := by
      rcases hrow.2 with ⟨_, hn⟩ | ⟨g, cap, cur, e, _⟩
      · exact List.eq_nil_of_length_eq_zero hn
      · cases e
    have HT0 : Hid (t = []) := List.eq_nil_of_length_eq_zero (by rw [← hxl, hx0]; rfl)
    have HN := AnyF.slices_SortFunc_none Tryz.sortN none 0 (.func (.func 225) #[] #[]) w1
    change Calls Tryz.prog 240 _ _ _ at HN
    clear hx hrow hx0 hxl
    go_wp2_with fail
    refine HN.mono ?_
    rintro e w2 ⟨rfl, rfl⟩
    go_wp2_with fail
    go_ret
    exact ⟨_, rfl, hb1, by rw [HT0.out]; exact nilN _ _⟩
  · obtain ⟨g, cap, rfl⟩ : ∃ g cap, v = .slice (some ⟨g, 0, none⟩) xs.length cap := by
      rcases hrow.2 with ⟨e, _⟩ | ⟨g, cap, cur, e, _⟩
      · exact absurd e hv
      · exact ⟨g, cap, e⟩
    have HS := sortN_any g cap xs t w.heap.size w1 hrow hx ht hp (by omega)
    have hgl := (hrow.lt g rfl)
    have HXL := Lib.hid hxl
    clear hx hrow hv hxl
    go_wp2_with fail
    refine HS.mono ?_
    rintro e w2 ⟨rfl, hg2, hlen, hrow2⟩
    have HR2 := Lib.hid hrow2
    have hb2 := hb1.grown hg2 hb1.size (fun k hk => by cases hk; exact hgl.1)
    clear hrow2 hg2 hlen
    go_wp2_with fail
    go_ret
    refine ⟨_, rfl, hb2, rfl, ?_, HMO.out⟩
    have := HR2.out
    rw [HXL.out] at this ⊢
    exact this

set_option maxHeartbeats 1000000 in
theorem mapTree_any (b nn : Nat) (t : List R) (w : World) (hM : MapT w b nn t) (hnn : nn ≤ 100000) (ht : Sorted t) (hp : ∀ x ∈ t, pathB x.p.data.toList = true) (hl : t.length ≤ 100000) :
    Calls Tryz.prog 187 #[.map (some b)] w fun e w' => ∃ v, e = .returned v ∧ Below w.heap.size w w' ∧ RowN w' w.heap.size v t.length t := by
  have hb1 : Below w.heap.size w (w.alloc (.cells #[.map (some b)] 175)) := (Below.refl _ _).alloc (Nat.le_refl _) _
  have HV : Calls Tryz.prog 224 #[.map (some b)] w fun e w' => e = .returned (.func (.func 241) #[] #[.pointer (some ⟨w.heap.size, 0, none⟩)]) ∧ w' = w.alloc (.cells #[.map (some b)] 175) := by
    clear hM ht hp hb1
    go_enter Tryz.func224, Tryz.ntmps224
    go_wp2_with fail
    go_ret
    exact ⟨rfl, rfl⟩
  have HS := sortedN_any w.heap.size b nn t (w.alloc (.cells #[.map (some b)] 175)) (by simp) (cell_one_new w _ _ 0 _ rfl) (hM.below hb1) hnn ht hp hl
  clear hM ht hp
  go_enter Tryz.func187, Tryz.ntmps187
  go_wp2_with fail
  refine HV.mono ?_
  rintro e w1 ⟨rfl, rfl⟩
  generalize w.alloc (.cells #[.map (some b)] 175) = W1 at *
  go_wp2_with fail
  refine HS.mono ?_
  rintro e w2 ⟨v, rfl, hb2, hrow⟩
  have HR := Lib.hid hrow
  clear hrow
  go_wp2_with fail
  go_ret
  exact ⟨v, rfl, hb1.trans (hb2.mono hb1.size), HR.out.down hb1.size⟩
end Go.Proofs.YtcbmnihepeefaaaGreatDoor.Recs

/- The program: layers applied to a tree (afterLayers), and the limit of nodes. -/
namespace Go.Proofs.YtcbmnihepeefaaaGreatDoor.Recs
set_option maxRecDepth 100000
open Go.RowKit Paths

theorem all_tree : ∀ (s : List (List R)) {t : List R}, (∀ l ∈ s, IsLayer l) → IsTree t → IsTree (applyAllL s t)
  | [], _, _, h => h
  | l :: s, _, hs, h => all_tree s (fun l' hl' => hs l' (List.mem_cons_of_mem _ hl')) (apply_tree (hs l List.mem_cons_self) h)

set_option maxHeartbeats 2000000 in
theorem afterLayers_any (v sv : Value) (t : List R) (LL : List (List R)) (w : World) (h : NodSl w v t) (hS : StkSl w sv LL) (hT : IsTree t) (hl : t.length ≤ 1000) (hLL : ∀ l ∈ LL, IsLayer l ∧ l.length ≤ 16) (hn : LL.length ≤ 100) :
    Calls Tryz.prog 117 #[v, sv] w fun e w' => ∃ x, e = .returned x ∧ Below w.heap.size w w' ∧ RowN w' w.heap.size x (applyAllL LL t).length (applyAllL LL t) := by
  have HMT := mapOfTree_any v t w h (by omega) hT.sorted (fun r hr => (by have h35 : r.p.size ≤ 35 := (by rw [Lib.size_eq]; exact pathB_len (hT.path r hr)); unfold maxLen; omega))
  obtain ⟨ho, A, cap, rfl, hcap, _⟩ := h
  obtain ⟨sA, scap, rfl, hscap, hS⟩ := hS
  have H := Lib.hid hS
  have HT := Lib.hid hT
  have HL := Lib.hid hLL
  clear hS hT hLL ho
  go_enter Tryz.func117, Tryz.ntmps117
  go_wp2_with fail
  refine HMT.mono ?_
  rintro e w1 ⟨rfl, hb1, hM1⟩
  have HM1 := Lib.hid hM1
  clear hM1
  go_wp2
  go_loopw [12] (fun i wr => ∃ k : Nat, k ≤ LL.length ∧ i = .int .i64 k ∧ Below w.heap.size w wr ∧ Hid (MapT wr w.heap.size (t.length + 16 * k) (applyAllL (LL.take k) t))) (fun i _ => LL.length - (intOf i).toNat)
  case atStart => exact ⟨0, by omega, rfl, hb1, HM1.out⟩
  case round =>
    obtain ⟨k, hk, rfl, hbw, HK⟩ := hrel
    by_cases hlt : k < LL.length
    · obtain ⟨b, off, rfl, hb, hcell⟩ := H.out (by omega)
      obtain ⟨u1, c1, hu1⟩ := hcell k LL[k] (by simp [hlt])
      have c1' := (hbw.cell (p := ⟨b, off + k, none⟩) hb).trans c1
      have hu2 := hu1.below hbw
      clear hcell c1
      have hi1 : (k : Int) < (LL.length : Int) := by omega
      have hi0 : (0 : Int) ≤ (k : Int) := by omega
      obtain ⟨hly, h16⟩ := HL.out _ (List.getElem_mem hlt)
      have HAP := mapApply_any w.heap.size (t.length + 16 * k) _ u1 LL[k] wr HK.out hu2 (by omega) hly (all_tree _ (fun l hm => (HL.out l (List.mem_of_mem_take hm)).1) HT.out)
      obtain ⟨uA, ucap, rfl, _⟩ := hu1
      have HSN := Lib.hid (all_snoc LL t hlt)
      clear hu2 hly
      go_wp2_with fail
      refine HAP.mono ?_
      rintro e w2 ⟨rfl, hg2, hM2⟩
      have HM2 := Lib.hid hM2
      clear hM2
      go_wp2_with fail
      go_roundw
      case rel => exact ⟨k + 1, by omega, by go_num, hbw.grown hg2 hbw.size (fun j hj => by cases hj; exact Nat.le_refl _), by
        show MapT _ _ _ _
        rw [HSN.out]
        exact HM2.out.mono (by omega)⟩
      case measure => simp [intOf]; omega
    · obtain rfl : k = LL.length := by omega
      have HK2 := HK.out
      rw [List.take_of_length_le (Nat.le_refl _)] at HK2
      have HTR := all_tree LL (fun l hm => (HL.out l hm).1) HT.out
      have hle := all_le LL t (fun l hm => (HL.out l hm).2)
      have HMT := mapTree_any w.heap.size _ _ wr HK2 (by omega) HTR.sorted HTR.path (by omega)
      clear HK2 HTR hle
      go_wp2_with fail
      refine HMT.mono ?_
      rintro e w3 ⟨x, rfl, hb3, hrow⟩
      have HR := Lib.hid hrow
      clear hrow
      go_wp2_with fail
      go_ret
      exact ⟨x, rfl, hbw.trans (hb3.mono hbw.size), HR.out.down hbw.size⟩

/-- What the limit leaves of a list of nodes. -/
def limL (T : List R) : List R := if 24 < T.length then [] else T
def limC (T : List R) : Int := if 24 < T.length then 7 else 0
theorem limitNodes_any (v : Value) (T : List R) (base : Nat) (w : World) (h : RowN w base v T.length T) :
    Calls Tryz.prog 116 #[v] w fun e w' => ∃ x, e = .returned (.tuple #[x, .int .i64 (limC T)]) ∧ w = w' ∧ RowN w base x (limL T).length (limL T) := by
  obtain ⟨vA, vcap, rfl⟩ := own_form h.2.1
  have HR := Lib.hid h
  clear h
  by_cases h24 : 24 < T.length
  · have hd : decide ((24 : Int) < (T.length : Int)) = true := by simp; omega
    have HC : Hid (limC T = 7) := if_pos h24
    have HL : Hid (limL T = []) := if_pos h24
    go_enter Tryz.func116, Tryz.ntmps116
    go_wp2_with fail
    go_ret2
    exact ⟨_, by rw [HC.out]; rfl, rfl, by rw [HL.out]; exact nilN _ _⟩
  · have hd : decide ((24 : Int) < (T.length : Int)) = false := by simp; omega
    have HC : Hid (limC T = 0) := if_neg h24
    have HL : Hid (limL T = T) := if_neg h24
    go_enter Tryz.func116, Tryz.ntmps116
    go_wp2_with fail
    go_ret2
    exact ⟨_, by rw [HC.out]; rfl, rfl, by rw [HL.out]; exact HR.out⟩
end Go.Proofs.YtcbmnihepeefaaaGreatDoor.Recs

/- Layers: SameLayer, of the program and of its model. -/
namespace Go.Proofs.YtcbmnihepeefaaaGreatDoor.Recs
set_option maxRecDepth 100000
open Go.RowKit Paths Errs

def okL (l : List R) : Bool := decide (l.length ≤ 4096) && layerOK l
end Go.Proofs.YtcbmnihepeefaaaGreatDoor.Recs

/- The code of the errors of a call's arguments, whichever check they come from. Conditions: the table of kinds, the two sentinels. -/
namespace Go.Proofs.YtcbmnihepeefaaaGreatDoor.Recs
set_option maxRecDepth 100000
open Go.RowKit Paths Errs

/-- The arguments' errors, as the call of a variadic function lays them. -/
theorem argU2_any (a b : EU) (x y : Addr) (w : World) (hT : Three w x y) :
    Calls Tryz.prog 89 #[.slice (some ⟨w.heap.size, 0, none⟩) 2 2] (w.alloc (.cells #[a.val x y, b.val x y] 96)) fun e w' => e = .returned (.int .i64 (euFrom [a, b] 0)) ∧ Below w.heap.size w w' := by
  have hb0 : Below w.heap.size w (w.alloc (.cells #[a.val x y, b.val x y] 96)) := (Below.refl _ _).alloc (Nat.le_refl _) _
  have := argumentU_any w.heap.size [a, b] x y (w.alloc (.cells #[a.val x y, b.val x y] 96)) (hT.below hb0 (Nat.le_refl _)) (by simp) (by simp) (fun k hk => by
    have hk2 : k < 2 := hk
    match k, hk2 with
    | 0, _ => go_simp
    | 1, _ => go_simp)
  refine this.mono ?_
  rintro e w1 ⟨rfl, hb1⟩
  exact ⟨rfl, hb0.trans (hb1.mono hb0.size)⟩
/-- What checkLayer answers. -/
def checkU (l : List R) : EU := if 4096 < l.length then .long else if (layerFaultL l).2 ≠ 0 then .bad (layerFaultL l).1 (layerFaultL l).2 else .fine
theorem checkU_val (l : List R) (x y : Addr) : (checkU l).val x y = checkV l x := by
  unfold checkU checkV
  split
  · rfl
  · split <;> rfl
theorem checkU_any (v : Value) (l : List R) (x y : Addr) (w : World) (h : RecSl w v l) (hl : l.length ≤ 1048576) (hr : ∀ r ∈ l, r.p.size ≤ maxLen) (hT : Three w x y) :
    Calls Tryz.prog 115 #[v] w fun e w' => e = .returned ((checkU l).val x y) ∧ Below w.heap.size w w' := by
  rw [checkU_val]
  exact checkLayer_any v l x w h hl hr hT.tab hT.long
theorem growU_any (v : Value) (l : List R) (x y : Addr) (w : World) (h : NodSl w v l) (hl : l.length ≤ 1048576) (hr : ∀ r ∈ l, r.p.size ≤ maxLen) (hT : Three w x y) :
    Calls Tryz.prog 101 #[v] w fun e w' => e = .returned ((growK l).u.val x y) ∧ Below w.heap.size w w' := by
  rw [EN.u_val]
  exact checkTree_any v l x y w h hl hr hT
/-- The code of a call with a layer and a tree. -/
def codeLN (l t : List R) : Int := if 4096 < l.length ∨ 4096 < t.length then 2 else if layerOK l && treeOK t then 0 else 1
theorem arg_ln (l t : List R) : euFrom [checkU l, (growK t).u] 0 = codeLN l t := by
  by_cases h1 : 4096 < l.length <;> by_cases h2 : 4096 < t.length <;> by_cases h3 : (layerFaultL l).2 = 0 <;> cases h4 : treeOK t <;> simp [checkU, growK, EN.u, codeLN, euFrom, layerOK, h1, h2, h3, h4]
end Go.Proofs.YtcbmnihepeefaaaGreatDoor.Recs

/- Apply, Changes of the program. Conditions: the table of kinds, the two sentinels. -/
namespace Go.Proofs.YtcbmnihepeefaaaGreatDoor.Recs
set_option maxRecDepth 100000
open Go.RowKit Paths Errs

def appC (l t : List R) : Int := if codeLN l t ≠ 0 then codeLN l t else limC (applyL l t)
def appR (l t : List R) : List R := if codeLN l t ≠ 0 then [] else limL (applyL l t)
theorem fine_ln {l t : List R} (h : codeLN l t = 0) : checkU l = .fine ∧ growK t = .fine ∧ layerOK l = true ∧ treeOK t = true := by
  unfold codeLN at h
  split at h
  · cases h
  · rename_i hn
    split at h
    · rename_i hk
      rw [Bool.and_eq_true] at hk
      have h3 : (layerFaultL l).2 = 0 := by have := hk.1; unfold layerOK at this; simpa using this
      exact ⟨by unfold checkU; rw [if_neg (fun e => hn (.inl e)), if_neg (by simpa using h3)], by unfold growK; rw [if_neg (fun e => hn (.inr e)), if_pos hk.2], hk.1, hk.2⟩
    · cases h
theorem layer_16 {l : List R} (h : layerOK l = true) : l.length ≤ 16 := layer_len h
theorem RecSl.form {w : World} {v : Value} {l : List R} (h : RecSl w v l) : ∃ A cap, v = .slice A l.length cap := by
  obtain ⟨A, cap, rfl, _⟩ := h
  exact ⟨A, cap, rfl⟩
/-- One slice laid in a row of its own. -/
theorem stk_one {w : World} {v : Value} {l : List R} (h : RecSl w v l) : StkSl (w.alloc (.cells #[v] 45)) (.slice (some ⟨w.heap.size, 0, none⟩) 1 1) [l] := by
  refine ⟨_, 1, rfl, Nat.le_refl _, fun _ => ⟨w.heap.size, 0, rfl, by simp, fun i q hi => ?_⟩⟩
  match i, hi with
  | 0, hi =>
    cases hi
    exact ⟨v, cell_one_new w _ _ 0 _ rfl, h.below ((Below.refl _ _).alloc (Nat.le_refl _) _)⟩
  | i + 1, hi => simp at hi

set_option maxHeartbeats 1000000 in
theorem apply_impl (v u : Value) (l t : List R) (x y : Addr) (w : World) (h : RecSl w v l) (hn : NodSl w u t) (hl : l.length ≤ 1048576) (htl : t.length ≤ 1048576) (hr : ∀ r ∈ l, r.p.size ≤ maxLen) (htr : ∀ r ∈ t, r.p.size ≤ maxLen) (hT : Three w x y) :
    Calls Tryz.prog 29 #[v, u] w fun e w' => ∃ z, e = .returned (.tuple #[z, .int .i64 (appC l t)]) ∧ Below w.heap.size w w' ∧ RowN w' w.heap.size z (appR l t).length (appR l t) := by
  have HARG : euFrom [checkU l, (growK t).u] 0 = codeLN l t := arg_ln l t
  by_cases h0 : codeLN l t = 0
  · obtain ⟨hc, hg, hLO, hTO⟩ := fine_ln h0
    have HRES : Hid (appC l t = limC (applyL l t) ∧ appR l t = limL (applyL l t)) := ⟨if_neg (by simpa using h0), if_neg (by simpa using h0)⟩
    obtain ⟨vA, vcap, rfl⟩ := h.form
    have hLY := layer_is hLO
    have h16 := layer_16 hLO
    have hTR := (tree_of hTO).is
    have h24 := (tree_of hTO).len
    have HC := checkU_any _ l x y w h hl hr hT
    rw [hc] at HC
    unfold EU.val at HC
    have HARG2 := Lib.hid HARG
    clear HARG h0
    go_enter Tryz.func29, Tryz.ntmps29
    go_wp2_with fail
    refine HC.mono ?_
    rintro e w1 ⟨rfl, hb1⟩
    have hT1 := hT.below hb1 (Nat.le_refl _)
    have HG := growU_any u t x y w1 (hn.below hb1) htl htr hT1
    rw [hg] at HG
    unfold EN.u EU.val at HG
    go_wp2_with fail
    refine HG.mono ?_
    rintro e w2 ⟨rfl, hb2⟩
    have c2 := hb1.trans (hb2.mono hb1.size)
    have HA := argU2_any .fine .fine x y w2 (hT.below c2 (Nat.le_refl _))
    unfold EU.val at HA
    go_wp2_with fail
    refine HA.mono ?_
    rintro e w3 ⟨rfl, hb3⟩
    have c3 := c2.trans (hb3.mono c2.size)
    have hcode : euFrom [.fine, .fine] 0 = 0 := rfl
    rw [hcode]
    clear hcode
    have hSt := stk_one (h.below c3)
    have hbS : Below w3.heap.size w3 (w3.alloc (.cells #[.slice vA l.length vcap] 45)) := (Below.refl _ _).alloc (Nat.le_refl _) _
    have cS := c3.trans (hbS.mono c3.size)
    have HAL := afterLayers_any u _ t [l] _ (hn.below cS) hSt hTR (by omega) (fun l' hm => by rw [List.mem_singleton.1 hm]; exact ⟨hLY, h16⟩) (by simp)
    change Calls _ _ _ _ (fun e w' => ∃ x, e = .returned x ∧ _ ∧ RowN w' _ x (applyL l t).length (applyL l t)) at HAL
    clear hSt hbS
    go_wp2_with fail
    generalize w3.alloc (.cells #[.slice vA l.length vcap] 45) = W4 at *
    refine HAL.mono ?_
    rintro e w5 ⟨z, rfl, hb5, hrow⟩
    have c5 := cS.trans (hb5.mono cS.size)
    have HLM := limitNodes_any z _ _ w5 (hrow.down cS.size)
    clear hrow
    go_wp2_with fail
    refine HLM.mono ?_
    rintro e w6 ⟨z2, rfl, rfl, hrow2⟩
    have HR2 := Lib.hid hrow2
    clear hrow2
    go_wp2_with fail
    go_ret2
    exact ⟨z2, by rw [HRES.out.1]; rfl, c5, by rw [HRES.out.2]; exact HR2.out⟩
  · have HRES : Hid (appC l t = codeLN l t ∧ appR l t = []) := ⟨if_pos h0, if_pos h0⟩
    cases hc : checkU l <;> cases hg : growK t <;> (
      rw [hc, hg] at HARG
      first
      | exact absurd (HARG.symm.trans rfl) h0
      | (have HC := checkU_any _ l x y w h hl hr hT
         rw [hc] at HC
         unfold EU.val at HC
         try unfold errV at HC
         try unfold recV at HC
         go_enter Tryz.func29, Tryz.ntmps29
         go_wp2_with fail
         refine HC.mono ?_
         rintro e w1 ⟨rfl, hb1⟩
         have hT1 := hT.below hb1 (Nat.le_refl _)
         have HG := growU_any u t x y w1 (hn.below hb1) htl htr hT1
         rw [hg] at HG
         unfold EN.u EU.val at HG
         try unfold errV at HG
         go_wp2_with fail
         refine HG.mono ?_
         rintro e w2 ⟨rfl, hb2⟩
         have c2 := hb1.trans (hb2.mono hb1.size)
         have HA := argU2_any (checkU l) ((growK t).u) x y w2 (hT.below c2 (Nat.le_refl _))
         rw [hc, hg] at HA
         have hne : (codeLN l t != 0) = true := (by simpa using h0)
         rw [HARG] at HA
         try unfold EN.u at HA
         unfold EU.val at HA
         try unfold errV at HA
         try unfold recV at HA
         generalize hC : codeLN l t = C at *
         have HCC := Lib.hid hC
         clear HARG h0 hC
         go_wp2_with fail
         refine HA.mono ?_
         rintro e w3 ⟨rfl, hb3⟩
         have c3 := c2.trans (hb3.mono c2.size)
         go_wp2_with fail
         go_ret2
         exact ⟨_, by rw [HRES.out.1]; rfl, c3, by rw [HRES.out.2]; exact nilN _ _⟩))

end Go.Proofs.YtcbmnihepeefaaaGreatDoor.Recs

/- Apply, Changes of the model. -/
namespace Go.Proofs.YtcbmnihepeefaaaGreatDoor.Recs
set_option maxRecDepth 100000
open Go.RowKit Paths

theorem emptyN (w : World) {base : Nat} (hb : base ≤ w.heap.size) : RowN (w.alloc (.cells #[] 29)) base (.slice (some ⟨w.heap.size, 0, none⟩) 0 0) ([] : List R).length [] := ⟨rfl, World.ownsRow_lit w #[] 0 hb (Nat.zero_le _) rfl, fun x hx => by cases hx⟩
theorem ln_fine {l t : List R} (h : ¬ (4096 < l.length ∨ 4096 < t.length)) (h1 : layerOK l = true) (h2 : treeOK t = true) : codeLN l t = 0 := by
  unfold codeLN
  rw [if_neg h, if_pos (by simp [h1, h2])]
theorem app_fine {l t : List R} (h : codeLN l t = 0) : appC l t = limC (applyL l t) ∧ appR l t = limL (applyL l t) := by
  unfold appC appR
  rw [h, if_neg (by decide), if_neg (by decide)]
  exact ⟨rfl, rfl⟩
end Go.Proofs.YtcbmnihepeefaaaGreatDoor.Recs
