/- Parts of several texts of mine in one file (each begins with its own remark). -/
import Derived.Test.YtciflchaepchiabGreatDoorUA1
import Derived.Test.YtciflchaepchiabGreatDoorUA10
import Derived.Test.YtciflchaepchiabGreatDoorUA11
import Derived.Test.YtciflchaepchiabGreatDoorUA12
import Derived.Test.YtciflchaepchiabGreatDoorUA14
import Derived.Test.YtciflchaepchiabGreatDoorUA15
import Derived.Test.YtciflchaepchiabGreatDoorUA16
import Derived.Test.YtciflchaepchiabGreatDoorUA17
import Derived.Test.YtciflchaepchiabGreatDoorUA19
import Derived.Test.YtciflchaepchiabGreatDoorUA2
import Derived.Test.YtciflchaepchiabGreatDoorUA20
import Derived.Test.YtciflchaepchiabGreatDoorUA21
import Derived.Test.YtciflchaepchiabGreatDoorUA22
import Derived.Test.YtciflchaepchiabGreatDoorUA23
import Derived.Test.YtciflchaepchiabGreatDoorUA3
import Derived.Test.YtciflchaepchiabGreatDoorUA4
import Derived.Test.YtciflchaepchiabGreatDoorUA5
import Derived.Test.YtciflchaepchiabGreatDoorUA6
import Derived.Test.YtciflchaepchiabGreatDoorUA7
import Derived.Test.YtciflchaepchiabGreatDoorUA8
import Derived.Test.YtciflchaepchiabGreatDoorUA9
import Derived.Test.YtciflchaepchiabGreatDoorChecked
import Derived.Test.YtciflchaepchiabGreatDoorShelf
import Derived.Test.YtciflchaepchiabGreatDoorProg
import Derived.Test.YtciflchaepchiabGreatDoorRows
import Derived.Maps.OwnIn
import Derived.Deep.Slices
import Derived.OpenShut
import Derived.ShutString
import Derived.ChangeArms
import Derived.WideShapes
import Derived.Lib.LaidTab
import Derived.BigQuiet
import Derived.Deep.QuietTactic
import Derived.Deep.RegionHeld3
import Derived.StillTailTactics
import Derived.Deep.Draws
import Derived.Deep.LoopGhost
import Derived.WalkKit
import Derived.WalkSpells
import Derived.WalkSmall
import Derived.Lib.OthersKept
import Derived.Lib.Hide
import Derived.Lib.Strings
import Derived.Lib.Join
import Derived.WalkLawsBesides
import Derived.Laws.BytesArg
import Derived.Laws.OwnMore
import Derived.BigRegion
import Derived.Stop.LaidErr
import Derived.LaidEql
import Derived.Stop.Asserts
import Derived.Below
import Derived.Stop.LaidTwo
import Derived.Deep.RegionWith
import Derived.Laws.AppendOwnNone
import Derived.RegionTactic
import Derived.RangeFuncNested
import Derived.RangeFuncBound
import Derived.RangeFuncCalls
import Derived.RangeFuncLeaves
import Derived.RangeFuncBox
import Derived.Shelf.Abstract
import Derived.Shelf.RegionOpen
import Derived.OwnWalkIn
import Derived.TacticsInMore
import Derived.LoopNIn
import Derived.LoopIn
import Derived.ChangeVars
import Derived.Deep.DeepHandedRow
import Derived.OneCell
import Derived.Lib.SliceRun
import Derived.Lib.Overlaps
import Derived.Lib.AppendZerosOnto
import Derived.Laws.NewBlocks
import Derived.Laws.IdiomCopy
import Derived.Deep.RegionLaw
import Derived.Laws.IdiomRangeMap
import Derived.Maps.RangeWalk
import Derived.Maps.Ext
import Derived.Lib.SlMapFilter
import Derived.Deep.AppendLies
import Derived.Laws.EntriesVeiled
/- LayerBetween, of the program. Conditions: the table of kinds, the two sentinels. -/
namespace Go.Proofs.YtciflchaepchiabGreatDoor.Recs
set_option maxRecDepth 100000
open Go.RowKit Paths Errs Go.Shelf
attribute [local go_sem] Oper.semAt_some

def limB (L : List R) : List R := if 16 < L.length then [] else L
def lbC (A B : List R) : Int := if codeNN A B = 0 then (if 16 < (betP A B).length then 6 else 0) else codeNN A B
def lbR (A B : List R) : List R := if codeNN A B = 0 then limB (betP A B) else []
theorem lb_bad {A B : List R} {c : Int} (h : codeNN A B = c) (hc : c ≠ 0) : lbC A B = c ∧ lbR A B = [] := by
  unfold lbC lbR
  rw [if_neg (by rw [h]; exact hc), if_neg (by rw [h]; exact hc), h]
  exact ⟨rfl, rfl⟩
theorem lb_many {A B : List R} (h : codeNN A B = 0) (hl : 16 < (betP A B).length) : lbC A B = 6 ∧ lbR A B = [] := by
  unfold lbC lbR limB
  rw [if_pos h, if_pos h, if_pos hl, if_pos hl]
  exact ⟨rfl, rfl⟩
theorem lb_ok {A B : List R} (h : codeNN A B = 0) (hl : ¬ 16 < (betP A B).length) : lbC A B = 0 ∧ lbR A B = betP A B := by
  unfold lbC lbR limB
  rw [if_pos h, if_pos h, if_neg hl, if_neg hl]
  exact ⟨rfl, rfl⟩
theorem lb_len (A B : List R) : (lbR A B).length ≤ 1048576 := by
  unfold lbR limB
  split
  · split
    · simp
    · omega
  · simp

set_option maxHeartbeats 8000000 in
theorem LayerBetween_impl (v1 v2 : Value) (A B : List R) (x y : Addr) (w : World) (h1 : NodSl w v1 A) (h2 : NodSl w v2 B) (hl1 : A.length ≤ 1048576) (hl2 : B.length ≤ 1048576)
    (hr1 : ∀ r ∈ A, r.p.size ≤ maxLen) (hr2 : ∀ r ∈ B, r.p.size ≤ maxLen) (hT : Three w x y) :
    Calls Tryz.prog 52 #[v1, v2] w fun e w' => ∃ z, e = .returned (.tuple #[z, .int .i64 (lbC A B)]) ∧ Below w.heap.size w w' ∧ RowOf w' w.heap.size z (lbR A B).length (lbR A B) := by
  have HARG : enFrom [growK A, growK B] 0 = codeNN A B := arg_nn A B
  have HC1 := checkTree_any v1 A x y w h1 hl1 hr1 hT
  have HC2 := fun w1 (hb : Below w.heap.size w w1) => checkTree_any v2 B x y w1 (h2.below hb) hl2 hr2 (hT.below hb (Nat.le_refl _))
  by_cases h0 : codeNN A B = 0
  · obtain ⟨ht1, ht2⟩ := nn_ok h0
    have H0 := Lib.hid h0
    rw [grow_ok2 ht1] at HC1
    rw [grow_ok2 ht2] at HC2
    unfold EN.val at HC1 HC2
    have hTA := tree_of ht1
    have hTB := tree_of ht2
    have HB := fun w3 (hb : Below w.heap.size w w3) => layerBetween_any v1 v2 A B w3 (h1.below hb) (h2.below hb) hTA hTB
    have hbl : (betP A B).length ≤ 192 := by
      have h1 := lbL_len B (chgs A B) (fun d hd => chg_path hTA.is.path hTB.is.path ((chg_mem A B hTA.sorted hTB.sorted d).1 hd))
      rw [show lbL B (chgs A B) = betP A B from rfl] at h1
      have := hTA.len
      have := hTB.len
      have := chg_len A B
      omega
    obtain ⟨a1, cap1, rfl⟩ := nodSl_form h1
    obtain ⟨a2, cap2, rfl⟩ := nodSl_form h2
    clear HARG h0 ht1 ht2 h1 h2 hTA hTB
    go_enter Tryz.func52, Tryz.ntmps52
    go_wp2_with fail
    refine HC1.mono ?_
    rintro e w1 ⟨rfl, hb1⟩
    go_wp2_with fail
    refine (HC2 w1 hb1).mono ?_
    rintro e w2 ⟨rfl, hb2⟩
    have c2 := hb1.trans (hb2.mono hb1.size)
    have HA := argN2_any .fine .fine x y w2 (hT.below c2 (Nat.le_refl _))
    unfold EN.val at HA
    rw [show enFrom [.fine, .fine] 0 = 0 from rfl] at HA
    go_wp2_with fail
    refine HA.mono ?_
    rintro e w3 ⟨rfl, hb3⟩
    have c3 := c2.trans (hb3.mono c2.size)
    clear HA HC1 HC2
    go_wp2_with fail
    refine (HB w3 c3).mono ?_
    rintro e w4 ⟨z, rfl, hb4, hrow⟩
    have c4 := c3.trans (hb4.mono c3.size)
    have HRW : Hid (RowOf w4 w.heap.size z (betP A B).length (betP A B)) := ⟨rfl, own_le hrow.2 c3.size⟩
    obtain ⟨zA, zcap, rfl⟩ := own_form HRW.out.2
    clear hrow
    by_cases hm : 16 < (betP A B).length
    · have HQ := Lib.hid (lb_many H0.out hm)
      have hd : decide (((betP A B).length : Int) > 16) = true := decide_eq_true (by omega)
      go_wp2_with fail
      go_ret2
      exact ⟨.slice none 0 0, by rw [HQ.out.1]; rfl, c4, by rw [HQ.out.2]; exact ⟨rfl, World.ownsRow_nil _ _ _ _⟩⟩
    · have HQ := Lib.hid (lb_ok H0.out hm)
      have hd : decide (((betP A B).length : Int) > 16) = false := decide_eq_false (by omega)
      go_wp2_with fail
      go_ret2
      exact ⟨.slice zA (betP A B).length zcap, by rw [HQ.out.1]; rfl, c4, by rw [HQ.out.2]; exact HRW.out⟩
  · cases hga : growK A <;> cases hgb : growK B <;> (
      rw [hga, hgb] at HARG
      first
      | exact absurd (HARG.symm.trans rfl) h0
      | (rw [hga] at HC1
         rw [hgb] at HC2
         unfold EN.val at HC1 HC2
         try unfold errV at HC1
         try unfold errV at HC2
         have HAA := fun w2 hb => argN2_any (growK A) (growK B) x y w2 (hT.below hb (Nat.le_refl _))
         rw [hga, hgb] at HAA
         have hne : (codeNN A B != 0) = true := (by simpa using h0)
         have HQ := Lib.hid (lb_bad (A := A) (B := B) rfl h0)
         rw [HARG] at HAA
         unfold EN.val at HAA
         try unfold errV at HAA
         generalize hC : codeNN A B = C at *
         have HCC := Lib.hid hC
         obtain ⟨a1, cap1, rfl⟩ := nodSl_form h1
         obtain ⟨a2, cap2, rfl⟩ := nodSl_form h2
         clear HARG h0 hC h1 h2
         go_enter Tryz.func52, Tryz.ntmps52
         go_wp2_with fail
         refine HC1.mono ?_
         rintro e w1 ⟨rfl, hb1⟩
         go_wp2_with fail
         refine (HC2 w1 hb1).mono ?_
         rintro e w2 ⟨rfl, hb2⟩
         have c2 := hb1.trans (hb2.mono hb1.size)
         go_wp2_with fail
         refine (HAA w2 c2).mono ?_
         rintro e w3 ⟨rfl, hb3⟩
         have c3 := c2.trans (hb3.mono c2.size)
         go_wp2_with fail
         go_ret2
         exact ⟨.slice none 0 0, by rw [HQ.out.1]; rfl, c3, by rw [HQ.out.2]; exact ⟨rfl, World.ownsRow_nil _ _ _ _⟩⟩))
end Go.Proofs.YtciflchaepchiabGreatDoor.Recs

/- Trees: ListDir, of the program and of its model. Conditions (of the program's): the table of kinds, the two sentinels. -/
namespace Go.Proofs.YtciflchaepchiabGreatDoor.Recs
set_option maxRecDepth 100000
open Go.RowKit Paths Errs

theorem cut_last {p : ByteArray} {w : World} {g : Nat} (h : ∀ i (hi : i < (cutAt 47 p.data.toList).length), w.cell? ⟨g, i, none⟩ = some (strV (cutAt 47 p.data.toList)[i])) : w.cell? ⟨g, (cutAt 47 p.data.toList).length - 1, none⟩ = some (.string (lastB p)) := by
  have hp := cutAt_pos 47 p.data.toList
  rw [h _ (by omega), last_cell hp]

end Go.Proofs.YtciflchaepchiabGreatDoor.Recs

/- A tree in memory: a node taken out, with all that is below it. -/
namespace Go.Proofs.YtciflchaepchiabGreatDoor.Recs
set_option maxRecDepth 100000
open Go.RowKit Paths

theorem ups_nil : ups ByteArray.empty = [] := by decide
section
variable {base : Nat} {A : ByteArray → Nat} {S : ByteArray → Value} {t : List R} {x : R} {q : ByteArray}
/-- Those directly below one that stay without a last part. -/
def kidsBut (t : List R) (p q : ByteArray) : List R := (kids t p).filter fun c => !decide (lastB c.p = lastB q)
theorem Tr.cut {W w9 : World} (h : Tr W base A S t) (ht : IsTree t) (hq : pathB q.data.toList = true) (hx : x ∈ rootR :: t) (hxp : x.p = parO q) {v' : Value}
    (hown : w9.ownsRow base 176 1 v' (kidsBut t x.p q).length (ptrs A (kidsBut t x.p q)))
    (hgrow : W.grownBy w9 (S x.p).ownBlock) (hwh : v'.ownBlock = (S x.p).ownBlock) :
    Tr (w9.setCell ⟨A x.p, 5, none⟩ v') base A (fun p => if p = x.p then v' else S p) (withoutL t q true) := by
  have hs := ht.sorted
  have hpath := ht.path
  have hmem : ∀ r, r ∈ rootR :: withoutL t q true → r ∈ rootR :: t ∧ r.p ≠ q ∧ q ∉ ups r.p := fun r hr => by
    rcases List.mem_cons.1 hr with rfl | hr
    · refine ⟨root_mem, fun e => path_nonempty hq e.symm, ?_⟩
      rw [rootR_p, ups_nil]
      simp
    · obtain ⟨h1, h2, h3⟩ := mem_without.1 hr
      exact ⟨List.mem_cons_of_mem _ h1, h3 rfl, h2⟩
  have hb9 : ∀ r ∈ rootR :: t, w9.heap[A r.p]? = W.heap[A r.p]? := fun r hr => hgrow.block _ (h.lt hr) (fun e => h.apart_row hr hx e.symm)
  have hvx : v'.ownBlock ≠ some (A x.p) := by rw [hwh]; exact h.apart_row hx hx
  have hkid : ∀ r ∈ rootR :: withoutL t q true, kids (withoutL t q true) r.p = if r.p = x.p then kidsBut t x.p q else kids t r.p := fun r hr => by
    obtain ⟨_, h2, h3⟩ := hmem r hr
    rw [kids_without hpath hq ⟨h2, h3⟩]
    by_cases he : r.p = x.p
    · rw [if_pos he, he, hxp]
      unfold kidsBut
      simp
    · rw [if_neg he]
      have : ¬ parO q = r.p := fun e => he (by rw [hxp, e])
      simp [this]
  refine ⟨fun r hr => ?_, fun r hr => h.own r (hmem r hr).1, fun r hr => ?_, fun r hr y hy hne g hg => ?_⟩
  · have hrt := (hmem r hr).1
    by_cases he : r.p = x.p
    · obtain rfl := dom_once hs hpath hrt hx he
      rw [if_pos rfl, setCell_block ((hb9 r hrt).trans (h.block r hrt)) 5 v']
      rfl
    · rw [if_neg he, Below.heap_setCell _ _ _ _ (fun e => he (h.inj hrt hx e)), hb9 r hrt]
      exact h.block r hrt
  · have hrt := (hmem r hr).1
    rw [hkid r hr]
    by_cases he : r.p = x.p
    · rw [if_pos he, if_pos he]
      exact ownsRow_setCell_other hown hvx _
    · rw [if_neg he, if_neg he]
      have hk := (h.row r hrt).kept hgrow (by
        cases hc : (S r.p).ownBlock with
        | none => exact .inl rfl
        | some g => exact .inr fun e => h.apart r hrt x hx he g hc e.symm)
      exact ownsRow_setCell_other hk (h.apart_row hx hrt) _
  · have hrt := (hmem r hr).1
    have hyt := (hmem y hy).1
    by_cases her : r.p = x.p
    · have hey : y.p ≠ x.p := fun e => hne (her.trans e.symm)
      rw [if_pos her, hwh] at hg
      rw [if_neg hey]
      exact h.apart x hx y hyt (fun e => hey e.symm) g hg
    · rw [if_neg her] at hg
      by_cases hey : y.p = x.p
      · rw [if_pos hey, hwh]
        exact h.apart r hrt x hx her g hg
      · rw [if_neg hey]
        exact h.apart r hrt y hyt hne g hg
end
end Go.Proofs.YtciflchaepchiabGreatDoor.Recs

/- A tree in memory: remove, of the program. -/
namespace Go.Proofs.YtciflchaepchiabGreatDoor.Recs
set_option maxRecDepth 100000
open Go.RowKit Paths

theorem str_eq_dec (a b : ByteArray) : (a.toList == b.toList) = decide (a = b) := by
  by_cases h : a = b
  · subst h; simp
  · rw [decide_eq_false h, Bool.eq_false_iff]
    exact fun e => h (str_eq_of e)
end Go.Proofs.YtciflchaepchiabGreatDoor.Recs

/- Trees: RemoveNode, of the program and of its model. Conditions (of the program's): the table of kinds, the two sentinels. -/
namespace Go.Proofs.YtciflchaepchiabGreatDoor.Recs
set_option maxRecDepth 100000
open Go.RowKit Paths Errs

theorem without_step {l : List R} {k : Nat} (hk : k < l.length) (q : ByteArray) (s : Bool) : withoutL (l.take (k + 1)) q s = if (!isUp q l[k].p && !(s && decide (l[k].p = q))) = true then withoutL (l.take k) q s ++ [l[k]] else withoutL (l.take k) q s := by
  unfold withoutL
  rw [List.take_add_one, List.getElem?_eq_getElem hk, List.filter_append]
  simp only [Option.toList]
  cases hb : (!isUp q l[k].p && !(s && decide (l[k].p = q))) with
  | true =>
    rw [if_pos rfl, List.filter_cons_of_pos (p := fun x : R => !isUp q x.p && !(s && decide (x.p = q))) hb]
    rfl
  | false =>
    rw [if_neg (by decide), List.filter_cons_of_neg (p := fun x : R => !isUp q x.p && !(s && decide (x.p = q))) (by rw [hb]; decide)]
    simp
theorem without_len (l : List R) (q : ByteArray) (s : Bool) : (withoutL l q s).length ≤ l.length := List.length_filter_le _ _

set_option maxHeartbeats 3200000 in
theorem l04Without_any (v : Value) (l : List R) (q : ByteArray) (s : Bool) (w : World) (h : NodSl w v l) (hl : l.length ≤ 1000) (ht : ∀ r ∈ l, pathB r.p.data.toList = true) (hq : pathB q.data.toList = true) :
    Calls Tryz.prog 165 #[v, .string q, .bool s] w fun e w' => ∃ x, e = .returned x ∧ Below w.heap.size w w' ∧ RowN w' w.heap.size x (withoutL l q s).length (withoutL l q s) ∧ x ≠ .slice none 0 0 := by
  obtain ⟨i0, hi, hI0, hI1, hI2⟩ := info_parts nodInfo
  obtain ⟨ho, sA, cap, rfl, hcap, h⟩ := h
  have H := Lib.hid h
  have HT := Lib.hid ht
  have HO := Lib.hid ho
  have hqs : q.size ≤ 35 := by rw [Lib.size_eq]; exact pathB_len hq
  have hqp : 0 < q.size := by rw [Lib.size_eq]; exact List.length_pos_iff.2 (pathB_ne hq)
  have hb0 : Below w.heap.size w (w.alloc (.cells #[] 84)) := (Below.refl _ _).alloc (Nat.le_refl _) _
  have hown0 : (w.alloc (.cells #[] 84)).ownsRow w.heap.size 84 4 (.slice (some ⟨w.heap.size, 0, none⟩) 0 0) 0 [] := World.ownsRow_lit w #[] 0 (Nat.le_refl _) (Nat.zero_le _) rfl
  clear h ht ho
  go_enter Tryz.func165, Tryz.ntmps165
  go_wp2
  go_loopw [7, 8] (fun f i wr => ∃ (k : Nat) (M : List R), k ≤ l.length ∧ i = .int .i64 k ∧ Hid (M = withoutL (l.take k) q s) ∧ RowN wr w.heap.size f M.length M ∧ Hid (f ≠ .slice none 0 0) ∧ Below w.heap.size w wr) (fun _ i _ => l.length - (intOf i).toNat)
  case atStart => exact ⟨0, [], by omega, rfl, rfl, ⟨rfl, hown0, fun r hr => by cases hr⟩, (fun e => by cases e), hb0⟩
  case round =>
    obtain ⟨k, M, hk, rfl, HM, hrow, HNN, hbw⟩ := hrel
    by_cases hlt : k < l.length
    · obtain ⟨b, off, rfl, hb, hcell⟩ := H.out (by omega)
      obtain ⟨c0, c1, c2, c3⟩ := (hcell k l[k] (by simp [hlt])).below hbw hb
      clear hcell
      have hi1 : (k : Int) < (l.length : Int) := by omega
      have hi0 : (0 : Int) ≤ (k : Int) := by omega
      have hp := HT.out _ (List.getElem_mem hlt)
      have hko := HO.out _ (List.getElem_mem hlt)
      have hs : l[k].p.size ≤ 35 := by rw [Lib.size_eq]; exact pathB_len hp
      have HBL := l01Below_two l[k].p q wr hqp (by omega) (by omega)
      rw [← isUp_below hp] at HBL
      have HST := Lib.hid (without_step hlt q s)
      have hMl : M.length ≤ 1000 := by
        rw [HM.out]
        exact Nat.le_trans (without_len _ _ _) (by rw [List.length_take]; omega)
      obtain ⟨fA, fcap, rfl⟩ := own_form hrow.2.1
      have hr3 : (wr.alloc (.cells #[.int .i64 l[k].k, .string l[k].p, .string l[k].b, .int .i64 l[k].m] 84)).ownsRow w.heap.size 84 4 (.slice fA M.length fcap) M.length (flatN M) := hrow.2.1.alloc _
      have hnews := nodR_cells_new wr l[k] 84
      have hone := nodR_one l[k]
      have hbz : w.heap.size ≤ (wr.alloc (.cells #[.int .i64 l[k].k, .string l[k].p, .string l[k].b, .int .i64 l[k].m] 84)).heap.size := (hbw.alloc hbw.size _).size
      have HROW := Lib.hid hrow
      cases hu : isUp q l[k].p with
      | true =>
        have HN : Hid (M = withoutL (l.take (k + 1)) q s) := by show _ = _; rw [HST.out, hu, if_neg (by simp), ← HM.out]
        rw [hu] at HBL
        go_wp2_with fail
        refine HBL.mono ?_
        rintro e w2 ⟨rfl, rfl⟩
        go_wp2_with fail
        exact ⟨⟨k + 1, M, by omega, by go_num, HN, HROW.out, HNN, hbw⟩, by simp [intOf]; omega⟩
      | false =>
        rw [hu] at HBL
        cases s with
        | false =>
          have HN : Hid (M ++ [l[k]] = withoutL (l.take (k + 1)) q false) := by show _ = _; rw [HST.out, hu, if_pos (by simp), ← HM.out]
          clear hrow
          go_wp2_with fail
          refine HBL.mono ?_
          rintro e w2 ⟨rfl, rfl⟩
          go_wp2_with (first
            | (at_builtin; refine wpList_append_own _ rfl _ _ 30 rfl w.heap.size 84 i0 (.agg #[.int .i64 0, .string ByteArray.empty, .string ByteArray.empty, .int .i64 0]) 4 48 Tryz.underlying30 hi hI0 hI1 hI2 rfl (by decide) _ _ _ rfl hr3 ⟨wr.heap.size, 0, none⟩ 1 1 (R.ns l[k]) rfl rfl hnews hone (by unfold maxLen; omega) (by omega) hbz ?_; intro v' w9 hown' hgrow9 hnil9; skip))
          exact ⟨⟨k + 1, M ++ [l[k]], by omega, by go_num, HN, rowN_snoc hown' HROW.out.2.2 hko, (fun e => by have := (hnil9.1 e).2; omega), (hbw.alloc hbw.size _).grown hgrow9 hbz (fun j hj => (HROW.out.2.1.lt j hj).1)⟩, by simp [intOf]; omega⟩
        | true =>
          by_cases he : l[k].p = q
          · have HN : Hid (M = withoutL (l.take (k + 1)) q true) := by show _ = _; rw [HST.out, hu, if_neg (by simp [he]), ← HM.out]
            have hd : (l[k].p.toList != q.toList) = false := by rw [he]; simp
            have hd2 : (l[k].p.toList == q.toList) = true := by rw [he]; simp
            clear he
            go_wp2_with fail
            refine HBL.mono ?_
            rintro e w2 ⟨rfl, rfl⟩
            go_wp2_with fail
            exact ⟨⟨k + 1, M, by omega, by go_num, HN, HROW.out, HNN, hbw⟩, by simp [intOf]; omega⟩
          · have HN : Hid (M ++ [l[k]] = withoutL (l.take (k + 1)) q true) := by show _ = _; rw [HST.out, hu, if_pos (by simp [he]), ← HM.out]
            have hd2 : (l[k].p.toList == q.toList) = false := by rw [str_eq_dec, decide_eq_false he]
            have hd : (l[k].p.toList != q.toList) = true := by rw [bne, hd2]; rfl
            clear he hrow
            go_wp2_with fail
            refine HBL.mono ?_
            rintro e w2 ⟨rfl, rfl⟩
            go_wp2_with (first
              | (at_builtin; refine wpList_append_own _ rfl _ _ 30 rfl w.heap.size 84 i0 (.agg #[.int .i64 0, .string ByteArray.empty, .string ByteArray.empty, .int .i64 0]) 4 48 Tryz.underlying30 hi hI0 hI1 hI2 rfl (by decide) _ _ _ rfl hr3 ⟨wr.heap.size, 0, none⟩ 1 1 (R.ns l[k]) rfl rfl hnews hone (by unfold maxLen; omega) (by omega) hbz ?_; intro v' w9 hown' hgrow9 hnil9; skip))
            exact ⟨⟨k + 1, M ++ [l[k]], by omega, by go_num, HN, rowN_snoc hown' HROW.out.2.2 hko, (fun e => by have := (hnil9.1 e).2; omega), (hbw.alloc hbw.size _).grown hgrow9 hbz (fun j hj => (HROW.out.2.1.lt j hj).1)⟩, by simp [intOf]; omega⟩
    · have HF : Hid (M = withoutL l q s) := by show _ = _; rw [HM.out, List.take_of_length_le (by omega)]
      have HROW := Lib.hid hrow
      obtain ⟨fA, fcap, rfl⟩ := own_form hrow.2.1
      clear hrow
      go_wp2_with fail
      go_ret
      exact ⟨_, rfl, hbw, by rw [← HF.out]; exact HROW.out, HNN.out⟩

end Go.Proofs.YtciflchaepchiabGreatDoor.Recs
