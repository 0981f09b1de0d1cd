/- Parts of several texts of mine in one file (each begins with its own remark). -/
import Derived.Test.YtibekkfbpmloiabGreatDoorCA1
import Derived.Test.YtibekkfbpmloiabGreatDoorCA10
import Derived.Test.YtibekkfbpmloiabGreatDoorCA11
import Derived.Test.YtibekkfbpmloiabGreatDoorCA14
import Derived.Test.YtibekkfbpmloiabGreatDoorCA15
import Derived.Test.YtibekkfbpmloiabGreatDoorCA2
import Derived.Test.YtibekkfbpmloiabGreatDoorCA3
import Derived.Test.YtibekkfbpmloiabGreatDoorCA4
import Derived.Test.YtibekkfbpmloiabGreatDoorCA5
import Derived.Test.YtibekkfbpmloiabGreatDoorCA6
import Derived.Test.YtibekkfbpmloiabGreatDoorCA7
import Derived.Test.YtibekkfbpmloiabGreatDoorCA8
import Derived.Test.YtibekkfbpmloiabGreatDoorCA9
import Derived.Test.YtibekkfbpmloiabGreatDoorChecked
import Derived.Test.YtibekkfbpmloiabGreatDoorShelf
import Derived.Test.YtibekkfbpmloiabGreatDoorProg
import Derived.Test.YtibekkfbpmloiabGreatDoorRows
import Derived.Deep.RegionWith
import Derived.StillTailTactics
import Derived.Laws.OwnMore
import Derived.BigQuiet
import Derived.BigRegion
import Derived.Deep.QuietTactic
import Derived.Deep.RegionHeld3
import Derived.Deep.Slices
import Derived.OpenShut
import Derived.ShutString
import Derived.ChangeArms
import Derived.WideShapes
import Derived.Lib.LaidTab
import Derived.Deep.Draws
import Derived.Deep.LoopGhost
import Derived.WalkKit
import Derived.WalkSpells
import Derived.WalkSmall
import Derived.Lib.OthersKept
import Derived.Lib.Hide
import Derived.Lib.Strings
import Derived.Lib.Join
import Derived.Laws.BytesArg
import Derived.Stop.LaidErr
import Derived.WalkLawsBesides
import Derived.LaidEql
import Derived.Stop.Asserts
import Derived.Below
import Derived.Stop.LaidTwo
import Derived.OneCell
import Derived.Lib.SliceRun
import Derived.Lib.Overlaps
import Derived.Lib.AppendZerosOnto
import Derived.Laws.NewBlocks
import Derived.Laws.IdiomCopy
import Derived.Deep.RegionLaw
import Derived.ChangeVars
import Derived.Deep.DeepHandedRow
import Derived.Deep.AppendLies
import Derived.Laws.EntriesVeiled
import Derived.Deep.Cut
import Derived.Deep.CutRange
import Derived.Deep.CutBlock
import Derived.Laws.IdiomRangeMap
import Derived.Maps.RangeWalk
import Derived.Maps.Ext
import Derived.Lib.SlMapFilter
/- Trees: RemoveNode, of the program and of its model. Conditions (of the program's): the table of kinds, the two sentinels. -/
namespace Go.Proofs.YtibekkfbpmloiabGreatDoor.Recs
set_option maxRecDepth 100000
open Go.RowKit Paths Errs

theorem without_step {l : List R} {k : Nat} (hk : k < l.length) (q : ByteArray) (s : Bool) : withoutL (l.take (k + 1)) q s = if (!isUp q l[k].p && !(s && decide (l[k].p = q))) = true then withoutL (l.take k) q s ++ [l[k]] else withoutL (l.take k) q s := by
  unfold withoutL
  rw [List.take_add_one, List.getElem?_eq_getElem hk, List.filter_append]
  simp only [Option.toList]
  cases hb : (!isUp q l[k].p && !(s && decide (l[k].p = q))) with
  | true =>
    rw [if_pos rfl, List.filter_cons_of_pos (p := fun x : R => !isUp q x.p && !(s && decide (x.p = q))) hb]
    rfl
  | false =>
    rw [if_neg (by decide), List.filter_cons_of_neg (p := fun x : R => !isUp q x.p && !(s && decide (x.p = q))) (by rw [hb]; decide)]
    simp
theorem without_len (l : List R) (q : ByteArray) (s : Bool) : (withoutL l q s).length ≤ l.length := List.length_filter_le _ _

set_option maxHeartbeats 3200000 in
theorem l04Without_any (v : Value) (l : List R) (q : ByteArray) (s : Bool) (w : World) (h : NodSl w v l) (hl : l.length ≤ 1000) (ht : ∀ r ∈ l, pathB r.p.data.toList = true) (hq : pathB q.data.toList = true) :
    Calls Tryz.prog 182 #[v, .string q, .bool s] w fun e w' => ∃ x, e = .returned x ∧ Below w.heap.size w w' ∧ RowN w' w.heap.size x (withoutL l q s).length (withoutL l q s) ∧ x ≠ .slice none 0 0 := by
  obtain ⟨i0, hi, hI0, hI1, hI2⟩ := info_parts nodInfo
  obtain ⟨ho, sA, cap, rfl, hcap, h⟩ := h
  have H := Lib.hid h
  have HT := Lib.hid ht
  have HO := Lib.hid ho
  have hqs : q.size ≤ 35 := by rw [Lib.size_eq]; exact pathB_len hq
  have hqp : 0 < q.size := by rw [Lib.size_eq]; exact List.length_pos_iff.2 (pathB_ne hq)
  have hb0 : Below w.heap.size w (w.alloc (.cells #[] 68)) := (Below.refl _ _).alloc (Nat.le_refl _) _
  have hown0 : (w.alloc (.cells #[] 68)).ownsRow w.heap.size 68 4 (.slice (some ⟨w.heap.size, 0, none⟩) 0 0) 0 [] := World.ownsRow_lit w #[] 0 (Nat.le_refl _) (Nat.zero_le _) rfl
  clear h ht ho
  go_enter Tryz.func182, Tryz.ntmps182
  go_wp2
  go_loopw [7, 8] (fun f i wr => ∃ (k : Nat) (M : List R), k ≤ l.length ∧ i = .int .i64 k ∧ Hid (M = withoutL (l.take k) q s) ∧ RowN wr w.heap.size f M.length M ∧ Hid (f ≠ .slice none 0 0) ∧ Below w.heap.size w wr) (fun _ i _ => l.length - (intOf i).toNat)
  case atStart => exact ⟨0, [], by omega, rfl, rfl, ⟨rfl, hown0, fun r hr => by cases hr⟩, (fun e => by cases e), hb0⟩
  case round =>
    obtain ⟨k, M, hk, rfl, HM, hrow, HNN, hbw⟩ := hrel
    by_cases hlt : k < l.length
    · obtain ⟨b, off, rfl, hb, hcell⟩ := H.out (by omega)
      obtain ⟨c0, c1, c2, c3⟩ := (hcell k l[k] (by simp [hlt])).below hbw hb
      clear hcell
      have hi1 : (k : Int) < (l.length : Int) := by omega
      have hi0 : (0 : Int) ≤ (k : Int) := by omega
      have hp := HT.out _ (List.getElem_mem hlt)
      have hko := HO.out _ (List.getElem_mem hlt)
      have hs : l[k].p.size ≤ 35 := by rw [Lib.size_eq]; exact pathB_len hp
      have HBL := l01Below_two l[k].p q wr hqp (by omega) (by omega)
      rw [← isUp_below hp] at HBL
      have HST := Lib.hid (without_step hlt q s)
      have hMl : M.length ≤ 1000 := by
        rw [HM.out]
        exact Nat.le_trans (without_len _ _ _) (by rw [List.length_take]; omega)
      obtain ⟨fA, fcap, rfl⟩ := own_form hrow.2.1
      have hr3 : (wr.alloc (.cells #[.int .i64 l[k].k, .string l[k].p, .string l[k].b, .int .i64 l[k].m] 68)).ownsRow w.heap.size 68 4 (.slice fA M.length fcap) M.length (flatN M) := hrow.2.1.alloc _
      have hnews := nodR_cells_new wr l[k] 68
      have hone := nodR_one l[k]
      have hbz : w.heap.size ≤ (wr.alloc (.cells #[.int .i64 l[k].k, .string l[k].p, .string l[k].b, .int .i64 l[k].m] 68)).heap.size := (hbw.alloc hbw.size _).size
      have HROW := Lib.hid hrow
      cases hu : isUp q l[k].p with
      | true =>
        have HN : Hid (M = withoutL (l.take (k + 1)) q s) := by show _ = _; rw [HST.out, hu, if_neg (by simp), ← HM.out]
        rw [hu] at HBL
        go_wp2_with fail
        refine HBL.mono ?_
        rintro e w2 ⟨rfl, rfl⟩
        go_wp2_with fail
        exact ⟨⟨k + 1, M, by omega, by go_num, HN, HROW.out, HNN, hbw⟩, by simp [intOf]; omega⟩
      | false =>
        rw [hu] at HBL
        cases s with
        | false =>
          have HN : Hid (M ++ [l[k]] = withoutL (l.take (k + 1)) q false) := by show _ = _; rw [HST.out, hu, if_pos (by simp), ← HM.out]
          clear hrow
          go_wp2_with fail
          refine HBL.mono ?_
          rintro e w2 ⟨rfl, rfl⟩
          go_wp2_with (first
            | (at_builtin; refine wpList_append_own _ rfl _ _ 23 rfl w.heap.size 68 i0 (.agg #[.int .i64 0, .string ByteArray.empty, .string ByteArray.empty, .int .i64 0]) 4 48 Tryz.underlying23 hi hI0 hI1 hI2 rfl (by decide) _ _ _ rfl hr3 ⟨wr.heap.size, 0, none⟩ 1 1 (R.ns l[k]) rfl rfl hnews hone (by unfold maxLen; omega) (by omega) hbz ?_; intro v' w9 hown' hgrow9 hnil9; skip))
          exact ⟨⟨k + 1, M ++ [l[k]], by omega, by go_num, HN, rowN_snoc hown' HROW.out.2.2 hko, (fun e => by have := (hnil9.1 e).2; omega), (hbw.alloc hbw.size _).grown hgrow9 hbz (fun j hj => (HROW.out.2.1.lt j hj).1)⟩, by simp [intOf]; omega⟩
        | true =>
          by_cases he : l[k].p = q
          · have HN : Hid (M = withoutL (l.take (k + 1)) q true) := by show _ = _; rw [HST.out, hu, if_neg (by simp [he]), ← HM.out]
            have hd : (l[k].p.toList != q.toList) = false := by rw [he]; simp
            have hd2 : (l[k].p.toList == q.toList) = true := by rw [he]; simp
            clear he
            go_wp2_with fail
            refine HBL.mono ?_
            rintro e w2 ⟨rfl, rfl⟩
            go_wp2_with fail
            exact ⟨⟨k + 1, M, by omega, by go_num, HN, HROW.out, HNN, hbw⟩, by simp [intOf]; omega⟩
          · have HN : Hid (M ++ [l[k]] = withoutL (l.take (k + 1)) q true) := by show _ = _; rw [HST.out, hu, if_pos (by simp [he]), ← HM.out]
            have hd2 : (l[k].p.toList == q.toList) = false := by rw [str_eq_dec, decide_eq_false he]
            have hd : (l[k].p.toList != q.toList) = true := by rw [bne, hd2]; rfl
            clear he hrow
            go_wp2_with fail
            refine HBL.mono ?_
            rintro e w2 ⟨rfl, rfl⟩
            go_wp2_with (first
              | (at_builtin; refine wpList_append_own _ rfl _ _ 23 rfl w.heap.size 68 i0 (.agg #[.int .i64 0, .string ByteArray.empty, .string ByteArray.empty, .int .i64 0]) 4 48 Tryz.underlying23 hi hI0 hI1 hI2 rfl (by decide) _ _ _ rfl hr3 ⟨wr.heap.size, 0, none⟩ 1 1 (R.ns l[k]) rfl rfl hnews hone (by unfold maxLen; omega) (by omega) hbz ?_; intro v' w9 hown' hgrow9 hnil9; skip))
            exact ⟨⟨k + 1, M ++ [l[k]], by omega, by go_num, HN, rowN_snoc hown' HROW.out.2.2 hko, (fun e => by have := (hnil9.1 e).2; omega), (hbw.alloc hbw.size _).grown hgrow9 hbz (fun j hj => (HROW.out.2.1.lt j hj).1)⟩, by simp [intOf]; omega⟩
    · have HF : Hid (M = withoutL l q s) := by show _ = _; rw [HM.out, List.take_of_length_le (by omega)]
      have HROW := Lib.hid hrow
      obtain ⟨fA, fcap, rfl⟩ := own_form hrow.2.1
      clear hrow
      go_wp2_with fail
      go_ret
      exact ⟨_, rfl, hbw, by rw [← HF.out]; exact HROW.out, HNN.out⟩

end Go.Proofs.YtibekkfbpmloiabGreatDoor.Recs

/- The combination of two layers, plain: what it holds; it is a layer but for its length; it has the same effect on every tree as applying one after the other. -/
namespace Go.Proofs.YtibekkfbpmloiabGreatDoor.Recs
open Go.RowKit Paths

/-- The upper record, over the lower one of its path. -/
def overR (x y : R) : R := if y.k = 3 ∧ stops x = true then { y with o := true } else y
/-- Two sorted lists in one: of the lower one what the upper one (u) does not cut off. -/
def twoL (u : List R) : List R → List R → List R
  | [], b => b
  | x :: a, [] => if cutsL u x.p then twoL u a [] else x :: twoL u a []
  | x :: a, y :: b =>
    if lessR x y then (if cutsL u x.p then twoL u a (y :: b) else x :: twoL u a (y :: b))
    else if lessR y x then y :: twoL u (x :: a) b
    else overR x y :: twoL u a b
termination_by a b => a.length + b.length
theorem recAt_cons_ne {x : R} {a : List R} {q : ByteArray} (h : x.p ≠ q) : recAt (x :: a) q = recAt a q := by
  unfold recAt
  rw [List.find?_cons_of_neg (by simpa using h)]
theorem recAt_cons_eq {x : R} {a : List R} {q : ByteArray} (h : x.p = q) : recAt (x :: a) q = some x := by
  unfold recAt
  rw [List.find?_cons_of_pos (by simpa using h)]
theorem recAt_less {a : List R} {y : R} (h : ∀ x ∈ a, lessR y x = true) : recAt a y.p = none := by
  cases hr : recAt a y.p with
  | none => rfl
  | some x =>
    obtain ⟨h1, h2⟩ := recAt_mem hr
    exact absurd h2.symm (less_ne (h x h1))

end Go.Proofs.YtibekkfbpmloiabGreatDoor.Recs

/- The combination of two layers, plain: its effect on every tree is that of applying one after the other. -/
namespace Go.Proofs.YtibekkfbpmloiabGreatDoor.Recs
open Go.RowKit Paths

def two (a b : List R) : List R := twoL b a b
section
variable {a b : List R} (ha : IsLayer a) (hb : IsLayer b)
include ha hb
end
end Go.Proofs.YtibekkfbpmloiabGreatDoor.Recs

/- The canonical form is told by the effect: two canonical layers that have the same effect on every tree are one; so combining is associative. -/
namespace Go.Proofs.YtibekkfbpmloiabGreatDoor.Recs
open Go.RowKit Paths

/-- A canonical layer, of whatever length below a great bound. -/
structure Canon (l : List R) : Prop where
  layer : IsLayer l
  canon : canonL l = l
  fine : ∀ x ∈ l, x.fault = 0

section
variable {a b : List R} (ha : Canon a) (hb : Canon b) (hlen : a.length + b.length < 4096) (he : ∀ t, IsTree t → applyL a t = applyL b t)
include ha hb he
include hlen
end
end Go.Proofs.YtibekkfbpmloiabGreatDoor.Recs

/- Combining layers, plain: the combination is canonical; combining is associative; the combination of a stack has the effect of applying its layers in order, and no other canonical layer has it. -/
namespace Go.Proofs.YtibekkfbpmloiabGreatDoor.Recs
open Go.RowKit Paths

/-- A layer of valid records. -/
structure Fine (l : List R) : Prop where
  layer : IsLayer l
  fine : ∀ x ∈ l, x.fault = 0
theorem fine_nil : Fine [] := ⟨⟨List.Pairwise.nil, (fun _ h => by cases h), (fun _ h => by cases h)⟩, (fun _ h => by cases h)⟩
theorem fine_ok {l : List R} (h : Fine l) (hl : l.length ≤ 16) : layerOK l = true := layerOK_of hl h.fine h.layer.sorted h.layer.housed

def applyAllL (s : List (List R)) (t : List R) : List R := s.foldl (fun x l => applyL l x) t
end Go.Proofs.YtibekkfbpmloiabGreatDoor.Recs

/- Stacks: slices of slices of records: what the memory holds; one that came in; the laws' own size, copy and comparison of them. -/
namespace Go.Proofs.YtibekkfbpmloiabGreatDoor.Recs
set_option maxRecDepth 100000
open Go.RowKit Paths Go.WideShapes Go.ChangeShapes

/-- A slice of slices that reads as the lists LL. -/
def StkSl (w : World) (v : Value) (LL : List (List R)) : Prop :=
  ∃ A cap, v = .slice A LL.length cap ∧ LL.length ≤ cap ∧ (0 < LL.length → ∃ b off, A = some ⟨b, off, none⟩ ∧ b < w.heap.size ∧ ∀ i l, LL[i]? = some l → ∃ u, w.cell? ⟨b, off + i, none⟩ = some u ∧ RecSl w u l)
theorem StkSl.below {w w' : World} {v : Value} {LL : List (List R)} (h : StkSl w v LL) (hb : Below w.heap.size w w') : StkSl w' v LL := by
  obtain ⟨A, cap, rfl, hc, h⟩ := h
  refine ⟨A, cap, rfl, hc, fun hn => ?_⟩
  obtain ⟨b, off, rfl, hlt, hcell⟩ := h hn
  refine ⟨b, off, rfl, Nat.lt_of_lt_of_le hlt hb.size, fun i l hi => ?_⟩
  obtain ⟨u, h1, h2⟩ := hcell i l hi
  exact ⟨u, (hb.cell (p := ⟨b, off + i, none⟩) hlt).trans h1, h2.below hb⟩

section
variable {H : Type} {enc : TypeId × Value → H} {w : World} {base : Nat} {spare : Nat → Bool} {held : Bool}
end

end Go.Proofs.YtibekkfbpmloiabGreatDoor.Recs

/- Stacks: a copy in memory of its own; StackOK of the program and of its model. Conditions (of the program's): the table of kinds, the two sentinels. -/
namespace Go.Proofs.YtibekkfbpmloiabGreatDoor.Recs
set_option maxRecDepth 100000
open Go.RowKit Paths Errs

/-- The first j slices of a row of slices hold the lists, each in a row of its own, apart from the others. -/
def StkUpto (w : World) (base g : Nat) (us : List Value) (LL : List (List R)) (j : Nat) : Prop :=
  (∀ i u l, i < j → us[i]? = some u → LL[i]? = some l → RowOf w base u l.length l ∧ u.ownBlock ≠ some g) ∧
  ∀ i k u u' c, i < j → k < j → us[i]? = some u → us[k]? = some u' → u.ownBlock = some c → u'.ownBlock = some c → i = k
/-- A slice of slices, all in memory of their own. -/
def StkRow (w : World) (base : Nat) (v : Value) (LL : List (List R)) : Prop :=
  ∃ g us, v = .slice (some ⟨g, 0, none⟩) LL.length LL.length ∧ us.length = LL.length ∧ w.ownsRow base 27 1 v LL.length us ∧ StkUpto w base g us LL LL.length
theorem StkRow.sl {w : World} {base : Nat} {v : Value} {LL : List (List R)} (h : StkRow w base v LL) : StkSl w v LL := by
  obtain ⟨g, us, rfl, hn, ho, h1, _⟩ := h
  refine ⟨_, _, rfl, Nat.le_refl _, fun hp => ⟨g, 0, rfl, (ho.lt g rfl).2, fun i l hi => ?_⟩⟩
  have hlt : i < LL.length := (List.getElem?_eq_some_iff.1 hi).1
  refine ⟨us[i]'(by omega), ?_, (h1 i _ l hlt (List.getElem?_eq_getElem (by omega)) hi).1.sl⟩
  have := ho.cellAt i (by omega)
  rw [List.getElem?_eq_getElem (by omega)] at this
  rw [Nat.zero_add]
  exact this
theorem StkUpto.below {w w' : World} {base g : Nat} {us : List Value} {LL : List (List R)} {j : Nat} (h : StkUpto w base g us LL j) (hb : Below w.heap.size w w') : StkUpto w' base g us LL j :=
  ⟨fun i u l hi hu hl => ⟨(h.1 i u l hi hu hl).1.below hb, (h.1 i u l hi hu hl).2⟩, h.2⟩
theorem StkRow.below {w w' : World} {base : Nat} {v : Value} {LL : List (List R)} (h : StkRow w base v LL) (hb : Below w.heap.size w w') : StkRow w' base v LL := by
  obtain ⟨g, us, rfl, hn, ho, hu⟩ := h
  exact ⟨g, us, rfl, hn, own_below ho hb, hu.below hb⟩
/-- One slice more. -/
theorem StkUpto.step {w w1 : World} {base g j n : Nat} {us : List Value} {LL : List (List R)} {x : Value} (h : StkUpto w base g us LL j) (hj : j < LL.length) (hu : us.length = LL.length) (hb1 : Below w.heap.size w w1) (hg : base ≤ g) (hgl : g < w.heap.size)
    (ho : w.ownsRow base 27 1 (.slice (some ⟨g, 0, none⟩) n n) n us) (hx : RowOf w1 w.heap.size x LL[j].length LL[j]) :
    StkUpto (w1.setCell ⟨g, j, none⟩ x) base g (us.set j x) LL (j + 1) ∧ (w1.setCell ⟨g, j, none⟩ x).ownsRow base 27 1 (.slice (some ⟨g, 0, none⟩) n n) n (us.set j x) ∧ w1.grownBy (w1.setCell ⟨g, j, none⟩ x) (some g) := by
  obtain ⟨ho1, hgr⟩ := (own_below ho hb1).stored j x
  have hxb : ∀ c, x.ownBlock = some c → w.heap.size ≤ c := fun c hc => (hx.2.lt c hc).1
  have hold : ∀ i u l, i < j → us[i]? = some u → LL[i]? = some l → ∀ c, u.ownBlock = some c → c < w.heap.size := fun i u l hi hui hl c hc => ((h.1 i u l hi hui hl).1.2.lt c hc).2
  refine ⟨⟨fun i u l hi hui hl => ?_, fun i k u u' c hi hk hui huk hc hc' => ?_⟩, ho1, hgr⟩
  · rw [List.getElem?_set] at hui
    by_cases hij : j = i
    · subst hij
      rw [if_pos rfl, if_pos (by omega)] at hui
      cases hui
      rw [List.getElem?_eq_getElem hj] at hl
      cases hl
      have hne : x.ownBlock ≠ some g := fun e => by have := hxb g e; omega
      exact ⟨⟨rfl, own_down (hx.2.kept hgr (.inr hne)) (by omega)⟩, hne⟩
    · rw [if_neg hij] at hui
      obtain ⟨h1, h2⟩ := h.1 i u l (by omega) hui hl
      exact ⟨⟨rfl, (h1.below hb1).2.kept hgr (.inr h2)⟩, h2⟩
  · rw [List.getElem?_set] at hui huk
    by_cases hij : j = i
    · by_cases hkj : j = k
      · omega
      · rw [if_pos hij, if_pos (by omega)] at hui
        rw [if_neg hkj] at huk
        cases hui
        have h1 := hxb c hc
        have h2 := hold k u' LL[k] (by omega) huk (List.getElem?_eq_getElem (by omega)) c hc'
        omega
    · rw [if_neg hij] at hui
      by_cases hkj : j = k
      · rw [if_pos hkj, if_pos (by omega)] at huk
        cases huk
        have h1 := hxb c hc'
        have h2 := hold i u LL[i] (by omega) hui (List.getElem?_eq_getElem (by omega)) c hc
        omega
      · rw [if_neg hkj] at huk
        exact h.2 i k u u' c (by omega) (by omega) hui huk hc hc'

end Go.Proofs.YtibekkfbpmloiabGreatDoor.Recs

/- Applying layers to trees, of the model: a record, a layer, a stack. -/
namespace Go.Proofs.YtibekkfbpmloiabGreatDoor.Recs
set_option maxRecDepth 100000
open Go.RowKit Paths

theorem do_white {t : List R} {r : R} (h : r.k = 4) : doR t r = withoutL t r.p true := if_pos h
theorem do_clears {t : List R} {r : R} (h : r.k ≠ 4) (hc : clears t r = true) : doR t r = putL (withoutL t r.p false) (nodeOf r) := by
  unfold doR
  rw [if_neg h, if_pos hc]
theorem do_keeps {t : List R} {r : R} (h : r.k ≠ 4) (hc : clears t r = false) : doR t r = putL t (nodeOf r) := by
  unfold doR
  rw [if_neg h, hc]
  rfl
theorem clears_stops {t : List R} {r : R} (h : stops r = true) : clears t r = true := by unfold clears; rw [h]; rfl
theorem clears_at {t : List R} {r x : R} (h : recAt t r.p = some x) (hk : x.k ≠ 3) : clears t r = true := by unfold clears; rw [h]; simp [hk]
theorem clears_no {t : List R} {r : R} (h : stops r = false) (h2 : ∀ x, recAt t r.p = some x → x.k = 3) : clears t r = false := by
  unfold clears
  rw [h]
  cases hr : recAt t r.p with
  | none => rfl
  | some x => simp [h2 x hr]
theorem without_le (t : List R) (q : ByteArray) (s : Bool) : (withoutL t q s).length ≤ t.length := List.length_filter_le _ _
theorem put_le (t : List R) (n : R) : (putL t n).length ≤ t.length + 1 := by
  unfold putL
  rw [List.length_append, List.length_cons]
  have h : ∀ l : List R, (l.filter fun x => lessR x n).length + (l.filter fun x => lessR n x).length ≤ l.length := by
    intro l
    induction l with
    | nil => simp
    | cons x l ih =>
      have hx : ¬ (lessR x n = true ∧ lessR n x = true) := fun ⟨h1, h2⟩ => by
        unfold lessR at h1 h2
        rw [lessP_asymm _ _ h1] at h2
        cases h2
      rw [List.filter_cons, List.filter_cons, List.length_cons]
      by_cases h1 : lessR x n = true
      · by_cases h2 : lessR n x = true
        · exact absurd ⟨h1, h2⟩ hx
        · rw [if_pos h1, if_neg h2, List.length_cons]; omega
      · by_cases h2 : lessR n x = true
        · rw [if_neg h1, if_pos h2, List.length_cons]; omega
        · rw [if_neg h1, if_neg h2]; omega
  have := h t
  omega
theorem do_le (t : List R) (r : R) : (doR t r).length ≤ t.length + 1 := by
  unfold doR
  split
  · exact Nat.le_succ_of_le (without_le _ _ _)
  · split
    · exact Nat.le_trans (put_le _ _) (Nat.succ_le_succ (without_le _ _ _))
    · exact put_le _ _
theorem do_path {t : List R} {r : R} (ht : ∀ x ∈ t, pathB x.p.data.toList = true) (hr : pathB r.p.data.toList = true) : ∀ x ∈ doR t r, pathB x.p.data.toList = true := by
  intro x hx
  rcases mem_do.1 hx with ⟨_, rfl⟩ | ⟨h1, _⟩
  · exact hr
  · exact ht x h1
theorem path_35 {r : R} (h : pathB r.p.data.toList = true) : r.p.size ≤ 35 := by rw [Lib.size_eq]; exact pathB_len h

set_option maxHeartbeats 4000000 in
theorem l05Do_any (v : Value) (t : List R) (r : R) (base : Nat) (w : World) (h : RowN w base v t.length t) (hv : v ≠ .slice none 0 0) (hs : Sorted t) (hp : ∀ x ∈ t, pathB x.p.data.toList = true) (hr : pathB r.p.data.toList = true) (hl : t.length ≤ 1000) :
    Calls Tryz.prog 128 #[v, r.val] w fun e w' => ∃ x, e = .returned x ∧ Below w.heap.size w w' ∧ RowN w' w.heap.size x (doR t r).length (doR t r) ∧ x ≠ .slice none 0 0 := by
  have hb0 : Below w.heap.size w (w.alloc (.cells #[.int .i64 r.k, .string r.p, .string r.b, .int .i64 r.m, .bool r.o] 53)) := (Below.refl _ _).alloc (Nat.le_refl _) _
  have bc := box_cells w r 53
  have hsl := (h.below hb0).sl
  have HAT := l04At_any v t r.p (w.alloc (.cells #[.int .i64 r.k, .string r.p, .string r.b, .int .i64 r.m, .bool r.o] 53)) hsl (by omega)
  have HW := fun s => l04Without_any v t r.p s (w.alloc (.cells #[.int .i64 r.k, .string r.p, .string r.b, .int .i64 r.m, .bool r.o] 53)) hsl hl hp hr
  have HPUT : ∀ (u : Value) (L : List R) (b : Nat) (W : World), RowN W b u L.length L → u ≠ .slice none 0 0 → Sorted L → (∀ x ∈ L, pathB x.p.data.toList = true) → L.length ≤ 1000 →
      Calls Tryz.prog 183 #[u, r.nod] W fun e w' => ∃ x, e = .returned x ∧ Below W.heap.size W w' ∧ RowN w' W.heap.size x (putL L (nodeOf r)).length (putL L (nodeOf r)) ∧ x ≠ .slice none 0 0 :=
    fun u L b W h1 h2 h3 h4 h5 => l04Put_any u L (nodeOf r) b W h1 h2 h3 (fun x hx => path_35 (h4 x hx)) (path_35 hr) rfl h5
  have HNO := fun W => l04Node_any r W
  have hcl : ∀ x, (recAt t r.p = some x → x.k ≠ 3 → clears t r = true) := fun x h1 h2 => clears_at h1 h2
  have HRA := Lib.hid (atL_recAt t r.p)
  have HH := Lib.hid (h.below hb0)
  have HV := Lib.hid hv
  have HS := Lib.hid hs
  have HPP := Lib.hid hp
  have HRR := Lib.hid hr
  obtain ⟨g, cap, rfl, hcap, hcm, hgb, hgl⟩ := notnil h hv
  have HCE : Hid (∀ i (hi : i < t.length), NodCells (w.alloc (.cells #[.int .i64 r.k, .string r.p, .string r.b, .int .i64 r.m, .bool r.o] 53)) g (i * 4) t[i]) := fun i hi => (h.below hb0).cells hi
  clear h hv hs hp hr hsl hcl
  obtain ⟨rk, rm, rp, rb, ro⟩ := r
  unfold R.val
  unfold R.nod at HPUT HNO
  unfold R.val at HNO
  dsimp only at *
  generalize hW0 : w.alloc (.cells #[.int .i64 rk, .string rp, .string rb, .int .i64 rm, .bool ro] 53) = W0 at *
  have HB0 := Lib.hid hb0
  have HW0 := Lib.hid hW0
  clear hb0
  by_cases h4 : rk = 4
  · have q4 : (rk == 4) = true := by simp [h4]
    have HD : Hid (doR t ⟨rk, rm, rp, rb, ro⟩ = withoutL t rp true) := do_white h4
    have HWT := HW true
    clear HW HPUT HNO h4
    obtain ⟨d0, d1, d2, d3, d4⟩ := bc
    go_enter Tryz.func128, Tryz.ntmps128
    go_wp2_with fail
    refine HAT.mono ?_
    rintro e w' ⟨rfl, rfl⟩
    go_wp2_with fail
    refine HWT.mono ?_
    rintro e w2 ⟨x, rfl, hb2, hrow2, hx2⟩
    have HR2 := Lib.hid hrow2
    have HX2 := Lib.hid hx2
    clear hrow2 hx2
    go_wp2_with fail
    go_ret
    refine ⟨x, rfl, HB0.out.trans (hb2.mono HB0.out.size), ?_, HX2.out⟩
    rw [HD.out]
    exact ⟨HR2.out.1, own_down HR2.out.2.1 HB0.out.size, HR2.out.2.2⟩
  have q4 : (rk == 4) = false := by simp [h4]
  have HN4 := Lib.hid h4
  clear h4
  by_cases h3 : rk = 3
  · have q3 : (rk != 3) = false := by simp [h3]
    cases ro with
    | true =>
      have HD : Hid (doR t ⟨rk, rm, rp, rb, true⟩ = putL (withoutL t rp false) (nodeOf ⟨rk, rm, rp, rb, true⟩)) := do_clears HN4.out (clears_stops (by unfold stops; simp))
      have HWF := HW false
      clear HW h3
      obtain ⟨d0, d1, d2, d3, d4⟩ := bc
      go_enter Tryz.func128, Tryz.ntmps128
      go_wp2_with fail
      refine HAT.mono ?_
      rintro e w' ⟨rfl, rfl⟩
      go_wp2_with fail
      refine HWF.mono ?_
      rintro e w2 ⟨x2, rfl, hb2, hrow2, hx2⟩
      have bc2 : RecCells w2 w.heap.size 0 ⟨rk, rm, rp, rb, true⟩ := RecCells.below ⟨d0, d1, d2, d3, d4⟩ hb2 (by rw [← HW0.out]; simp)
      clear d0 d1 d2 d3 d4
      obtain ⟨d0, d1, d2, d3, d4⟩ := bc2
      obtain ⟨g2, cap2, rfl, _, _, _, _⟩ := notnil hrow2 hx2
      have HR2 := Lib.hid hrow2
      have HX2 := Lib.hid hx2
      clear hrow2 hx2
      have hall2 := HB0.out.trans (hb2.mono HB0.out.size)
      go_wp2_with fail
      refine (HNO _).mono ?_
      rintro e w3 ⟨rfl, hb3⟩
      have hall := hall2.trans (hb3.mono hall2.size)
      have HPC := HPUT _ (withoutL t rp false) W0.heap.size w3 (HR2.out.below hb3) HX2.out (without_sorted HS.out _ _) (fun x hx => HPP.out x (mem_without.1 hx).1) (Nat.le_trans (without_le _ _ _) hl)
      go_wp2_with fail
      refine HPC.mono ?_
      rintro e w9 ⟨x, rfl, hb9, hrow9, hx9⟩
      have HR9 := Lib.hid hrow9
      have HX9 := Lib.hid hx9
      clear hrow9 hx9
      go_wp2_with fail
      go_ret
      refine ⟨x, rfl, hall.trans (hb9.mono hall.size), ?_, HX9.out⟩
      rw [HD.out]
      exact ⟨HR9.out.1, own_down HR9.out.2.1 hall.size, HR9.out.2.2⟩
    | false =>
      have HST : Hid (stops ⟨rk, rm, rp, rb, false⟩ = false) := (by show stops _ = false; unfold stops; simp [h3])
      clear h3
      rcases HRA.out with ⟨ha, hn⟩ | ⟨i, hi, ha, hn⟩
      · have HD : Hid (doR t ⟨rk, rm, rp, rb, false⟩ = putL t (nodeOf ⟨rk, rm, rp, rb, false⟩)) := do_keeps HN4.out (clears_no HST.out (fun x hx => by rw [hn] at hx; cases hx))
        rw [ha] at HAT
        clear ha hn HRA HW
        obtain ⟨d0, d1, d2, d3, d4⟩ := bc
        go_enter Tryz.func128, Tryz.ntmps128
        go_wp2_with fail
        refine HAT.mono ?_
        rintro e w' ⟨rfl, rfl⟩
        go_wp2_with fail
        refine (HNO _).mono ?_
        rintro e w3 ⟨rfl, hb3⟩
        have hall := HB0.out.trans (hb3.mono HB0.out.size)
        have HPC := HPUT _ t base w3 (HH.out.below hb3) HV.out HS.out HPP.out hl
        go_wp2_with fail
        refine HPC.mono ?_
        rintro e w9 ⟨x, rfl, hb9, hrow9, hx9⟩
        have HR9 := Lib.hid hrow9
        have HX9 := Lib.hid hx9
        clear hrow9 hx9
        go_wp2_with fail
        go_ret
        refine ⟨x, rfl, hall.trans (hb9.mono hall.size), ?_, HX9.out⟩
        rw [HD.out]
        exact ⟨HR9.out.1, own_down HR9.out.2.1 hall.size, HR9.out.2.2⟩
      · rw [ha] at HAT
        obtain ⟨n0, n1, n2, n3⟩ := HCE.out i hi
        have hi0 : (0 : Int) ≤ (i : Int) := by omega
        have hd0 : decide ((0 : Int) ≤ (i : Int)) = true := by simp
        have hi1 : (i : Int) < (t.length : Int) := by omega
        clear ha HRA
        by_cases hk : t[i].k = 3
        · have HD : Hid (doR t ⟨rk, rm, rp, rb, false⟩ = putL t (nodeOf ⟨rk, rm, rp, rb, false⟩)) := do_keeps HN4.out (clears_no HST.out (fun x hx => by rw [hn] at hx; cases hx; exact hk))
          have qk : (t[i].k != 3) = false := by simp [hk]
          clear hn hk HW
          obtain ⟨d0, d1, d2, d3, d4⟩ := bc
          go_enter Tryz.func128, Tryz.ntmps128
          go_wp2_with fail
          refine HAT.mono ?_
          rintro e w' ⟨rfl, rfl⟩
          go_wp2_with fail
          refine (HNO _).mono ?_
          rintro e w3 ⟨rfl, hb3⟩
          have hall := HB0.out.trans (hb3.mono HB0.out.size)
          have HPC := HPUT _ t base w3 (HH.out.below hb3) HV.out HS.out HPP.out hl
          go_wp2_with fail
          refine HPC.mono ?_
          rintro e w9 ⟨x, rfl, hb9, hrow9, hx9⟩
          have HR9 := Lib.hid hrow9
          have HX9 := Lib.hid hx9
          clear hrow9 hx9
          go_wp2_with fail
          go_ret
          refine ⟨x, rfl, hall.trans (hb9.mono hall.size), ?_, HX9.out⟩
          rw [HD.out]
          exact ⟨HR9.out.1, own_down HR9.out.2.1 hall.size, HR9.out.2.2⟩
        · have HD : Hid (doR t ⟨rk, rm, rp, rb, false⟩ = putL (withoutL t rp false) (nodeOf ⟨rk, rm, rp, rb, false⟩)) := do_clears HN4.out (clears_at hn hk)
          have qk : (t[i].k != 3) = true := by simp [hk]
          have HWF := HW false
          clear hn hk HW
          obtain ⟨d0, d1, d2, d3, d4⟩ := bc
          go_enter Tryz.func128, Tryz.ntmps128
          go_wp2_with fail
          refine HAT.mono ?_
          rintro e w' ⟨rfl, rfl⟩
          go_wp2_with fail
          refine HWF.mono ?_
          rintro e w2 ⟨x2, rfl, hb2, hrow2, hx2⟩
          have bc2 : RecCells w2 w.heap.size 0 ⟨rk, rm, rp, rb, false⟩ := RecCells.below ⟨d0, d1, d2, d3, d4⟩ hb2 (by rw [← HW0.out]; simp)
          clear d0 d1 d2 d3 d4
          obtain ⟨d0, d1, d2, d3, d4⟩ := bc2
          obtain ⟨g2, cap2, rfl, _, _, _, _⟩ := notnil hrow2 hx2
          have HR2 := Lib.hid hrow2
          have HX2 := Lib.hid hx2
          clear hrow2 hx2
          have hall2 := HB0.out.trans (hb2.mono HB0.out.size)
          go_wp2_with fail
          refine (HNO _).mono ?_
          rintro e w3 ⟨rfl, hb3⟩
          have hall := hall2.trans (hb3.mono hall2.size)
          have HPC := HPUT _ (withoutL t rp false) W0.heap.size w3 (HR2.out.below hb3) HX2.out (without_sorted HS.out _ _) (fun x hx => HPP.out x (mem_without.1 hx).1) (Nat.le_trans (without_le _ _ _) hl)
          go_wp2_with fail
          refine HPC.mono ?_
          rintro e w9 ⟨x, rfl, hb9, hrow9, hx9⟩
          have HR9 := Lib.hid hrow9
          have HX9 := Lib.hid hx9
          clear hrow9 hx9
          go_wp2_with fail
          go_ret
          refine ⟨x, rfl, hall.trans (hb9.mono hall.size), ?_, HX9.out⟩
          rw [HD.out]
          exact ⟨HR9.out.1, own_down HR9.out.2.1 hall.size, HR9.out.2.2⟩
  · have q3 : (rk != 3) = true := by simp [h3]
    have HD : Hid (doR t ⟨rk, rm, rp, rb, ro⟩ = putL (withoutL t rp false) (nodeOf ⟨rk, rm, rp, rb, ro⟩)) := do_clears HN4.out (clears_stops (by unfold stops; simp [h3]))
    have HWF := HW false
    clear HW h3
    obtain ⟨d0, d1, d2, d3, d4⟩ := bc
    go_enter Tryz.func128, Tryz.ntmps128
    go_wp2_with fail
    refine HAT.mono ?_
    rintro e w' ⟨rfl, rfl⟩
    go_wp2_with fail
    refine HWF.mono ?_
    rintro e w2 ⟨x2, rfl, hb2, hrow2, hx2⟩
    have bc2 : RecCells w2 w.heap.size 0 ⟨rk, rm, rp, rb, ro⟩ := RecCells.below ⟨d0, d1, d2, d3, d4⟩ hb2 (by rw [← HW0.out]; simp)
    clear d0 d1 d2 d3 d4
    obtain ⟨d0, d1, d2, d3, d4⟩ := bc2
    obtain ⟨g2, cap2, rfl, _, _, _, _⟩ := notnil hrow2 hx2
    have HR2 := Lib.hid hrow2
    have HX2 := Lib.hid hx2
    clear hrow2 hx2
    have hall2 := HB0.out.trans (hb2.mono HB0.out.size)
    go_wp2_with fail
    refine (HNO _).mono ?_
    rintro e w3 ⟨rfl, hb3⟩
    have hall := hall2.trans (hb3.mono hall2.size)
    have HPC := HPUT _ (withoutL t rp false) W0.heap.size w3 (HR2.out.below hb3) HX2.out (without_sorted HS.out _ _) (fun x hx => HPP.out x (mem_without.1 hx).1) (Nat.le_trans (without_le _ _ _) hl)
    go_wp2_with fail
    refine HPC.mono ?_
    rintro e w9 ⟨x, rfl, hb9, hrow9, hx9⟩
    have HR9 := Lib.hid hrow9
    have HX9 := Lib.hid hx9
    clear hrow9 hx9
    go_wp2_with fail
    go_ret
    refine ⟨x, rfl, hall.trans (hb9.mono hall.size), ?_, HX9.out⟩
    rw [HD.out]
    exact ⟨HR9.out.1, own_down HR9.out.2.1 hall.size, HR9.out.2.2⟩
end Go.Proofs.YtibekkfbpmloiabGreatDoor.Recs
