/- Parts of several texts of mine in one file (each begins with its own remark). -/
import Derived.Test.YtibekkfbpmloiabGreatDoorCA1
import Derived.Test.YtibekkfbpmloiabGreatDoorCA10
import Derived.Test.YtibekkfbpmloiabGreatDoorCA11
import Derived.Test.YtibekkfbpmloiabGreatDoorCA12
import Derived.Test.YtibekkfbpmloiabGreatDoorCA13
import Derived.Test.YtibekkfbpmloiabGreatDoorCA2
import Derived.Test.YtibekkfbpmloiabGreatDoorCA3
import Derived.Test.YtibekkfbpmloiabGreatDoorCA4
import Derived.Test.YtibekkfbpmloiabGreatDoorCA5
import Derived.Test.YtibekkfbpmloiabGreatDoorCA6
import Derived.Test.YtibekkfbpmloiabGreatDoorCA7
import Derived.Test.YtibekkfbpmloiabGreatDoorCA9
import Derived.Test.YtibekkfbpmloiabGreatDoorShelf2
import Derived.Test.YtibekkfbpmloiabGreatDoorChecked
import Derived.Test.YtibekkfbpmloiabGreatDoorShelf
import Derived.Test.YtibekkfbpmloiabGreatDoorRows
import Derived.Test.YtibekkfbpmloiabGreatDoorProg
import Derived.Sort.OwnSorted
import Derived.Deep.RegionHeld3
import Derived.RangeFuncNested
import Derived.RangeFuncBound
import Derived.RangeFuncCalls
import Derived.RangeFuncLeaves
import Derived.RangeFuncBox
import Derived.Shelf.Abstract
import Derived.Shelf.RegionOpen
import Derived.OwnWalkIn
import Derived.TacticsInMore
import Derived.LoopNIn
import Derived.LoopIn
import Derived.Maps.OwnIn
import Derived.Maps.AppendAt
import Derived.Sort.MapsRangeIn
import Derived.Sort.KeysCollected
import Derived.Laws.IdiomRangeMap
import Derived.StillTailTactics
import Derived.Deep.Slices
import Derived.OpenShut
import Derived.ShutString
import Derived.ChangeArms
import Derived.WideShapes
import Derived.Lib.LaidTab
import Derived.BigQuiet
import Derived.Deep.QuietTactic
import Derived.Deep.Draws
import Derived.Deep.LoopGhost
import Derived.WalkKit
import Derived.WalkSpells
import Derived.WalkSmall
import Derived.Lib.OthersKept
import Derived.Lib.Hide
import Derived.Lib.Strings
import Derived.Maps.RangeWalk
import Derived.Maps.Ext
import Derived.Lib.SlMapFilter
import Derived.Laws.OwnMore
import Derived.BigRegion
import Derived.Lib.Join
import Derived.Laws.BytesArg
import Derived.WalkLawsBesides
import Derived.Deep.RegionWith
import Derived.OneCell
import Derived.Lib.SliceRun
import Derived.Lib.Overlaps
import Derived.Lib.AppendZerosOnto
import Derived.Laws.NewBlocks
import Derived.Laws.IdiomCopy
import Derived.Deep.RegionLaw
import Derived.ChangeVars
import Derived.Deep.DeepHandedRow
import Derived.LaidEql
import Derived.Stop.Asserts
import Derived.Below
import Derived.Stop.LaidErr
import Derived.Stop.LaidTwo
import Derived.Deep.Cut
import Derived.Deep.CutRange
import Derived.Deep.CutBlock
import Derived.Sort.Grow
/- The program's map of paths: its nodes sorted, as a slice of its own. -/
namespace Go.Proofs.YtibekkfbpmloiabGreatDoor.Recs
set_option maxRecDepth 100000
open Go.RowKit Paths Go.Shelf Go.Sort

/-- A node whose path is one. -/
def PN : Type := { r : R // pathB r.p.data.toList = true }
instance inhPN : Inhabited PN := ⟨⟨⟨1, 0, ⟨#[97]⟩, ⟨#[]⟩, false⟩, by decide⟩⟩
def encN (x : PN) : List Value := x.1.ns
def cfN (x y : PN) : Int := cmpR x.1 y.1
theorem ltN (x y : PN) : ltOf cfN x y = lessR x.1 y.1 := by
  unfold ltOf cfN cmpR lessR
  rw [less_cmp, partsOf_yes x.2, partsOf_yes y.2]
theorem lessP_not (A B C : List (List UInt8)) (h1 : lessP A B = false) (h2 : lessP B C = false) : lessP A C = false := by
  cases hc : lessP A C with
  | false => rfl
  | true =>
    cases hb : lessP C B with
    | true => rw [lessP_trans _ _ _ hc hb] at h1; cases h1
    | false =>
      rw [lessP_total _ _ h2 hb] at h1
      rw [h1] at hc
      cases hc
theorem swoN : Go.Sort.SWO (ltOf cfN) where
  irrefl x := by rw [ltN]; exact lessP_irrefl _
  trans x y z h1 h2 := by rw [ltN] at *; exact lessP_trans _ _ _ h1 h2
  ntrans x y z h1 h2 := by rw [ltN] at *; exact lessP_not _ _ _ h1 h2
theorem cmpLaysN (blk off size : Nat) (w : World) : CmpLays Tryz.prog 197 #[] encN 4 cfN blk off size w := fun _ _ _ _ x y =>
  (treeCmp_any x.1 y.1 _ x.2 y.2).mono fun _ _ ⟨he, hb⟩ => ⟨he, hb.world⟩
theorem flatK_flatN (d : Array PN) : (flatK encN 4 d).toList = flatN (d.toList.map (·.1)) := by
  apply List.ext_getElem?
  intro t
  rw [flatN_get, List.getElem?_map]
  by_cases ht : t < d.size * 4
  · have hq : t / 4 < d.size := by omega
    have h1 : (flatK encN 4 d)[t]? = some ((flatK encN 4 d)[t]!) := by
      rw [getElem!_pos _ t (by simpa using ht)]
      exact Array.getElem?_eq_getElem _
    rw [Array.getElem?_toList, h1, get_flatK _ _ _ t ht, getElem!_pos d _ hq, Array.getElem?_toList, Array.getElem?_eq_getElem hq]
    show _ = (d[t / 4].1).ns[t % 4]?
    have h4 : t % 4 < (d[t / 4].1).ns.length := by show t % 4 < 4; omega
    rw [List.getElem?_eq_getElem h4]
    unfold encN
    rw [getElem!_pos (d[t / 4].1).ns (t % 4) h4]
  · rw [Array.getElem?_toList, Array.getElem?_eq_none (by simpa using ht), Array.getElem?_toList, Array.getElem?_eq_none (by omega)]
    rfl
theorem heap_put {w : World} {g m : Nat} {F cur : Array Value} {e : TypeId} {os : Array Obj} (hb : w.heap[g]? = some (.cells cur e (0, 0))) :
    (Go.Sort.grow (Go.Sort.putRow id (Go.Sort.ahead w m) g 0 F) os).heap[g]? = some (.cells (Go.Sort.putCells id 0 F cur) e (0, 0)) := by
  have hg : g < w.heap.size := (Array.getElem?_eq_some_iff.1 hb).1
  rw [Go.Sort.heap_grow_old _ _ (by simp [Go.Sort.putRow, Go.Sort.mapBlock, Go.Sort.ahead, hg])]
  simp [Go.Sort.putRow, Go.Sort.mapBlock, Go.Sort.ahead, Array.getElem?_modify, hb, Go.Sort.onCells]
theorem grown_put {w : World} {g m : Nat} {F : Array Value} {os : Array Obj} : w.grownBy (Go.Sort.grow (Go.Sort.putRow id (Go.Sort.ahead w m) g 0 F) os) (some g) := by
  refine ⟨rfl, rfl, rfl, by simp, fun k hk hne => ?_⟩
  rw [Go.Sort.heap_grow_old _ _ (by simpa using hk)]
  have : g ≠ k := fun e => hne (by rw [e])
  simp [Go.Sort.putRow, Go.Sort.mapBlock, Go.Sort.ahead, Array.getElem?_modify, this]
theorem take_put_cells (cur F : Array Value) (h : F.size ≤ cur.size) : (Go.Sort.putCells id 0 F cur).toList.take F.size = F.toList := by
  apply List.ext_getElem?
  intro j
  by_cases hj : j < F.size
  · rw [List.getElem?_take_of_lt hj, Array.getElem?_toList]
    simp [Go.Sort.putCells, hj, show j < cur.size by omega]
  · rw [List.getElem?_take_eq_none (by omega), List.getElem?_eq_none (by simpa using hj)]
def mkPN (xs : List R) (h : ∀ x ∈ xs, pathB x.p.data.toList = true) : Array PN := (xs.pmap (fun r hr => (⟨r, hr⟩ : PN)) h).toArray
theorem mkPN_val (xs : List R) (h : ∀ x ∈ xs, pathB x.p.data.toList = true) : (mkPN xs h).toList.map (·.1) = xs := by
  show (xs.pmap (fun r hr => (⟨r, hr⟩ : PN)) h).map (·.1) = xs
  rw [List.map_pmap]
  show xs.pmap (fun r _ => r) h = xs
  rw [List.pmap_eq_map, List.map_id']
theorem mkPN_size (xs : List R) (h : ∀ x ∈ xs, pathB x.p.data.toList = true) : (mkPN xs h).size = xs.length := by
  show (xs.pmap (fun r hr => (⟨r, hr⟩ : PN)) h).toArray.size = _
  rw [List.size_toArray, List.length_pmap]
/-- A sorted permutation of the nodes of a sorted list is that list. -/
theorem sorted_is {t xs : List R} {d' : Array PN} (ht : Sorted t) (hx : AllT t xs) (hp : (d'.toList.map (·.1)).Perm xs) (hs : Go.Sort.SortedIn (ltOf cfN) 0 d'.size d') : d'.toList.map (·.1) = t := by
  have hnd : (d'.toList.map (·.1)).Nodup := hp.nodup_iff.2 hx.1
  refine sorted_ext _ _ ?_ ht (fun x => (hp.mem_iff).trans (hx.2 x))
  unfold Sorted
  rw [List.pairwise_iff_getElem]
  intro i j hi hj hij
  have hi' : i < d'.size := by simpa using hi
  have hj' : j < d'.size := by simpa using hj
  have h1 := hs i j (Nat.zero_le _) hij hj'
  rw [ltN, getElem!_pos d' _ hj', getElem!_pos d' _ hi'] at h1
  have ei : (d'.toList.map (·.1))[i] = d'[i].1 := by simp
  have ej : (d'.toList.map (·.1))[j] = d'[j].1 := by simp
  rw [ei, ej]
  by_cases he : (d'[i].1).p = (d'[j].1).p
  · have m1 : d'[i].1 ∈ t := (hx.2 _).1 (hp.mem_iff.1 (ei ▸ List.getElem_mem hi))
    have m2 : d'[j].1 ∈ t := (hx.2 _).1 (hp.mem_iff.1 (ej ▸ List.getElem_mem hj))
    have h2 := sorted_mem_once ht m1 m2 he
    have h3 := List.pairwise_iff_getElem.1 hnd i j hi hj hij
    rw [ei, ej] at h3
    exact absurd h2 h3
  · rcases less_or he with h | h
    · exact h
    · rw [h1] at h; cases h

set_option maxHeartbeats 1000000 in
theorem sortN_any (g cap : Nat) (xs t : List R) (base : Nat) (w : World) (hrow : w.ownsRow base 68 4 (.slice (some ⟨g, 0, none⟩) xs.length cap) xs.length (flatN xs)) (hx : AllT t xs) (ht : Sorted t) (hp : ∀ x ∈ t, pathB x.p.data.toList = true) (hl : xs.length ≤ 100000) :
    Calls Tryz.prog 216 #[.slice (some ⟨g, 0, none⟩) xs.length cap, .func (.func 197) #[] #[]] w fun e w' =>
      e = .returned (.tuple #[]) ∧ w.grownBy w' (some g) ∧ xs.length = t.length ∧ w'.ownsRow base 68 4 (.slice (some ⟨g, 0, none⟩) xs.length cap) t.length (flatN t) := by
  have hpx : ∀ x ∈ xs, pathB x.p.data.toList = true := fun x hm => hp x ((hx.2 x).1 hm)
  have hd := mkPN_size xs hpx
  have hv := mkPN_val xs hpx
  have hF := flatK_flatN (mkPN xs hpx)
  rw [hv] at hF
  have eg : ∀ args w, (callFunc 197 args).run Tryz.prog w = .ok (.enter 197 args) w := enters_of Tryz.func197 (by kernel_rfl) rfl
  rcases hrow.2 with ⟨h0, _⟩ | ⟨g', cap', cur, hg, hbase, hb, hnc, hcm, hcs, htk⟩
  · cases h0
  cases hg
  have hblk : g < w.heap.size := (Array.getElem?_eq_some_iff.1 hb).1
  have hH : HoldsK encN 4 w g 0 (mkPN xs hpx) := by
    intro j hj
    rw [size_flatK, hd] at hj
    refine ⟨?_, ?_⟩
    · rw [Nat.zero_add, hrow.cellAt j hj, ← hF, Array.getElem?_toList, getElem!_pos _ j (by rw [size_flatK, hd]; exact hj), Array.getElem?_eq_getElem]
      rfl
    · simp [World.frozen?, hb]
  have hcon := AnyQ.slices_SortFunc Tryz.sortN 4 Tryz.isAgg68 Tryz.sizeOf68 encN (fun _ => rfl) (fun x v hv => nodR_one x.1 v hv) cfN swoN 197 #[] g 0 cap (mkPN xs hpx) w eg (cmpLaysN g 0 _ w) hH hblk (by rw [hd]; omega)
  rw [hd] at hcon
  change Calls Tryz.prog 216 _ _ _ at hcon
  refine hcon.mono ?_
  rintro e w' ⟨rfl, d', n, os, hperm, hsort, rfl⟩
  have hds : d'.size = xs.length := by rw [hperm.1, hd]
  have hpm : (d'.toList.map (·.1)).Perm xs := by
    have h := hperm.2.2
    have e1 : d'.extract 0 xs.length = d' := by rw [← hds]; simp
    have e2 : (mkPN xs hpx).extract 0 xs.length = mkPN xs hpx := by rw [← hd]; simp
    rw [e1, e2] at h
    have := h.map (·.1)
    rw [hv] at this
    exact this
  have hyt := sorted_is ht hx hpm (by rw [hds]; exact hsort)
  have hlt : xs.length = t.length := by
    have h := congrArg List.length hyt
    rw [List.length_map, Array.length_toList, hds] at h
    exact h
  refine ⟨rfl, grown_put, hlt, ?_⟩
  have hF' := flatK_flatN d'
  rw [hyt] at hF'
  have hsz : (flatK encN 4 d').size = t.length * 4 := by rw [size_flatK, hds, hlt]
  rw [hlt] at hnc ⊢
  refine ⟨flatN_len t, .inr ⟨g, cap, _, rfl, hbase, heap_put hb, hnc, hcm, by simp [Go.Sort.putCells, hcs], ?_⟩⟩
  rw [← hF', ← hsz]
  exact take_put_cells cur _ (by rw [hsz, hcs]; exact Nat.mul_le_mul_right 4 hnc)
end Go.Proofs.YtibekkfbpmloiabGreatDoor.Recs

/- Layers: the first fault of one, of the model. -/
namespace Go.Proofs.YtibekkfbpmloiabGreatDoor.Recs
set_option maxRecDepth 100000
open Go.RowKit Paths

theorem beforeL_pos {l : List R} {k : Nat} (h : k + 1 < l.length) : beforeL l (k + 1) = some (l[k]'(by omega)) := by
  unfold beforeL
  rw [if_neg (by omega), Nat.add_sub_cancel, List.getElem?_eq_getElem]
theorem code_many {l : List R} {r : R} : codeAt l 16 r = 6 := rfl
theorem code_rec {l : List R} {i : Nat} {r : R} (h : i ≠ 16) (hf : r.fault ≠ 0) : codeAt l i r = r.fault := by
  unfold codeAt; rw [if_neg h, if_pos hf]
theorem code_same {l : List R} {i : Nat} {r : R} (h : i ≠ 16) (hf : r.fault = 0) (hs : (beforeL l i).any (fun x => x.p = r.p) = true) : codeAt l i r = 18 := by
  unfold codeAt; rw [if_neg h, if_neg (by simp [hf]), if_pos hs]
theorem code_order {l : List R} {i : Nat} {r : R} (h : i ≠ 16) (hf : r.fault = 0) (hs : (beforeL l i).any (fun x => x.p = r.p) = false)
    (ho : (beforeL l i).any (fun x => !lessP (cutAt 47 x.p.data.toList) (cutAt 47 r.p.data.toList)) = true) : codeAt l i r = 11 := by
  unfold codeAt; rw [if_neg h, if_neg (by simp [hf]), if_neg (by simp [hs]), if_pos ho]
/-- What is left once the record's order is fine. -/
def codeUp (l : List R) (i : Nat) (r : R) : Int :=
  if parentL r.p.data.toList = [] then 0 else if atL (l.take i) (parO r.p) < 0 then 12
  else if (l[(atL (l.take i) (parO r.p)).toNat]?).any (fun x => x.k ≠ 3) then 13 else 0
theorem code_up {l : List R} {i : Nat} {r : R} (h : i ≠ 16) (hf : r.fault = 0) (hs : (beforeL l i).any (fun x => x.p = r.p) = false)
    (ho : (beforeL l i).any (fun x => !lessP (cutAt 47 x.p.data.toList) (cutAt 47 r.p.data.toList)) = false) : codeAt l i r = codeUp l i r := by
  unfold codeAt; rw [if_neg h, if_neg (by simp [hf]), if_neg (by simp [hs]), if_neg (by simp [ho])]; rfl
theorem codeUp_root {l : List R} {i : Nat} {r : R} (h : parentL r.p.data.toList = []) : codeUp l i r = 0 := if_pos h
theorem codeUp_orphan {l : List R} {i : Nat} {r : R} (h : parentL r.p.data.toList ≠ []) (ha : atL (l.take i) (parO r.p) < 0) : codeUp l i r = 12 := by
  unfold codeUp; rw [if_neg h, if_pos ha]
theorem codeUp_in {l : List R} {i j : Nat} {r : R} (h : parentL r.p.data.toList ≠ []) (hj : j < l.length) (ha : atL (l.take i) (parO r.p) = (j : Int)) : codeUp l i r = if l[j].k ≠ 3 then 13 else 0 := by
  unfold codeUp; rw [if_neg h, if_neg (by omega), ha, Int.toNat_natCast, List.getElem?_eq_getElem hj]; simp
theorem RecSl.take {w : World} {A : Option Addr} {cap : Nat} {l : List R} {k : Nat} (h : RecSl w (.slice A l.length cap) l) (hk : k ≤ l.length) : RecSl w (.slice A k cap) (l.take k) := by
  obtain ⟨A', cap', e, hc, h⟩ := h
  cases e
  refine ⟨A, cap, by rw [List.length_take, Nat.min_eq_left hk], by rw [List.length_take]; omega, fun hn => ?_⟩
  rw [List.length_take] at hn
  obtain ⟨b, off, e, hb, hcell⟩ := h (by omega)
  refine ⟨b, off, e, hb, fun j p hj => hcell j p ?_⟩
  rw [List.getElem?_take] at hj
  split at hj
  · exact hj
  · cases hj
theorem path_short {p : ByteArray} (h : pathB p.data.toList = true) : p.size ≤ 65536 := by
  rcases Nat.lt_or_ge 65536 p.size with h1 | h1
  · rw [pathB_long (by omega)] at h; cases h
  · exact h1

theorem below_drewN {B : Nat} {a w : World} (h : Below B a w) (q : Nat) : Below B a (w.drewN q) := ⟨h.os, h.tape, h.output, h.size, h.block⟩
theorem all_next {l : List R} {k : Nat} (h : ∀ j (h : j < l.length), j < k → codeAt l j l[j] = 0) (hk : k < l.length) (hc : codeAt l k l[k] = 0) : Hid (∀ j (h : j < l.length), j < k + 1 → codeAt l j l[j] = 0) := by
  intro j hj hlt
  rcases Nat.lt_or_ge j k with h1 | h1
  · exact h j hj h1
  · obtain rfl : j = k := by omega
    exact hc
theorem ret_pair {x : Int × Int} {a b : Int} (h : x = (a, b)) : Ending.returned (.tuple #[.int .i64 a, .int .i64 b]) = .returned (.tuple #[.int .i64 x.1, .int .i64 x.2]) := by rw [h]

set_option maxHeartbeats 1600000 in
theorem l03Fault_any (v : Value) (l : List R) (w : World) (h : RecSl w v l) (hl : l.length ≤ 1048576) :
    Calls Tryz.prog 123 #[v] w fun e w' => e = .returned (.tuple #[.int .i64 (layerFaultL l).1, .int .i64 (layerFaultL l).2]) ∧ Below w.heap.size w w' := by
  have hsl := h
  obtain ⟨A, cap, rfl, hcap, h⟩ := h
  have HSl := Lib.hid hsl
  have H := Lib.hid h
  clear h hsl
  go_enter Tryz.func123, Tryz.ntmps123
  go_wp2
  go_loopw [4] (fun i wr => ∃ k : Nat, k ≤ l.length ∧ i = .int .i64 k ∧ Hid (layerFaultL l = faultFrom l k) ∧ Hid (∀ j (h : j < l.length), j < k → codeAt l j l[j] = 0) ∧ Below w.heap.size w wr) (fun i _ => l.length - (intOf i).toNat)
  case atStart => exact ⟨0, by omega, rfl, rfl, fun j h hj => by omega, Below.refl _ _⟩
  case round =>
    obtain ⟨k, hk, rfl, HK, HC, hbw⟩ := hrel
    by_cases hlt : k < l.length
    · obtain ⟨b, off, rfl, hb, hcell⟩ := H.out (by omega)
      obtain ⟨c0, c1, c2, c3, c4⟩ := (hcell k l[k] (by simp [hlt])).below hbw hb
      have hi1 : (k : Int) < (l.length : Int) := by omega
      have hi0 : (0 : Int) ≤ (k : Int) := by omega
      by_cases h16 : k = 16
      · subst h16
        have HE : Hid (layerFaultL l = (16, 6)) := by show _ = _; rw [HK.out, faultFrom_bad hlt (by rw [code_many]; decide), code_many]; rfl
        go_wp2
        go_ret2
        exact ⟨ret_pair HE.out, hbw⟩
      have hd16 : ((k : Int) == 16) = false := by simp; omega
      have hlbw := Nat.lt_of_lt_of_le hb hbw.size
      by_cases hf : l[k].fault = 0
      · have hd : (faultI l[k].k l[k].p.data.toList l[k].b.size l[k].m l[k].o != 0) = false := by have h := hf; unfold R.fault at h; simpa using h
        go_wp2_with fail
        refine (l02Fault_any _ _ _ _ _ _).mono ?_
        rintro e w1 ⟨rfl, hb1⟩
        have HR := Lib.hid (hcell k l[k] (by simp [hlt]))
        have hbw1 := hbw.trans (hb1.mono hbw.size)
        clear c0 c1 c2 c3 c4
        obtain ⟨c0, c1, c2, c3, c4⟩ := HR.out.below hbw1 hb
        have hP := (fault_path hf).1
        cases k with
        | zero =>
          go_wp2_with fail
          go_quiet (fail)
          have hbw2 := below_drewN hbw1 nq
          generalize w1.drewN nq = W2 at *
          go_wp2_with fail
          go_quiet (fail)
          have hbw3 := below_drewN hbw2 nq
          clear c0 c1 c2 c3 c4
          obtain ⟨c0, c1, c2, c3, c4⟩ := HR.out.below hbw3 hb
          generalize W2.drewN nq = W3 at *
          go_wp2_with fail
          have HU : Hid (codeAt l 0 l[0] = codeUp l 0 l[0]) := code_up h16 hf rfl rfl
          refine (l01Parent_any _ _ (by have := path_short hP; unfold maxLen; omega)).mono ?_
          rintro e w5 ⟨rfl, rfl⟩
          by_cases hpar : parentL l[0].p.data.toList = []
          · have HN : Hid (codeAt l (0) l[0] = 0) := by show _ = _; rw [HU.out, codeUp_root hpar]
            have HF := Lib.hid (HK.out.trans (faultFrom_good hlt HN.out))
            have hemp : (parentL l[0].p.data.toList).isEmpty = true := by rw [hpar]; rfl
            unfold strV
            go_wp2_with fail
            exact ⟨⟨0 + 1, by omega, by go_num, HF, all_next HC.out hlt HN.out, hbw3⟩, by simp [intOf]; omega⟩
          · have hemp : (parentL l[0].p.data.toList).isEmpty = false := by simpa using hpar
            have hslr := (HSl.out.below hbw3).take (k := 0) (by omega)
            unfold strV
            go_wp2_with fail
            refine (l03At_any _ (l.take (0)) _ _ (by exact hslr) (by rw [List.length_take]; omega)).mono ?_
            rintro e w6 ⟨rfl, rfl⟩
            rcases atL_cases (l.take (0)) (parO l[0].p) with ⟨ha, _⟩ | ⟨j, hj, ha, _⟩
            · have HE : Hid (layerFaultL l = (((0 : Nat) : Int), 12)) := by
                have hc := HU.out.trans (codeUp_orphan hpar (by rw [ha]; decide))
                show _ = _
                rw [HK.out, faultFrom_bad hlt (by rw [hc]; decide), hc]
              have ha' : atL (l.take (0)) ⟨(parentL l[0].p.data.toList).toArray⟩ = -1 := ha
              rw [ha']
              go_wp2_with fail
              go_ret2
              exact ⟨ret_pair HE.out, hbw3⟩
            · rw [List.length_take] at hj
              omega
        | succ k =>
          obtain ⟨d0, d1, d2, d3, d4⟩ := (hcell k (l[k]'(by omega)) (by simp)).below hbw1 hb
          have hd0 : decide ((0 : Int) < ((k + 1 : Nat) : Int)) = true := by simp
          have e1 : ((k + 1 : Nat) : Int) - 1 = (k : Int) := by omega
          rcases Bool.eq_false_or_eq_true (l[k + 1].p.toList == l[k].p.toList) with he | he
          · have HE : Hid (layerFaultL l = (((k + 1 : Nat) : Int), 18)) := by
              have hc := code_same (l := l) h16 hf (by rw [beforeL_pos hlt]; simpa using (str_eq_of he).symm)
              show _ = _
              rw [HK.out, faultFrom_bad hlt (by rw [hc]; decide), hc]
            go_wp2_with fail
            go_quiet (fail)
            go_wp2_with fail
            go_ret2
            exact ⟨ret_pair HE.out, below_drewN hbw1 _⟩
          · go_wp2_with fail
            go_quiet (fail)
            go_wp2_with fail
            have hbw2 := below_drewN hbw1 nq
            clear c0 c1 c2 c3 c4 d0 d1 d2 d3 d4
            obtain ⟨c0, c1, c2, c3, c4⟩ := HR.out.below hbw2 hb
            obtain ⟨d0, d1, d2, d3, d4⟩ := (hcell k (l[k]'(by omega)) (by simp)).below hbw2 hb
            generalize w1.drewN nq = W2 at *
            have hsame : (beforeL l (k + 1)).any (fun x => x.p = l[k + 1].p) = false := by
              rw [beforeL_pos hlt]
              simp only [Option.any_some, decide_eq_false_iff_not]
              intro e
              rw [e] at he
              simp at he
            have hlt2 := Nat.lt_of_lt_of_le hb hbw2.size
            have hs1 := path_short hP
            have hs2 := path_short (fault_path (codeAt_zero (HC.out k (by omega) (by omega))).2).1
            have i1 : (0 : Int) ≤ (k : Int) + 1 := by omega
            have i2 : (k : Int) + 1 < (l.length : Int) := by omega
            have i3 : (0 : Int) ≤ (k : Int) := by omega
            have i4 : (k : Int) < (l.length : Int) := by omega
            have hw : IntKind.i64.wrap (k : Int) = (k : Int) := by simp [IntKind.wrap, IntKind.bits, IntKind.signed]; omega
            rcases Bool.eq_false_or_eq_true (lessP (cutAt 47 l[k].p.data.toList) (cutAt 47 l[k + 1].p.data.toList)) with hless | hless
            · go_region_held3 (fun w' => w'.cell? ⟨b, off + k * 5 + 1, none⟩ = some (.string l[k].p) ∧ w'.cell? ⟨b, off + (k + 1) * 5 + 1, none⟩ = some (.string l[k + 1].p)) (first | exact ⟨d1, c1⟩ | exact ⟨(hb3.cell (p := ⟨b, off + k * 5 + 1, none⟩) hlt2).trans d1, (hb3.cell (p := ⟨b, off + (k + 1) * 5 + 1, none⟩) hlt2).trans c1⟩ | go_keep) (first | (go_at_call 76; refine (l01Less_any _ _ _ hs2 hs1).mono ?_; rintro e w3 ⟨rfl, hb3⟩))
              have hbw4 := hbw2.drew.trans (hb3.mono hbw2.size)
              clear c0 c1 c2 c3 c4 d0 d1 d2 d3 d4
              obtain ⟨c0, c1, c2, c3, c4⟩ := HR.out.below hbw4 hb
              have HU : Hid (codeAt l (k + 1) l[k + 1] = codeUp l (k + 1) l[k + 1]) := code_up h16 hf hsame (by rw [beforeL_pos hlt]; simp [hless])
              go_wp2_with fail
              refine (l01Parent_any _ _ (by have := path_short hP; unfold maxLen; omega)).mono ?_
              rintro e w5 ⟨rfl, rfl⟩
              by_cases hpar : parentL l[k + 1].p.data.toList = []
              · have HN : Hid (codeAt l (k + 1) l[k + 1] = 0) := by show _ = _; rw [HU.out, codeUp_root hpar]
                have HF := Lib.hid (HK.out.trans (faultFrom_good hlt HN.out))
                have hemp : (parentL l[k + 1].p.data.toList).isEmpty = true := by rw [hpar]; rfl
                unfold strV
                go_wp2_with fail
                exact ⟨⟨k + 1 + 1, by omega, by go_num, HF, all_next HC.out hlt HN.out, hbw4⟩, by simp [intOf]; omega⟩
              · have hemp : (parentL l[k + 1].p.data.toList).isEmpty = false := by simpa using hpar
                have hslr := (HSl.out.below hbw4).take (k := k + 1) (by omega)
                unfold strV
                go_wp2_with fail
                refine (l03At_any _ (l.take (k + 1)) _ _ (by exact hslr) (by rw [List.length_take]; omega)).mono ?_
                rintro e w6 ⟨rfl, rfl⟩
                rcases atL_cases (l.take (k + 1)) (parO l[k + 1].p) with ⟨ha, _⟩ | ⟨j, hj, ha, _⟩
                · have HE : Hid (layerFaultL l = (((k + 1 : Nat) : Int), 12)) := by
                    have hc := HU.out.trans (codeUp_orphan hpar (by rw [ha]; decide))
                    show _ = _
                    rw [HK.out, faultFrom_bad hlt (by rw [hc]; decide), hc]
                  have ha' : atL (l.take (k + 1)) ⟨(parentL l[k + 1].p.data.toList).toArray⟩ = -1 := ha
                  rw [ha']
                  go_wp2_with fail
                  go_ret2
                  exact ⟨ret_pair HE.out, hbw4⟩
                · rw [List.length_take] at hj
                  have hjl : j < l.length := by omega
                  have ha' : atL (l.take (k + 1)) ⟨(parentL l[k + 1].p.data.toList).toArray⟩ = (j : Int) := ha
                  have HV := Lib.hid (HU.out.trans (codeUp_in hpar hjl ha))
                  rw [ha']
                  clear ha ha'
                  obtain ⟨f0, _⟩ := (hcell j l[j] (by simp [hjl])).below hbw4 hb
                  have j1 : (0 : Int) ≤ (j : Int) := by omega
                  have j2 : (j : Int) < (l.length : Int) := by omega
                  have j3 : decide ((j : Int) < 0) = false := by simp
                  by_cases h3 : l[j].k = 3
                  · have HN : Hid (codeAt l (k + 1) l[k + 1] = 0) := by show _ = _; rw [HV.out, if_neg (by simpa using h3)]
                    have HF := Lib.hid (HK.out.trans (faultFrom_good hlt HN.out))
                    have j4 : (l[j].k != 3) = false := by simpa using h3
                    clear h3
                    go_wp2_with fail
                    exact ⟨⟨k + 1 + 1, by omega, by go_num, HF, all_next HC.out hlt HN.out, hbw4⟩, by simp [intOf]; omega⟩
                  · have HE : Hid (layerFaultL l = (((k + 1 : Nat) : Int), 13)) := by
                      have hc := HV.out.trans (if_pos h3)
                      show _ = _
                      rw [HK.out, faultFrom_bad hlt (by rw [hc]; decide), hc]
                    have j4 : (l[j].k != 3) = true := by simpa using h3
                    clear h3
                    go_wp2_with fail
                    go_ret2
                    exact ⟨ret_pair HE.out, hbw4⟩
            · go_region_held3 (fun w' => w'.cell? ⟨b, off + k * 5 + 1, none⟩ = some (.string l[k].p) ∧ w'.cell? ⟨b, off + (k + 1) * 5 + 1, none⟩ = some (.string l[k + 1].p)) (first | exact ⟨d1, c1⟩ | exact ⟨(hb3.cell (p := ⟨b, off + k * 5 + 1, none⟩) hlt2).trans d1, (hb3.cell (p := ⟨b, off + (k + 1) * 5 + 1, none⟩) hlt2).trans c1⟩ | go_keep) (first | (go_at_call 76; refine (l01Less_any _ _ _ hs2 hs1).mono ?_; rintro e w3 ⟨rfl, hb3⟩))
              have hbw4 := hbw2.drew.trans (hb3.mono hbw2.size)
              clear c0 c1 c2 c3 c4 d0 d1 d2 d3 d4
              obtain ⟨c0, c1, c2, c3, c4⟩ := HR.out.below hbw4 hb
              have HE : Hid (layerFaultL l = (((k + 1 : Nat) : Int), 11)) := by
                have hc := code_order (l := l) h16 hf hsame (by rw [beforeL_pos hlt]; simp [hless])
                show _ = _
                rw [HK.out, faultFrom_bad hlt (by rw [hc]; decide), hc]
              go_wp2_with fail
              go_ret2
              exact ⟨ret_pair HE.out, hbw4⟩
      · have HE : Hid (layerFaultL l = ((k : Int), faultI l[k].k l[k].p.data.toList l[k].b.size l[k].m l[k].o)) := by show _ = _; rw [HK.out, faultFrom_bad hlt (by rw [code_rec h16 hf]; exact hf), code_rec h16 hf]; rfl
        have hd : (faultI l[k].k l[k].p.data.toList l[k].b.size l[k].m l[k].o != 0) = true := by have h := hf; unfold R.fault at h; simpa using h
        clear hf
        go_wp2_with fail
        refine (l02Fault_any _ _ _ _ _ _).mono ?_
        rintro e w1 ⟨rfl, hb1⟩
        go_wp2_with fail
        go_ret2
        exact ⟨ret_pair HE.out, hbw.trans (hb1.mono hbw.size)⟩
    · obtain rfl : k = l.length := by omega
      have HE : Hid (layerFaultL l = (0, 0)) := by show _ = _; rw [HK.out, faultFrom_end (Nat.le_refl _)]
      go_wp2
      go_ret2
      exact ⟨ret_pair HE.out, hbw⟩
end Go.Proofs.YtibekkfbpmloiabGreatDoor.Recs

/- Layers: the program's searches (slices.IndexFunc, slices.ContainsFunc, with what it hands them). -/
namespace Go.Proofs.YtibekkfbpmloiabGreatDoor.Recs
set_option maxRecDepth 100000
open Go.RowKit Paths

/-- The place of the first record that a test takes, counted from n on; -1 of none. -/
def idxFrom (P : R → Bool) : List R → Nat → Int
  | [], _ => -1
  | r :: t, n => if P r then (n : Int) else idxFrom P t (n + 1)
theorem idx_step {P : R → Bool} {l : List R} {k : Nat} (h : k < l.length) : idxFrom P (l.drop k) k = if P l[k] then (k : Int) else idxFrom P (l.drop (k + 1)) (k + 1) := by
  rw [List.drop_eq_getElem_cons h]
  rfl
theorem idx_end {P : R → Bool} {l : List R} {k : Nat} (h : l.length ≤ k) : idxFrom P (l.drop k) k = -1 := by
  rw [List.drop_eq_nil_of_le h]
  rfl
theorem idx_at (q : ByteArray) : ∀ (l : List R) (n : Nat), idxFrom (fun r => r.p.toList == q.toList) l n = atFrom l n q
  | [], _ => rfl
  | r :: t, n => by
    simp only [idxFrom, atFrom]
    rw [idx_at q t (n + 1)]
    by_cases h : r.p = q
    · rw [if_pos h, if_pos (by rw [h]; simp)]
    · rw [if_neg h, if_neg (fun e => h (str_eq_of e))]
set_option maxHeartbeats 800000 in
theorem indexFunc_path (v : Value) (l : List R) (c : Addr) (P : R → Bool) (w : World) (h : RecSl w v l) (hl : l.length ≤ 1048576)
    (HF : ∀ r ∈ l, ∀ w', Below w.heap.size w w' → Calls Tryz.prog 168 #[r.val, .pointer (some c)] w' fun e w'' => e = .returned (.bool (P r)) ∧ Below w'.heap.size w' w'') :
    Calls Tryz.prog 167 #[v, .func (.func 168) #[] #[.pointer (some c)]] w fun e w' => e = .returned (.int .i64 (idxFrom P l 0)) ∧ Below w.heap.size w w' := by
  obtain ⟨A, cap, rfl, hcap, h⟩ := h
  have H := Lib.hid h
  have HFh := Lib.hid HF
  clear h HF
  go_enter Tryz.func167, Tryz.ntmps167
  go_wp2
  go_loopw [8] (fun i wr => ∃ k : Nat, k ≤ l.length ∧ i = .int .i64 k ∧ Hid (idxFrom P l 0 = idxFrom P (l.drop k) k) ∧ Below w.heap.size w wr) (fun i _ => l.length - (intOf i).toNat)
  case atStart => exact ⟨0, by omega, rfl, rfl, Below.refl _ _⟩
  case round =>
    obtain ⟨k, hk, rfl, HK, hbw⟩ := hrel
    by_cases hlt : k < l.length
    · obtain ⟨b, off, rfl, hb, hcell⟩ := H.out (by omega)
      obtain ⟨c0, c1, c2, c3, c4⟩ := (hcell k l[k] (by simp [hlt])).below hbw hb
      have HS := Lib.hid (HK.out.trans (idx_step hlt))
      clear hcell HK
      have hi1 : (k : Int) < (l.length : Int) := by omega
      have hi0 : (0 : Int) ≤ (k : Int) := by omega
      have HC := HFh.out l[k] (List.getElem_mem hlt) _ hbw
      unfold R.val at HC
      rcases Bool.eq_false_or_eq_true (P l[k]) with he | he
      · have HE : Hid (idxFrom P l 0 = k) := by show _ = _; rw [HS.out, if_pos he]
        go_wp2_with (go_at_call 168; refine HC.mono ?_; rintro e w1 ⟨rfl, hb1⟩)
        go_ret
        exact ⟨ret_int HE.out.symm, hbw.trans (hb1.mono hbw.size)⟩
      · have HE : Hid (idxFrom P l 0 = idxFrom P (l.drop (k + 1)) (k + 1)) := by show _ = _; rw [HS.out, if_neg (by rw [he]; decide)]
        go_wp2_with (go_at_call 168; refine HC.mono ?_; rintro e w1 ⟨rfl, hb1⟩)
        exact ⟨⟨k + 1, by omega, by go_num, HE, hbw.trans (hb1.mono hbw.size)⟩, by simp [intOf]; omega⟩
    · have HE := Lib.hid (HK.out.trans (idx_end (by omega)))
      go_wp2
      go_ret
      exact ⟨ret_int HE.out.symm, hbw⟩

theorem path_test (r : R) (c : Nat) (q : ByteArray) (w : World) (h : w.cell? ⟨c, 0, none⟩ = some (.string q)) :
    Calls Tryz.prog 168 #[r.val, .pointer (some ⟨c, 0, none⟩)] w fun e w' => e = .returned (.bool (r.p.toList == q.toList)) ∧ Below w.heap.size w w' := by
  unfold R.val
  have h1 : (w.alloc (.cells #[.int .i64 r.k, .string r.p, .string r.b, .int .i64 r.m, .bool r.o] 53)).cell? ⟨c, 0, none⟩ = some (.string q) := cell?_alloc_old _ h
  go_enter Tryz.func168, Tryz.ntmps168
  go_wp2
  go_ret
  exact ⟨rfl, (Below.refl _ _).alloc (Nat.le_refl _) _⟩

theorem indexOfPath_any (v : Value) (l : List R) (q : ByteArray) (w : World) (h : RecSl w v l) (hl : l.length ≤ 1048576) :
    Calls Tryz.prog 103 #[v, .string q] w fun e w' => e = .returned (.int .i64 (atL l q)) ∧ Below w.heap.size w w' := by
  have hb0 : Below w.heap.size w (w.alloc (.cells #[.string q] 9)) := (Below.refl _ _).alloc (Nat.le_refl _) _
  have hc0 : (w.alloc (.cells #[.string q] 9)).cell? ⟨w.heap.size, 0, none⟩ = some (.string q) := by go_simp
  have h0 := h.below hb0
  have HC := indexFunc_path v l ⟨w.heap.size, 0, none⟩ (fun r => r.p.toList == q.toList) (w.alloc (.cells #[.string q] 9)) h0 hl
    (fun r _ w' hb => path_test r w.heap.size q w' ((hb.cell (p := ⟨w.heap.size, 0, none⟩) (by simp)).trans hc0))
  rw [idx_at] at HC
  obtain ⟨A, cap, rfl, _⟩ := h
  go_enter Tryz.func103, Tryz.ntmps103
  go_wp2_with fail
  refine HC.mono ?_
  rintro e w1 ⟨rfl, hb1⟩
  go_wp2_with fail
  go_ret
  exact ⟨rfl, hb0.trans (hb1.mono hb0.size)⟩

end Go.Proofs.YtibekkfbpmloiabGreatDoor.Recs
