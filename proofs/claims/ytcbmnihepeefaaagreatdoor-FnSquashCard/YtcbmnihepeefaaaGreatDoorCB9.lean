/- Parts of several texts of mine in one file (each begins with its own remark). -/
import Derived.Test.YtcbmnihepeefaaaGreatDoorCA1
import Derived.Test.YtcbmnihepeefaaaGreatDoorCA10
import Derived.Test.YtcbmnihepeefaaaGreatDoorCA2
import Derived.Test.YtcbmnihepeefaaaGreatDoorCA3
import Derived.Test.YtcbmnihepeefaaaGreatDoorCA4
import Derived.Test.YtcbmnihepeefaaaGreatDoorCA5
import Derived.Test.YtcbmnihepeefaaaGreatDoorCA6
import Derived.Test.YtcbmnihepeefaaaGreatDoorCA7
import Derived.Test.YtcbmnihepeefaaaGreatDoorCA8
import Derived.Test.YtcbmnihepeefaaaGreatDoorCA9
import Derived.Test.YtcbmnihepeefaaaGreatDoorCB1
import Derived.Test.YtcbmnihepeefaaaGreatDoorCB5
import Derived.Test.YtcbmnihepeefaaaGreatDoorCB6
import Derived.Test.YtcbmnihepeefaaaGreatDoorCB7
import Derived.Test.YtcbmnihepeefaaaGreatDoorCB8
import Derived.Test.YtcbmnihepeefaaaGreatDoorShelf2
import Derived.Test.YtcbmnihepeefaaaGreatDoorChecked
import Derived.Test.YtcbmnihepeefaaaGreatDoorShelf
import Derived.Test.YtcbmnihepeefaaaGreatDoorRows
import Derived.Test.YtcbmnihepeefaaaGreatDoorProg
import Derived.Sort.OwnSorted
import Derived.Deep.RegionHeld3
import Derived.RangeFuncNested
import Derived.RangeFuncBound
import Derived.RangeFuncCalls
import Derived.RangeFuncLeaves
import Derived.RangeFuncBox
import Derived.Shelf.Abstract
import Derived.Shelf.RegionOpen
import Derived.OwnWalkIn
import Derived.TacticsInMore
import Derived.LoopNIn
import Derived.LoopIn
import Derived.Maps.OwnIn
import Derived.Maps.AppendAt
import Derived.Sort.MapsRangeIn
import Derived.Sort.KeysCollected
import Derived.Laws.IdiomRangeMap
import Derived.StillTailTactics
import Derived.Maps.RangeWalk
import Derived.Maps.Ext
import Derived.Lib.SlMapFilter
import Derived.Laws.OwnMore
import Derived.BigQuiet
import Derived.BigRegion
import Derived.Deep.QuietTactic
import Derived.Deep.Slices
import Derived.OpenShut
import Derived.ShutString
import Derived.ChangeArms
import Derived.WideShapes
import Derived.Lib.LaidTab
import Derived.Deep.Draws
import Derived.Deep.LoopGhost
import Derived.WalkKit
import Derived.WalkSpells
import Derived.WalkSmall
import Derived.Lib.OthersKept
import Derived.Lib.Hide
import Derived.Lib.Strings
import Derived.Lib.Join
import Derived.Laws.BytesArg
import Derived.WalkLawsBesides
import Derived.Deep.RegionWith
import Derived.OneCell
import Derived.Lib.SliceRun
import Derived.Lib.Overlaps
import Derived.Lib.AppendZerosOnto
import Derived.Laws.NewBlocks
import Derived.Laws.IdiomCopy
import Derived.Deep.RegionLaw
import Derived.ChangeVars
import Derived.Deep.DeepHandedRow
import Derived.LaidEql
import Derived.Stop.Asserts
import Derived.Below
import Derived.Stop.LaidErr
import Derived.Stop.LaidTwo
import Derived.Sort.Grow
/- The program's map of paths: its nodes sorted, as a slice of its own. -/
namespace Go.Proofs.YtcbmnihepeefaaaGreatDoor.Recs
set_option maxRecDepth 100000
open Go.RowKit Paths Go.Shelf Go.Sort

/-- A node whose path is one. -/
def PN : Type := { r : R // pathB r.p.data.toList = true }
instance inhPN : Inhabited PN := ⟨⟨⟨1, 0, ⟨#[97]⟩, ⟨#[]⟩, false⟩, by decide⟩⟩
def encN (x : PN) : List Value := x.1.ns
def cfN (x y : PN) : Int := cmpR x.1 y.1
theorem ltN (x y : PN) : ltOf cfN x y = lessR x.1 y.1 := by
  unfold ltOf cfN cmpR lessR
  rw [less_cmp, partsOf_yes x.2, partsOf_yes y.2]
theorem lessP_not (A B C : List (List UInt8)) (h1 : lessP A B = false) (h2 : lessP B C = false) : lessP A C = false := by
  cases hc : lessP A C with
  | false => rfl
  | true =>
    cases hb : lessP C B with
    | true => rw [lessP_trans _ _ _ hc hb] at h1; cases h1
    | false =>
      rw [lessP_total _ _ h2 hb] at h1
      rw [h1] at hc
      cases hc
theorem swoN : Go.Sort.SWO (ltOf cfN) where
  irrefl x := by rw [ltN]; exact lessP_irrefl _
  trans x y z h1 h2 := by rw [ltN] at *; exact lessP_trans _ _ _ h1 h2
  ntrans x y z h1 h2 := by rw [ltN] at *; exact lessP_not _ _ _ h1 h2
theorem cmpLaysN (blk off size : Nat) (w : World) : CmpLays Tryz.prog 225 #[] encN 4 cfN blk off size w := fun _ _ _ _ x y =>
  (treeCmp_any x.1 y.1 _ x.2 y.2).mono fun _ _ ⟨he, hb⟩ => ⟨he, hb.world⟩
theorem flatK_flatN (d : Array PN) : (flatK encN 4 d).toList = flatN (d.toList.map (·.1)) := by
  apply List.ext_getElem?
  intro t
  rw [flatN_get, List.getElem?_map]
  by_cases ht : t < d.size * 4
  · have hq : t / 4 < d.size := by omega
    have h1 : (flatK encN 4 d)[t]? = some ((flatK encN 4 d)[t]!) := by
      rw [getElem!_pos _ t (by simpa using ht)]
      exact Array.getElem?_eq_getElem _
    rw [Array.getElem?_toList, h1, get_flatK _ _ _ t ht, getElem!_pos d _ hq, Array.getElem?_toList, Array.getElem?_eq_getElem hq]
    show _ = (d[t / 4].1).ns[t % 4]?
    have h4 : t % 4 < (d[t / 4].1).ns.length := by show t % 4 < 4; omega
    rw [List.getElem?_eq_getElem h4]
    unfold encN
    rw [getElem!_pos (d[t / 4].1).ns (t % 4) h4]
  · rw [Array.getElem?_toList, Array.getElem?_eq_none (by simpa using ht), Array.getElem?_toList, Array.getElem?_eq_none (by omega)]
    rfl
theorem heap_put {w : World} {g m : Nat} {F cur : Array Value} {e : TypeId} {os : Array Obj} (hb : w.heap[g]? = some (.cells cur e (0, 0))) :
    (Go.Sort.grow (Go.Sort.putRow id (Go.Sort.ahead w m) g 0 F) os).heap[g]? = some (.cells (Go.Sort.putCells id 0 F cur) e (0, 0)) := by
  have hg : g < w.heap.size := (Array.getElem?_eq_some_iff.1 hb).1
  rw [Go.Sort.heap_grow_old _ _ (by simp [Go.Sort.putRow, Go.Sort.mapBlock, Go.Sort.ahead, hg])]
  simp [Go.Sort.putRow, Go.Sort.mapBlock, Go.Sort.ahead, Array.getElem?_modify, hb, Go.Sort.onCells]
theorem grown_put {w : World} {g m : Nat} {F : Array Value} {os : Array Obj} : w.grownBy (Go.Sort.grow (Go.Sort.putRow id (Go.Sort.ahead w m) g 0 F) os) (some g) := by
  refine ⟨rfl, rfl, rfl, by simp, fun k hk hne => ?_⟩
  rw [Go.Sort.heap_grow_old _ _ (by simpa using hk)]
  have : g ≠ k := fun e => hne (by rw [e])
  simp [Go.Sort.putRow, Go.Sort.mapBlock, Go.Sort.ahead, Array.getElem?_modify, this]
theorem take_put_cells (cur F : Array Value) (h : F.size ≤ cur.size) : (Go.Sort.putCells id 0 F cur).toList.take F.size = F.toList := by
  apply List.ext_getElem?
  intro j
  by_cases hj : j < F.size
  · rw [List.getElem?_take_of_lt hj, Array.getElem?_toList]
    simp [Go.Sort.putCells, hj, show j < cur.size by omega]
  · rw [List.getElem?_take_eq_none (by omega), List.getElem?_eq_none (by simpa using hj)]
def mkPN (xs : List R) (h : ∀ x ∈ xs, pathB x.p.data.toList = true) : Array PN := (xs.pmap (fun r hr => (⟨r, hr⟩ : PN)) h).toArray
theorem mkPN_val (xs : List R) (h : ∀ x ∈ xs, pathB x.p.data.toList = true) : (mkPN xs h).toList.map (·.1) = xs := by
  show (xs.pmap (fun r hr => (⟨r, hr⟩ : PN)) h).map (·.1) = xs
  rw [List.map_pmap]
  show xs.pmap (fun r _ => r) h = xs
  rw [List.pmap_eq_map, List.map_id']
theorem mkPN_size (xs : List R) (h : ∀ x ∈ xs, pathB x.p.data.toList = true) : (mkPN xs h).size = xs.length := by
  show (xs.pmap (fun r hr => (⟨r, hr⟩ : PN)) h).toArray.size = _
  rw [List.size_toArray, List.length_pmap]
/-- A sorted permutation of the nodes of a sorted list is that list. -/
theorem sorted_is {t xs : List R} {d' : Array PN} (ht : Sorted t) (hx : AllT t xs) (hp : (d'.toList.map (·.1)).Perm xs) (hs : Go.Sort.SortedIn (ltOf cfN) 0 d'.size d') : d'.toList.map (·.1) = t := by
  have hnd : (d'.toList.map (·.1)).Nodup := hp.nodup_iff.2 hx.1
  refine sorted_ext _ _ ?_ ht (fun x => (hp.mem_iff).trans (hx.2 x))
  unfold Sorted
  rw [List.pairwise_iff_getElem]
  intro i j hi hj hij
  have hi' : i < d'.size := by simpa using hi
  have hj' : j < d'.size := by simpa using hj
  have h1 := hs i j (Nat.zero_le _) hij hj'
  rw [ltN, getElem!_pos d' _ hj', getElem!_pos d' _ hi'] at h1
  have ei : (d'.toList.map (·.1))[i] = d'[i].1 := by simp
  have ej : (d'.toList.map (·.1))[j] = d'[j].1 := by simp
  rw [ei, ej]
  by_cases he : (d'[i].1).p = (d'[j].1).p
  · have m1 : d'[i].1 ∈ t := (hx.2 _).1 (hp.mem_iff.1 (ei ▸ List.getElem_mem hi))
    have m2 : d'[j].1 ∈ t := (hx.2 _).1 (hp.mem_iff.1 (ej ▸ List.getElem_mem hj))
    have h2 := sorted_mem_once ht m1 m2 he
    have h3 := List.pairwise_iff_getElem.1 hnd i j hi hj hij
    rw [ei, ej] at h3
    exact absurd h2 h3
  · rcases less_or he with h | h
    · exact h
    · rw [h1] at h; cases h

set_option maxHeartbeats 1000000 in
theorem sortN_any (g cap : Nat) (xs t : List R) (base : Nat) (w : World) (hrow : w.ownsRow base 29 4 (.slice (some ⟨g, 0, none⟩) xs.length cap) xs.length (flatN xs)) (hx : AllT t xs) (ht : Sorted t) (hp : ∀ x ∈ t, pathB x.p.data.toList = true) (hl : xs.length ≤ 100000) :
    Calls Tryz.prog 240 #[.slice (some ⟨g, 0, none⟩) xs.length cap, .func (.func 225) #[] #[]] w fun e w' =>
      e = .returned (.tuple #[]) ∧ w.grownBy w' (some g) ∧ xs.length = t.length ∧ w'.ownsRow base 29 4 (.slice (some ⟨g, 0, none⟩) xs.length cap) t.length (flatN t) := by
  have hpx : ∀ x ∈ xs, pathB x.p.data.toList = true := fun x hm => hp x ((hx.2 x).1 hm)
  have hd := mkPN_size xs hpx
  have hv := mkPN_val xs hpx
  have hF := flatK_flatN (mkPN xs hpx)
  rw [hv] at hF
  have eg : ∀ args w, (callFunc 225 args).run Tryz.prog w = .ok (.enter 225 args) w := enters_of Tryz.func225 (by kernel_rfl) rfl
  rcases hrow.2 with ⟨h0, _⟩ | ⟨g', cap', cur, hg, hbase, hb, hnc, hcm, hcs, htk⟩
  · cases h0
  cases hg
  have hblk : g < w.heap.size := (Array.getElem?_eq_some_iff.1 hb).1
  have hH : HoldsK encN 4 w g 0 (mkPN xs hpx) := by
    intro j hj
    rw [size_flatK, hd] at hj
    refine ⟨?_, ?_⟩
    · rw [Nat.zero_add, hrow.cellAt j hj, ← hF, Array.getElem?_toList, getElem!_pos _ j (by rw [size_flatK, hd]; exact hj), Array.getElem?_eq_getElem]
      rfl
    · simp [World.frozen?, hb]
  have hcon := AnyQ.slices_SortFunc Tryz.sortN 4 Tryz.isAgg29 Tryz.sizeOf29 encN (fun _ => rfl) (fun x v hv => nodR_one x.1 v hv) cfN swoN 225 #[] g 0 cap (mkPN xs hpx) w eg (cmpLaysN g 0 _ w) hH hblk (by rw [hd]; omega)
  rw [hd] at hcon
  change Calls Tryz.prog 240 _ _ _ at hcon
  refine hcon.mono ?_
  rintro e w' ⟨rfl, d', n, os, hperm, hsort, rfl⟩
  have hds : d'.size = xs.length := by rw [hperm.1, hd]
  have hpm : (d'.toList.map (·.1)).Perm xs := by
    have h := hperm.2.2
    have e1 : d'.extract 0 xs.length = d' := by rw [← hds]; simp
    have e2 : (mkPN xs hpx).extract 0 xs.length = mkPN xs hpx := by rw [← hd]; simp
    rw [e1, e2] at h
    have := h.map (·.1)
    rw [hv] at this
    exact this
  have hyt := sorted_is ht hx hpm (by rw [hds]; exact hsort)
  have hlt : xs.length = t.length := by
    have h := congrArg List.length hyt
    rw [List.length_map, Array.length_toList, hds] at h
    exact h
  refine ⟨rfl, grown_put, hlt, ?_⟩
  have hF' := flatK_flatN d'
  rw [hyt] at hF'
  have hsz : (flatK encN 4 d').size = t.length * 4 := by rw [size_flatK, hds, hlt]
  rw [hlt] at hnc ⊢
  refine ⟨flatN_len t, .inr ⟨g, cap, _, rfl, hbase, heap_put hb, hnc, hcm, by simp [Go.Sort.putCells, hcs], ?_⟩⟩
  rw [← hF', ← hsz]
  exact take_put_cells cur _ (by rw [hsz, hcs]; exact Nat.mul_le_mul_right 4 hnc)
end Go.Proofs.YtcbmnihepeefaaaGreatDoor.Recs

/- Layers: comparison of two lists of records, of the program and of its model. -/
namespace Go.Proofs.YtcbmnihepeefaaaGreatDoor.Recs
set_option maxRecDepth 100000
open Go.RowKit Paths

theorem rec_eq {x y : R} (h0 : (x.k == y.k) = true) (h1 : (x.p.toList == y.p.toList) = true) (h2 : (x.b.toList == y.b.toList) = true) (h3 : (x.m == y.m) = true) (h4 : (x.o == y.o) = true) : x = y := by
  have e0 := eq_of_beq h0
  have e1 := str_eq_of h1
  have e2 := str_eq_of h2
  have e3 := eq_of_beq h3
  have e4 := eq_of_beq h4
  cases x; cases y
  simp only at e0 e1 e2 e3 e4
  subst e0 e1 e2 e3 e4
  rfl
theorem ne_at {A B : List R} {k : Nat} (h1 : k < A.length) (h2 : k < B.length) (h : A[k] ≠ B[k]) : Hid (¬ A = B) := fun e => h (getElem_of_eq h1 h2 e)

set_option maxHeartbeats 1600000 in
theorem equalR_any (v1 v2 : Value) (A B : List R) (w : World) (h1 : RecSl w v1 A) (h2 : RecSl w v2 B) (hl : A.length ≤ 1048576) :
    Calls Tryz.prog 118 #[v1, v2] w fun e w' => e = .returned (.bool (decide (A = B))) ∧ ∃ n, w' = w.drewN n := by
  obtain ⟨a1, cap1, rfl, hcap1, h1⟩ := h1
  obtain ⟨a2, cap2, rfl, hcap2, h2⟩ := h2
  by_cases hL : A.length = B.length
  · have hne : ((A.length : Int) != (B.length : Int)) = false := by simp [hL]
    have HL := Lib.hid hL
    have H1 := Lib.hid h1
    have H2 := Lib.hid h2
    clear hL h1 h2
    go_enter Tryz.func118, Tryz.ntmps118
    go_wp2
    go_loopw [13] (fun i wr => ∃ k n : Nat, k ≤ A.length ∧ i = .int .i64 k ∧ wr = w.drewN n ∧ Hid (A.take k = B.take k)) (fun i _ => A.length - (intOf i).toNat)
    case atStart => exact ⟨0, 0, by omega, rfl, rfl, rfl⟩
    case round =>
      obtain ⟨k, n, hk, rfl, rfl, HK⟩ := hrel
      by_cases hlt : k < A.length
      · obtain ⟨b1, o1, rfl, hb1, hcell1⟩ := H1.out (by omega)
        have hL2 := HL.out
        have hlt2 : k < B.length := by omega
        obtain ⟨b2, o2, rfl, hb2, hcell2⟩ := H2.out (by omega)
        obtain ⟨c0, c1, c2, c3, c4⟩ := hcell1 k A[k] (by simp [hlt])
        obtain ⟨d0, d1, d2, d3, d4⟩ := hcell2 k B[k] (by simp [hlt2])
        clear hcell1 hcell2 hL2 H1 H2
        have hi1 : (k : Int) < (A.length : Int) := by omega
        have hi2 : (k : Int) < (B.length : Int) := by omega
        have hi0 : (0 : Int) ≤ (k : Int) := by omega
        rcases five A[k] B[k] with f0 | ⟨f0, f1⟩ | ⟨f0, f1, f2⟩ | ⟨f0, f1, f2, f3⟩ | ⟨f0, f1, f2, f3, f4⟩ | ⟨f0, f1, f2, f3, f4⟩
        · have HF := ne_at hlt hlt2 (fun e => by rw [e] at f0; simp at f0)
          go_wp2
          go_quiet (fail)
          go_wp2
          go_ret
          exact ⟨ret_bool (by simp [HF.out]), n + nq, World.drewN_drewN _ _ _⟩
        · have HF := ne_at hlt hlt2 (fun e => by rw [e] at f1; simp at f1)
          go_wp2
          go_quiet (fail)
          go_wp2
          go_ret
          exact ⟨ret_bool (by simp [HF.out]), n + nq, World.drewN_drewN _ _ _⟩
        · have HF := ne_at hlt hlt2 (fun e => by rw [e] at f2; simp at f2)
          go_wp2
          go_quiet (fail)
          go_wp2
          go_ret
          exact ⟨ret_bool (by simp [HF.out]), n + nq, World.drewN_drewN _ _ _⟩
        · have HF := ne_at hlt hlt2 (fun e => by rw [e] at f3; simp at f3)
          go_wp2
          go_quiet (fail)
          go_wp2
          go_ret
          exact ⟨ret_bool (by simp [HF.out]), n + nq, World.drewN_drewN _ _ _⟩
        · have HF := ne_at hlt hlt2 (fun e => by rw [e] at f4; simp at f4)
          go_wp2
          go_quiet (fail)
          go_wp2
          go_ret
          exact ⟨ret_bool (by simp [HF.out]), n + nq, World.drewN_drewN _ _ _⟩
        · have HT := Lib.hid (take_snoc_eq hlt hlt2 HK.out (rec_eq f0 f1 f2 f3 f4))
          go_wp2
          go_quiet (fail)
          go_wp2
          exact ⟨⟨k + 1, _, by omega, by go_num, rfl, HT⟩, by simp [intOf]; omega⟩
      · have HE : Hid (A = B) := by
          have hL2 := HL.out
          have := HK.out
          rw [List.take_of_length_le (by omega), List.take_of_length_le (by omega)] at this
          exact this
        go_wp2
        go_ret
        exact ⟨ret_bool (by simp [HE.out]), _, rfl⟩
  · have hne : ((A.length : Int) != (B.length : Int)) = true := by simp; omega
    have HE : Hid (¬ A = B) := fun e => hL (by rw [e])
    clear hL
    go_enter Tryz.func118, Tryz.ntmps118
    go_wp2
    go_ret
    exact ⟨ret_bool (by simp [HE.out]), 0, rfl⟩
end Go.Proofs.YtcbmnihepeefaaaGreatDoor.Recs

/- Trees: the place of a path, comparison of two, of the model. DRAFT (made out of the texts on records; not built yet: no seat had nodes). -/
namespace Go.Proofs.YtcbmnihepeefaaaGreatDoor.Recs
set_option maxRecDepth 100000
open Go.RowKit Paths

theorem NodSl.take {w : World} {A : Option Addr} {cap : Nat} {l : List R} {k : Nat} (h : NodSl w (.slice A l.length cap) l) (hk : k ≤ l.length) : NodSl w (.slice A k cap) (l.take k) := by
  obtain ⟨ho, A', cap', e, hc, h⟩ := h
  cases e
  refine ⟨fun r hr => ho r (List.mem_of_mem_take hr), A, cap, by rw [List.length_take, Nat.min_eq_left hk], by rw [List.length_take]; omega, fun hn => ?_⟩
  rw [List.length_take] at hn
  obtain ⟨b, off, e, hb, hcell⟩ := h (by omega)
  refine ⟨b, off, e, hb, fun j p hj => hcell j p ?_⟩
  rw [List.getElem?_take] at hj
  split at hj
  · exact hj
  · cases hj
set_option maxHeartbeats 400000 in
theorem l04At_any (v : Value) (l : List R) (q : ByteArray) (w : World) (h : NodSl w v l) (hl : l.length ≤ 1048576) :
    Calls Tryz.prog 99 #[v, .string q] w fun e w' => e = .returned (.int .i64 (atL l q)) ∧ w = w' := by
  obtain ⟨_, A, cap, rfl, hcap, h⟩ := h
  have H := Lib.hid h
  clear h
  go_enter Tryz.func99, Tryz.ntmps99
  go_wp2
  go_loop [5] (fun i => ∃ k : Nat, k ≤ l.length ∧ i = .int .i64 k ∧ Hid (atL l q = atFrom (l.drop k) k q)) (fun i => l.length - (intOf i).toNat)
  case atStart => exact ⟨0, by omega, rfl, rfl⟩
  case round =>
    obtain ⟨k, hk, rfl, HK⟩ := hrel
    by_cases hlt : k < l.length
    · obtain ⟨b, off, rfl, hb, hcell⟩ := H.out (by omega)
      obtain ⟨_, hc1, _⟩ := hcell k l[k] (by simp [hlt])
      have HS := Lib.hid (HK.out.trans (atFrom_step hlt q))
      clear hcell HK
      have hi1 : (k : Int) < (l.length : Int) := by omega
      have hi0 : (0 : Int) ≤ (k : Int) := by omega
      rcases Bool.eq_false_or_eq_true (l[k].p.toList == q.toList) with he | he
      · have HE : Hid (atL l q = k) := by show _ = _; rw [HS.out, if_pos (str_eq_of he)]
        go_wp2
        go_ret
        exact ⟨ret_int HE.out.symm, rfl⟩
      · have HE : Hid (atL l q = atFrom (l.drop (k + 1)) (k + 1) q) := by show _ = _; rw [HS.out, if_neg (fun e => by rw [e] at he; simp at he)]
        go_wp2
        exact ⟨⟨k + 1, by omega, by go_num, HE⟩, by simp [intOf]; omega⟩
    · have HE := Lib.hid (HK.out.trans (atFrom_end (by omega) q))
      go_wp2
      go_ret
      exact ⟨ret_int HE.out.symm, rfl⟩

/-- Two nodes are alike, or one field is the first that is not. -/
theorem four (x y : R) : (x.k == y.k) = false ∨ ((x.k == y.k) = true ∧ (x.p.toList == y.p.toList) = false) ∨ ((x.k == y.k) = true ∧ (x.p.toList == y.p.toList) = true ∧ (x.b.toList == y.b.toList) = false) ∨
    ((x.k == y.k) = true ∧ (x.p.toList == y.p.toList) = true ∧ (x.b.toList == y.b.toList) = true ∧ (x.m == y.m) = false) ∨ ((x.k == y.k) = true ∧ (x.p.toList == y.p.toList) = true ∧ (x.b.toList == y.b.toList) = true ∧ (x.m == y.m) = true) := by
  cases (x.k == y.k) <;> cases (x.p.toList == y.p.toList) <;> cases (x.b.toList == y.b.toList) <;> cases (x.m == y.m) <;> simp

end Go.Proofs.YtcbmnihepeefaaaGreatDoor.Recs
