/- Parts of several texts of mine in one file (each begins with its own remark). -/
import Derived.Test.YtciflchaepchiabGreatDoorUA1
import Derived.Test.YtciflchaepchiabGreatDoorUA10
import Derived.Test.YtciflchaepchiabGreatDoorUA12
import Derived.Test.YtciflchaepchiabGreatDoorUA14
import Derived.Test.YtciflchaepchiabGreatDoorUA15
import Derived.Test.YtciflchaepchiabGreatDoorUA16
import Derived.Test.YtciflchaepchiabGreatDoorUA17
import Derived.Test.YtciflchaepchiabGreatDoorUA19
import Derived.Test.YtciflchaepchiabGreatDoorUA2
import Derived.Test.YtciflchaepchiabGreatDoorUA25
import Derived.Test.YtciflchaepchiabGreatDoorUA26
import Derived.Test.YtciflchaepchiabGreatDoorUA3
import Derived.Test.YtciflchaepchiabGreatDoorUA31
import Derived.Test.YtciflchaepchiabGreatDoorUA32
import Derived.Test.YtciflchaepchiabGreatDoorUA4
import Derived.Test.YtciflchaepchiabGreatDoorUA5
import Derived.Test.YtciflchaepchiabGreatDoorUA6
import Derived.Test.YtciflchaepchiabGreatDoorUA7
import Derived.Test.YtciflchaepchiabGreatDoorUA8
import Derived.Test.YtciflchaepchiabGreatDoorUA9
import Derived.Test.YtciflchaepchiabGreatDoorShelf2
import Derived.Test.YtciflchaepchiabGreatDoorChecked
import Derived.Test.YtciflchaepchiabGreatDoorShelf
import Derived.Test.YtciflchaepchiabGreatDoorRows
import Derived.Test.YtciflchaepchiabGreatDoorProg
import Derived.Sort.OwnSorted
import Derived.Deep.RegionHeld3
import Derived.RangeFuncNested
import Derived.RangeFuncBound
import Derived.RangeFuncCalls
import Derived.RangeFuncLeaves
import Derived.RangeFuncBox
import Derived.Shelf.Abstract
import Derived.Shelf.RegionOpen
import Derived.OwnWalkIn
import Derived.TacticsInMore
import Derived.LoopNIn
import Derived.LoopIn
import Derived.Maps.OwnIn
import Derived.Maps.AppendAt
import Derived.Sort.MapsRangeIn
import Derived.Sort.KeysCollected
import Derived.Laws.IdiomRangeMap
import Derived.StillTailTactics
import Derived.Maps.RangeWalk
import Derived.Maps.Ext
import Derived.Lib.SlMapFilter
import Derived.Laws.OwnMore
import Derived.BigQuiet
import Derived.BigRegion
import Derived.Deep.QuietTactic
import Derived.Deep.Slices
import Derived.OpenShut
import Derived.ShutString
import Derived.ChangeArms
import Derived.WideShapes
import Derived.Lib.LaidTab
import Derived.Deep.Draws
import Derived.Deep.LoopGhost
import Derived.WalkKit
import Derived.WalkSpells
import Derived.WalkSmall
import Derived.Lib.OthersKept
import Derived.Lib.Hide
import Derived.Lib.Strings
import Derived.Lib.Join
import Derived.Laws.BytesArg
import Derived.WalkLawsBesides
import Derived.Deep.RegionWith
import Derived.OneCell
import Derived.Lib.SliceRun
import Derived.Lib.Overlaps
import Derived.Lib.AppendZerosOnto
import Derived.Laws.NewBlocks
import Derived.Laws.IdiomCopy
import Derived.Deep.RegionLaw
import Derived.ChangeVars
import Derived.Deep.DeepHandedRow
import Derived.LaidEql
import Derived.Stop.Asserts
import Derived.Below
import Derived.Stop.LaidErr
import Derived.Stop.LaidTwo
import Derived.Sort.Grow
import Derived.Deep.AppendLies
import Derived.Laws.EntriesVeiled
import Derived.Shelf.SlSortCmp.NoneTotal
/- The program's map of paths: its nodes sorted, as a slice of its own. -/
namespace Go.Proofs.YtciflchaepchiabGreatDoor.Recs
set_option maxRecDepth 100000
open Go.RowKit Paths Go.Shelf Go.Sort

/-- A node whose path is one. -/
def PN : Type := { r : R // pathB r.p.data.toList = true }
instance inhPN : Inhabited PN := ⟨⟨⟨1, 0, ⟨#[97]⟩, ⟨#[]⟩, false⟩, by decide⟩⟩
def encN (x : PN) : List Value := x.1.ns
def cfN (x y : PN) : Int := cmpR x.1 y.1
theorem ltN (x y : PN) : ltOf cfN x y = lessR x.1 y.1 := by
  unfold ltOf cfN cmpR lessR
  rw [less_cmp, partsOf_yes x.2, partsOf_yes y.2]
theorem lessP_not (A B C : List (List UInt8)) (h1 : lessP A B = false) (h2 : lessP B C = false) : lessP A C = false := by
  cases hc : lessP A C with
  | false => rfl
  | true =>
    cases hb : lessP C B with
    | true => rw [lessP_trans _ _ _ hc hb] at h1; cases h1
    | false =>
      rw [lessP_total _ _ h2 hb] at h1
      rw [h1] at hc
      cases hc
theorem swoN : Go.Sort.SWO (ltOf cfN) where
  irrefl x := by rw [ltN]; exact lessP_irrefl _
  trans x y z h1 h2 := by rw [ltN] at *; exact lessP_trans _ _ _ h1 h2
  ntrans x y z h1 h2 := by rw [ltN] at *; exact lessP_not _ _ _ h1 h2
theorem cmpLaysN (blk off size : Nat) (w : World) : CmpLays Tryz.prog 187 #[] encN 4 cfN blk off size w := fun _ _ _ _ x y =>
  (treeCmp_any x.1 y.1 _ x.2 y.2).mono fun _ _ ⟨he, hb⟩ => ⟨he, hb.world⟩
theorem flatK_flatN (d : Array PN) : (flatK encN 4 d).toList = flatN (d.toList.map (·.1)) := by
  apply List.ext_getElem?
  intro t
  rw [flatN_get, List.getElem?_map]
  by_cases ht : t < d.size * 4
  · have hq : t / 4 < d.size := by omega
    have h1 : (flatK encN 4 d)[t]? = some ((flatK encN 4 d)[t]!) := by
      rw [getElem!_pos _ t (by simpa using ht)]
      exact Array.getElem?_eq_getElem _
    rw [Array.getElem?_toList, h1, get_flatK _ _ _ t ht, getElem!_pos d _ hq, Array.getElem?_toList, Array.getElem?_eq_getElem hq]
    show _ = (d[t / 4].1).ns[t % 4]?
    have h4 : t % 4 < (d[t / 4].1).ns.length := by show t % 4 < 4; omega
    rw [List.getElem?_eq_getElem h4]
    unfold encN
    rw [getElem!_pos (d[t / 4].1).ns (t % 4) h4]
  · rw [Array.getElem?_toList, Array.getElem?_eq_none (by simpa using ht), Array.getElem?_toList, Array.getElem?_eq_none (by omega)]
    rfl
theorem heap_put {w : World} {g m : Nat} {F cur : Array Value} {e : TypeId} {os : Array Obj} (hb : w.heap[g]? = some (.cells cur e (0, 0))) :
    (Go.Sort.grow (Go.Sort.putRow id (Go.Sort.ahead w m) g 0 F) os).heap[g]? = some (.cells (Go.Sort.putCells id 0 F cur) e (0, 0)) := by
  have hg : g < w.heap.size := (Array.getElem?_eq_some_iff.1 hb).1
  rw [Go.Sort.heap_grow_old _ _ (by simp [Go.Sort.putRow, Go.Sort.mapBlock, Go.Sort.ahead, hg])]
  simp [Go.Sort.putRow, Go.Sort.mapBlock, Go.Sort.ahead, Array.getElem?_modify, hb, Go.Sort.onCells]
theorem grown_put {w : World} {g m : Nat} {F : Array Value} {os : Array Obj} : w.grownBy (Go.Sort.grow (Go.Sort.putRow id (Go.Sort.ahead w m) g 0 F) os) (some g) := by
  refine ⟨rfl, rfl, rfl, by simp, fun k hk hne => ?_⟩
  rw [Go.Sort.heap_grow_old _ _ (by simpa using hk)]
  have : g ≠ k := fun e => hne (by rw [e])
  simp [Go.Sort.putRow, Go.Sort.mapBlock, Go.Sort.ahead, Array.getElem?_modify, this]
theorem take_put_cells (cur F : Array Value) (h : F.size ≤ cur.size) : (Go.Sort.putCells id 0 F cur).toList.take F.size = F.toList := by
  apply List.ext_getElem?
  intro j
  by_cases hj : j < F.size
  · rw [List.getElem?_take_of_lt hj, Array.getElem?_toList]
    simp [Go.Sort.putCells, hj, show j < cur.size by omega]
  · rw [List.getElem?_take_eq_none (by omega), List.getElem?_eq_none (by simpa using hj)]
def mkPN (xs : List R) (h : ∀ x ∈ xs, pathB x.p.data.toList = true) : Array PN := (xs.pmap (fun r hr => (⟨r, hr⟩ : PN)) h).toArray
theorem mkPN_val (xs : List R) (h : ∀ x ∈ xs, pathB x.p.data.toList = true) : (mkPN xs h).toList.map (·.1) = xs := by
  show (xs.pmap (fun r hr => (⟨r, hr⟩ : PN)) h).map (·.1) = xs
  rw [List.map_pmap]
  show xs.pmap (fun r _ => r) h = xs
  rw [List.pmap_eq_map, List.map_id']
theorem mkPN_size (xs : List R) (h : ∀ x ∈ xs, pathB x.p.data.toList = true) : (mkPN xs h).size = xs.length := by
  show (xs.pmap (fun r hr => (⟨r, hr⟩ : PN)) h).toArray.size = _
  rw [List.size_toArray, List.length_pmap]
/-- A sorted permutation of the nodes of a sorted list is that list. -/
theorem sorted_is {t xs : List R} {d' : Array PN} (ht : Sorted t) (hx : AllT t xs) (hp : (d'.toList.map (·.1)).Perm xs) (hs : Go.Sort.SortedIn (ltOf cfN) 0 d'.size d') : d'.toList.map (·.1) = t := by
  have hnd : (d'.toList.map (·.1)).Nodup := hp.nodup_iff.2 hx.1
  refine sorted_ext _ _ ?_ ht (fun x => (hp.mem_iff).trans (hx.2 x))
  unfold Sorted
  rw [List.pairwise_iff_getElem]
  intro i j hi hj hij
  have hi' : i < d'.size := by simpa using hi
  have hj' : j < d'.size := by simpa using hj
  have h1 := hs i j (Nat.zero_le _) hij hj'
  rw [ltN, getElem!_pos d' _ hj', getElem!_pos d' _ hi'] at h1
  have ei : (d'.toList.map (·.1))[i] = d'[i].1 := by simp
  have ej : (d'.toList.map (·.1))[j] = d'[j].1 := by simp
  rw [ei, ej]
  by_cases he : (d'[i].1).p = (d'[j].1).p
  · have m1 : d'[i].1 ∈ t := (hx.2 _).1 (hp.mem_iff.1 (ei ▸ List.getElem_mem hi))
    have m2 : d'[j].1 ∈ t := (hx.2 _).1 (hp.mem_iff.1 (ej ▸ List.getElem_mem hj))
    have h2 := sorted_mem_once ht m1 m2 he
    have h3 := List.pairwise_iff_getElem.1 hnd i j hi hj hij
    rw [ei, ej] at h3
    exact absurd h2 h3
  · rcases less_or he with h | h
    · exact h
    · rw [h1] at h; cases h

set_option maxHeartbeats 1000000 in
theorem sortN_any (g cap : Nat) (xs t : List R) (base : Nat) (w : World) (hrow : w.ownsRow base 84 4 (.slice (some ⟨g, 0, none⟩) xs.length cap) xs.length (flatN xs)) (hx : AllT t xs) (ht : Sorted t) (hp : ∀ x ∈ t, pathB x.p.data.toList = true) (hl : xs.length ≤ 100000) :
    Calls Tryz.prog 202 #[.slice (some ⟨g, 0, none⟩) xs.length cap, .func (.func 187) #[] #[]] w fun e w' =>
      e = .returned (.tuple #[]) ∧ w.grownBy w' (some g) ∧ xs.length = t.length ∧ w'.ownsRow base 84 4 (.slice (some ⟨g, 0, none⟩) xs.length cap) t.length (flatN t) := by
  have hpx : ∀ x ∈ xs, pathB x.p.data.toList = true := fun x hm => hp x ((hx.2 x).1 hm)
  have hd := mkPN_size xs hpx
  have hv := mkPN_val xs hpx
  have hF := flatK_flatN (mkPN xs hpx)
  rw [hv] at hF
  have eg : ∀ args w, (callFunc 187 args).run Tryz.prog w = .ok (.enter 187 args) w := enters_of Tryz.func187 (by kernel_rfl) rfl
  rcases hrow.2 with ⟨h0, _⟩ | ⟨g', cap', cur, hg, hbase, hb, hnc, hcm, hcs, htk⟩
  · cases h0
  cases hg
  have hblk : g < w.heap.size := (Array.getElem?_eq_some_iff.1 hb).1
  have hH : HoldsK encN 4 w g 0 (mkPN xs hpx) := by
    intro j hj
    rw [size_flatK, hd] at hj
    refine ⟨?_, ?_⟩
    · rw [Nat.zero_add, hrow.cellAt j hj, ← hF, Array.getElem?_toList, getElem!_pos _ j (by rw [size_flatK, hd]; exact hj), Array.getElem?_eq_getElem]
      rfl
    · simp [World.frozen?, hb]
  have hcon := AnyQ.slices_SortFunc Tryz.sortN 4 Tryz.isAgg84 Tryz.sizeOf84 encN (fun _ => rfl) (fun x v hv => nodR_one x.1 v hv) cfN swoN 187 #[] g 0 cap (mkPN xs hpx) w eg (cmpLaysN g 0 _ w) hH hblk (by rw [hd]; omega)
  rw [hd] at hcon
  change Calls Tryz.prog 202 _ _ _ at hcon
  refine hcon.mono ?_
  rintro e w' ⟨rfl, d', n, os, hperm, hsort, rfl⟩
  have hds : d'.size = xs.length := by rw [hperm.1, hd]
  have hpm : (d'.toList.map (·.1)).Perm xs := by
    have h := hperm.2.2
    have e1 : d'.extract 0 xs.length = d' := by rw [← hds]; simp
    have e2 : (mkPN xs hpx).extract 0 xs.length = mkPN xs hpx := by rw [← hd]; simp
    rw [e1, e2] at h
    have := h.map (·.1)
    rw [hv] at this
    exact this
  have hyt := sorted_is ht hx hpm (by rw [hds]; exact hsort)
  have hlt : xs.length = t.length := by
    have h := congrArg List.length hyt
    rw [List.length_map, Array.length_toList, hds] at h
    exact h
  refine ⟨rfl, grown_put, hlt, ?_⟩
  have hF' := flatK_flatN d'
  rw [hyt] at hF'
  have hsz : (flatK encN 4 d').size = t.length * 4 := by rw [size_flatK, hds, hlt]
  rw [hlt] at hnc ⊢
  refine ⟨flatN_len t, .inr ⟨g, cap, _, rfl, hbase, heap_put hb, hnc, hcm, by simp [Go.Sort.putCells, hcs], ?_⟩⟩
  rw [← hF', ← hsz]
  exact take_put_cells cur _ (by rw [hsz, hcs]; exact Nat.mul_le_mul_right 4 hnc)
end Go.Proofs.YtciflchaepchiabGreatDoor.Recs

/- Applying layers to trees, of the model: a layer, a stack. -/
namespace Go.Proofs.YtciflchaepchiabGreatDoor.Recs
set_option maxRecDepth 100000
open Go.RowKit Paths

theorem apply_le : ∀ (l t : List R), (applyL l t).length ≤ t.length + l.length
  | [], t => Nat.le_refl _
  | r :: l, t => by
    have h1 := apply_le l (doR t r)
    have h2 := do_le t r
    show (applyL l (doR t r)).length ≤ _
    rw [List.length_cons]
    omega
theorem apply_path : ∀ (l : List R) {t : List R}, (∀ x ∈ l, pathB x.p.data.toList = true) → (∀ x ∈ t, pathB x.p.data.toList = true) → ∀ x ∈ applyL l t, pathB x.p.data.toList = true
  | [], _, _, h => h
  | r :: l, _, hl, h => apply_path l (fun x hx => hl x (List.mem_cons_of_mem _ hx)) (do_path h (hl r List.mem_cons_self))
theorem RowN.down {w : World} {base base' : Nat} {v : Value} {n : Nat} {M : List R} (h : RowN w base v n M) (hb : base' ≤ base) : RowN w base' v n M := ⟨h.1, own_down h.2.1 hb, h.2.2⟩
theorem mem_take_path {l : List R} (h : ∀ x ∈ l, pathB x.p.data.toList = true) (k : Nat) : ∀ x ∈ l.take k, pathB x.p.data.toList = true := fun x hx => h x (List.mem_of_mem_take hx)
theorem all_snoc (s : List (List R)) (t : List R) {k : Nat} (hk : k < s.length) : applyAllL (s.take (k + 1)) t = applyL s[k] (applyAllL (s.take k) t) := by
  unfold applyAllL
  rw [List.take_succ_eq_append_getElem hk, List.foldl_append]
  rfl
theorem all_le (s : List (List R)) (t : List R) (hs : ∀ l ∈ s, l.length ≤ 16) : (applyAllL s t).length ≤ t.length + 16 * s.length := by
  induction s generalizing t with
  | nil => exact Nat.le_refl _
  | cons l s ih =>
    have h1 := ih (applyL l t) (fun l' hl' => hs l' (List.mem_cons_of_mem _ hl'))
    have h2 := apply_le l t
    have h3 := hs l List.mem_cons_self
    show (applyAllL s (applyL l t)).length ≤ _
    rw [List.length_cons]
    omega
theorem row_nil {w : World} {base : Nat} {t : List R} (h : RowN w base (.slice none 0 0) t.length t) : t = [] := by
  have h1 := h.2.1.1
  have h2 := h.2.1.2
  rcases h2 with ⟨_, hn⟩ | ⟨g, cap, cur, e, _⟩
  · exact List.eq_nil_of_length_eq_zero hn
  · cases e
theorem row_cases {w : World} {base : Nat} {v : Value} {t : List R} (h : RowN w base v t.length t) : (v = .slice none 0 0 ∧ t = []) ∨ ∃ g cap, v = .slice (some ⟨g, 0, none⟩) t.length cap ∧ t.length ≤ cap := by
  by_cases hv : v = .slice none 0 0
  · subst hv
    exact .inl ⟨rfl, row_nil h⟩
  · obtain ⟨g, cap, rfl, hc, _⟩ := notnil h hv
    exact .inr ⟨g, cap, rfl, hc⟩
theorem nilN (w : World) (base : Nat) : RowN w base (.slice none 0 0) ([] : List R).length [] := ⟨rfl, World.ownsRow_nil _ _ _ _, fun x hx => by cases hx⟩

set_option maxHeartbeats 4000000 in
theorem l05Apply_any (v u : Value) (l t : List R) (base : Nat) (w : World) (h : RecSl w v l) (ht : RowN w base u t.length t) (hp : ∀ x ∈ l, pathB x.p.data.toList = true) (hs : Sorted t) (htp : ∀ x ∈ t, pathB x.p.data.toList = true) (hl : t.length + l.length ≤ 1000) :
    Calls Tryz.prog 65 #[v, u] w fun e w' => ∃ x, e = .returned x ∧ Below w.heap.size w w' ∧ RowN w' w.heap.size x (applyL l t).length (applyL l t) ∧ x ≠ .slice none 0 0 := by
  obtain ⟨sA, scap, rfl, hcap, h⟩ := h
  have H := Lib.hid h
  have HS := Lib.hid hs
  have HP := Lib.hid hp
  have HTP := Lib.hid htp
  clear h hs hp htp
  obtain ⟨i0, hi, hI0, hI1, hI2⟩ := info_parts nodInfo
  have hE : (w.alloc (.cells #[] 84)).ownsRow w.heap.size 84 4 (.slice (some ⟨w.heap.size, 0, none⟩) 0 0) 0 [] := World.ownsRow_lit w #[] 0 (Nat.le_refl _) (Nat.zero_le _) rfl
  have cE : Below w.heap.size w (w.alloc (.cells #[] 84)) := (Below.refl _ _).alloc (Nat.le_refl _) _
  rcases row_cases ht with ⟨rfl, ht0⟩ | ⟨g, cap, rfl, hgc⟩
  · have HR0 : Hid (RowN (w.alloc (.cells #[] 84)) w.heap.size (.slice (some ⟨w.heap.size, 0, none⟩) 0 0) t.length t ∧ (Value.slice (some ⟨w.heap.size, 0, none⟩) 0 0) ≠ .slice none 0 0) := (by
      show _ ∧ _
      rw [ht0]
      exact ⟨⟨rfl, hE, fun x hx => by cases hx⟩, fun e => by cases e⟩)
    clear ht ht0
    have cS := cE
    go_enter Tryz.func65, Tryz.ntmps65
    go_wp2_with (first
      | (at_builtin; refine wpList_append_own_none rfl _ _ 30 rfl w.heap.size 84 i0 4 Tryz.underlying30 hi _ _ _ rfl hE rfl ?_)
      | go_in)
    go_loopw [1, 5] (fun tv i wr => ∃ k : Nat, k ≤ l.length ∧ i = .int .i64 k ∧ Below w.heap.size w wr ∧ Hid (RowN wr w.heap.size tv (applyL (l.take k) t).length (applyL (l.take k) t) ∧ tv ≠ .slice none 0 0)) (fun _ i _ => l.length - (intOf i).toNat)
    case atStart => exact ⟨0, by omega, rfl, cS, HR0.out⟩
    case round =>
      obtain ⟨k, hk, rfl, hbw, HK⟩ := hrel
      by_cases hlt : k < l.length
      · obtain ⟨b, off, rfl, hb, hcell⟩ := H.out (by omega)
        obtain ⟨c0, c1, c2, c3, c4⟩ := (hcell k l[k] (by simp [hlt])).below hbw hb
        clear hcell
        have hi1 : (k : Int) < (l.length : Int) := by omega
        have hi0 : (0 : Int) ≤ (k : Int) := by omega
        obtain ⟨g2, cap2, rfl, _, _, _, _⟩ := notnil HK.out.1 HK.out.2
        have HLE := Lib.hid (apply_le (l.take k) t)
        have hle : (applyL (l.take k) t).length ≤ 1000 := by
          have h1 := HLE.out
          rw [List.length_take] at h1
          omega
        have HDO := l05Do_any _ (applyL (l.take k) t) l[k] w.heap.size wr HK.out.1 HK.out.2 (apply_sorted _ HS.out) (apply_path _ (mem_take_path HP.out k) HTP.out) (HP.out _ (List.getElem_mem hlt)) hle
        unfold R.val at HDO
        have HSN := Lib.hid (apply_snoc l t hlt)
        go_wp2_with fail
        refine HDO.mono ?_
        rintro e w2 ⟨x, rfl, hb2, hrow2, hx2⟩
        have HR2 := Lib.hid hrow2
        have HX2 := Lib.hid hx2
        clear hrow2 hx2
        go_wp2_with fail
        go_roundw
        case rel => exact ⟨k + 1, by omega, by go_num, hbw.trans (hb2.mono hbw.size), by
          show RowN _ _ _ _ _ ∧ _
          rw [HSN.out]
          exact ⟨HR2.out.down hbw.size, HX2.out⟩⟩
        case measure => simp [intOf]; omega
      · obtain rfl : k = l.length := by omega
        have HK2 := HK.out
        rw [List.take_of_length_le (Nat.le_refl _)] at HK2
        have HK3 := Lib.hid HK2
        clear HK2
        go_wp2
        go_ret
        exact ⟨_, rfl, hbw, HK3.out.1, HK3.out.2⟩
  · have hsrc := src_cells (ht.below cE) 0 t (.inl rfl)
    have hfl := flatN_len t
    have hone := flatN_one t
    have hbz := cE.size
    have HTN := Lib.hid ht
    rw [Nat.zero_mul] at hsrc
    go_enter Tryz.func65, Tryz.ntmps65
    go_wp2_with (first
      | (at_builtin; refine wpList_append_own _ rfl _ _ 30 rfl w.heap.size 84 i0 (.agg #[.int .i64 0, .string ByteArray.empty, .string ByteArray.empty, .int .i64 0]) 4 48 Tryz.underlying30 hi hI0 hI1 hI2 rfl (by decide) _ _ _ rfl hE ⟨g, 0, none⟩ t.length cap (flatN t) rfl hfl hsrc hone (by unfold maxLen; omega) (by omega) hbz ?_; intro v' w9 hown' hgrow9 hnil9; rw [Nat.zero_add, List.nil_append] at hown'; have HR0 : Hid (RowN w9 w.heap.size v' t.length t ∧ v' ≠ .slice none 0 0) := ⟨⟨rfl, hown', HTN.out.2.2⟩, fun e => by have := (hnil9.1 e).1; cases this⟩; have cS := cE.grown hgrow9 hbz (fun j hj => (hE.lt j hj).1); clear hown' hgrow9 hnil9 hsrc hone)
      | go_in)
    go_loopw [1, 5] (fun tv i wr => ∃ k : Nat, k ≤ l.length ∧ i = .int .i64 k ∧ Below w.heap.size w wr ∧ Hid (RowN wr w.heap.size tv (applyL (l.take k) t).length (applyL (l.take k) t) ∧ tv ≠ .slice none 0 0)) (fun _ i _ => l.length - (intOf i).toNat)
    case atStart => exact ⟨0, by omega, rfl, cS, HR0.out⟩
    case round =>
      obtain ⟨k, hk, rfl, hbw, HK⟩ := hrel
      by_cases hlt : k < l.length
      · obtain ⟨b, off, rfl, hb, hcell⟩ := H.out (by omega)
        obtain ⟨c0, c1, c2, c3, c4⟩ := (hcell k l[k] (by simp [hlt])).below hbw hb
        clear hcell
        have hi1 : (k : Int) < (l.length : Int) := by omega
        have hi0 : (0 : Int) ≤ (k : Int) := by omega
        obtain ⟨g2, cap2, rfl, _, _, _, _⟩ := notnil HK.out.1 HK.out.2
        have HLE := Lib.hid (apply_le (l.take k) t)
        have hle : (applyL (l.take k) t).length ≤ 1000 := by
          have h1 := HLE.out
          rw [List.length_take] at h1
          omega
        have HDO := l05Do_any _ (applyL (l.take k) t) l[k] w.heap.size wr HK.out.1 HK.out.2 (apply_sorted _ HS.out) (apply_path _ (mem_take_path HP.out k) HTP.out) (HP.out _ (List.getElem_mem hlt)) hle
        unfold R.val at HDO
        have HSN := Lib.hid (apply_snoc l t hlt)
        go_wp2_with fail
        refine HDO.mono ?_
        rintro e w2 ⟨x, rfl, hb2, hrow2, hx2⟩
        have HR2 := Lib.hid hrow2
        have HX2 := Lib.hid hx2
        clear hrow2 hx2
        go_wp2_with fail
        go_roundw
        case rel => exact ⟨k + 1, by omega, by go_num, hbw.trans (hb2.mono hbw.size), by
          show RowN _ _ _ _ _ ∧ _
          rw [HSN.out]
          exact ⟨HR2.out.down hbw.size, HX2.out⟩⟩
        case measure => simp [intOf]; omega
      · obtain rfl : k = l.length := by omega
        have HK2 := HK.out
        rw [List.take_of_length_le (Nat.le_refl _)] at HK2
        have HK3 := Lib.hid HK2
        clear HK2
        go_wp2
        go_ret
        exact ⟨_, rfl, hbw, HK3.out.1, HK3.out.2⟩

end Go.Proofs.YtciflchaepchiabGreatDoor.Recs

/- The program: layers applied to a tree by its map of paths; the answer in a slice of its own. -/
namespace Go.Proofs.YtciflchaepchiabGreatDoor.Recs
set_option maxRecDepth 100000
open Go.RowKit Paths

theorem collectN_any (Bm b nn : Nat) (t : List R) (w : World) (hBm : Bm < w.heap.size) (hm : w.cell? ⟨Bm, 0, none⟩ = some (.map (some b))) (hM : MapT w b nn t) (hnn : nn ≤ 100000) :
    Calls Tryz.prog 201 #[.func (.func 203) #[] #[.pointer (some ⟨Bm, 0, none⟩)]] w fun e w' =>
      ∃ v xs, e = .returned v ∧ Below w.heap.size w w' ∧ AllT t xs ∧ w'.ownsRow w.heap.size 84 4 v xs.length (flatN xs) := by
  have HC := callsIn_wide.1 (appendSeq_in Fence.wide 6 trivial trivial rfl (by omega) Bm b nn t w hBm hm hM hnn)
  clear hm hM
  go_enter Tryz.func201, Tryz.ntmps201
  go_wp2_with fail
  refine HC.mono ?_
  rintro e w1 ⟨v, xs, rfl, hb1, hx, hrow⟩
  have HX := Lib.hid hx
  have HR := Lib.hid hrow
  clear hx hrow
  go_wp2_with fail
  go_ret
  exact ⟨v, xs, rfl, hb1, HX.out, HR.out⟩

theorem allT_len {t xs : List R} (h : AllT t xs) (ht : t.Nodup) : xs.length = t.length := (List.perm_ext_iff_of_nodup h.1 ht).2 h.2 |>.length_eq
theorem sorted_nodup {t : List R} (h : Sorted t) : t.Nodup := List.Pairwise.imp (fun {a b} (hl : lessR a b = true) => fun e => by
  subst e
  unfold lessR at hl
  rw [lessP_irrefl] at hl
  cases hl) h

set_option maxHeartbeats 1000000 in
theorem sortedN_any (Bm b nn : Nat) (t : List R) (w : World) (hBm : Bm < w.heap.size) (hm : w.cell? ⟨Bm, 0, none⟩ = some (.map (some b))) (hM : MapT w b nn t) (hnn : nn ≤ 100000) (ht : Sorted t) (hp : ∀ x ∈ t, pathB x.p.data.toList = true) (hl : t.length ≤ 100000) :
    Calls Tryz.prog 185 #[.func (.func 203) #[] #[.pointer (some ⟨Bm, 0, none⟩)], .func (.func 187) #[] #[]] w fun e w' =>
      ∃ v, e = .returned v ∧ Below w.heap.size w w' ∧ RowN w' w.heap.size v t.length t := by
  have HC := collectN_any Bm b nn t w hBm hm hM hnn
  have HMO := Lib.hid hM.2
  clear hm hM
  go_enter Tryz.func185, Tryz.ntmps185
  go_wp2_with fail
  refine HC.mono ?_
  rintro e w1 ⟨v, xs, rfl, hb1, hx, hrow⟩
  have hxl := allT_len hx (sorted_nodup ht)
  by_cases hv : v = .slice none 0 0
  · subst hv
    have hx0 : xs = [] := by
      rcases hrow.2 with ⟨_, hn⟩ | ⟨g, cap, cur, e, _⟩
      · exact List.eq_nil_of_length_eq_zero hn
      · cases e
    have HT0 : Hid (t = []) := List.eq_nil_of_length_eq_zero (by rw [← hxl, hx0]; rfl)
    have HN := AnyF.slices_SortFunc_none Tryz.sortN none 0 (.func (.func 187) #[] #[]) w1
    change Calls Tryz.prog 202 _ _ _ at HN
    clear hx hrow hx0 hxl
    go_wp2_with fail
    refine HN.mono ?_
    rintro e w2 ⟨rfl, rfl⟩
    go_wp2_with fail
    go_ret
    exact ⟨_, rfl, hb1, by rw [HT0.out]; exact nilN _ _⟩
  · obtain ⟨g, cap, rfl⟩ : ∃ g cap, v = .slice (some ⟨g, 0, none⟩) xs.length cap := by
      rcases hrow.2 with ⟨e, _⟩ | ⟨g, cap, cur, e, _⟩
      · exact absurd e hv
      · exact ⟨g, cap, e⟩
    have HS := sortN_any g cap xs t w.heap.size w1 hrow hx ht hp (by omega)
    have hgl := (hrow.lt g rfl)
    have HXL := Lib.hid hxl
    clear hx hrow hv hxl
    go_wp2_with fail
    refine HS.mono ?_
    rintro e w2 ⟨rfl, hg2, hlen, hrow2⟩
    have HR2 := Lib.hid hrow2
    have hb2 := hb1.grown hg2 hb1.size (fun k hk => by cases hk; exact hgl.1)
    clear hrow2 hg2 hlen
    go_wp2_with fail
    go_ret
    refine ⟨_, rfl, hb2, rfl, ?_, HMO.out⟩
    have := HR2.out
    rw [HXL.out] at this ⊢
    exact this

set_option maxHeartbeats 1000000 in
theorem mapTree_any (b nn : Nat) (t : List R) (w : World) (hM : MapT w b nn t) (hnn : nn ≤ 100000) (ht : Sorted t) (hp : ∀ x ∈ t, pathB x.p.data.toList = true) (hl : t.length ≤ 100000) :
    Calls Tryz.prog 151 #[.map (some b)] w fun e w' => ∃ v, e = .returned v ∧ Below w.heap.size w w' ∧ RowN w' w.heap.size v t.length t := by
  have hb1 : Below w.heap.size w (w.alloc (.cells #[.map (some b)] 169)) := (Below.refl _ _).alloc (Nat.le_refl _) _
  have HV : Calls Tryz.prog 186 #[.map (some b)] w fun e w' => e = .returned (.func (.func 203) #[] #[.pointer (some ⟨w.heap.size, 0, none⟩)]) ∧ w' = w.alloc (.cells #[.map (some b)] 169) := by
    clear hM ht hp hb1
    go_enter Tryz.func186, Tryz.ntmps186
    go_wp2_with fail
    go_ret
    exact ⟨rfl, rfl⟩
  have HS := sortedN_any w.heap.size b nn t (w.alloc (.cells #[.map (some b)] 169)) (by simp) (cell_one_new w _ _ 0 _ rfl) (hM.below hb1) hnn ht hp hl
  clear hM ht hp
  go_enter Tryz.func151, Tryz.ntmps151
  go_wp2_with fail
  refine HV.mono ?_
  rintro e w1 ⟨rfl, rfl⟩
  generalize w.alloc (.cells #[.map (some b)] 169) = W1 at *
  go_wp2_with fail
  refine HS.mono ?_
  rintro e w2 ⟨v, rfl, hb2, hrow⟩
  have HR := Lib.hid hrow
  clear hrow
  go_wp2_with fail
  go_ret
  exact ⟨v, rfl, hb1.trans (hb2.mono hb1.size), HR.out.down hb1.size⟩
end Go.Proofs.YtciflchaepchiabGreatDoor.Recs

/- The program: layers applied to a tree (afterLayers), and the limit of nodes. -/
namespace Go.Proofs.YtciflchaepchiabGreatDoor.Recs
set_option maxRecDepth 100000
open Go.RowKit Paths

theorem all_tree : ∀ (s : List (List R)) {t : List R}, (∀ l ∈ s, IsLayer l) → IsTree t → IsTree (applyAllL s t)
  | [], _, _, h => h
  | l :: s, _, hs, h => all_tree s (fun l' hl' => hs l' (List.mem_cons_of_mem _ hl')) (apply_tree (hs l List.mem_cons_self) h)

set_option maxHeartbeats 2000000 in
theorem afterLayers_any (v sv : Value) (t : List R) (LL : List (List R)) (w : World) (h : NodSl w v t) (hS : StkSl w sv LL) (hT : IsTree t) (hl : t.length ≤ 1000) (hLL : ∀ l ∈ LL, IsLayer l ∧ l.length ≤ 16) (hn : LL.length ≤ 100) :
    Calls Tryz.prog 101 #[v, sv] w fun e w' => ∃ x, e = .returned x ∧ Below w.heap.size w w' ∧ RowN w' w.heap.size x (applyAllL LL t).length (applyAllL LL t) := by
  have HMT := mapOfTree_any v t w h (by omega) hT.sorted (fun r hr => (by have h35 : r.p.size ≤ 35 := (by rw [Lib.size_eq]; exact pathB_len (hT.path r hr)); unfold maxLen; omega))
  obtain ⟨ho, A, cap, rfl, hcap, _⟩ := h
  obtain ⟨sA, scap, rfl, hscap, hS⟩ := hS
  have H := Lib.hid hS
  have HT := Lib.hid hT
  have HL := Lib.hid hLL
  clear hS hT hLL ho
  go_enter Tryz.func101, Tryz.ntmps101
  go_wp2_with fail
  refine HMT.mono ?_
  rintro e w1 ⟨rfl, hb1, hM1⟩
  have HM1 := Lib.hid hM1
  clear hM1
  go_wp2
  go_loopw [12] (fun i wr => ∃ k : Nat, k ≤ LL.length ∧ i = .int .i64 k ∧ Below w.heap.size w wr ∧ Hid (MapT wr w.heap.size (t.length + 16 * k) (applyAllL (LL.take k) t))) (fun i _ => LL.length - (intOf i).toNat)
  case atStart => exact ⟨0, by omega, rfl, hb1, HM1.out⟩
  case round =>
    obtain ⟨k, hk, rfl, hbw, HK⟩ := hrel
    by_cases hlt : k < LL.length
    · obtain ⟨b, off, rfl, hb, hcell⟩ := H.out (by omega)
      obtain ⟨u1, c1, hu1⟩ := hcell k LL[k] (by simp [hlt])
      have c1' := (hbw.cell (p := ⟨b, off + k, none⟩) hb).trans c1
      have hu2 := hu1.below hbw
      clear hcell c1
      have hi1 : (k : Int) < (LL.length : Int) := by omega
      have hi0 : (0 : Int) ≤ (k : Int) := by omega
      obtain ⟨hly, h16⟩ := HL.out _ (List.getElem_mem hlt)
      have HAP := mapApply_any w.heap.size (t.length + 16 * k) _ u1 LL[k] wr HK.out hu2 (by omega) hly (all_tree _ (fun l hm => (HL.out l (List.mem_of_mem_take hm)).1) HT.out)
      obtain ⟨uA, ucap, rfl, _⟩ := hu1
      have HSN := Lib.hid (all_snoc LL t hlt)
      clear hu2 hly
      go_wp2_with fail
      refine HAP.mono ?_
      rintro e w2 ⟨rfl, hg2, hM2⟩
      have HM2 := Lib.hid hM2
      clear hM2
      go_wp2_with fail
      go_roundw
      case rel => exact ⟨k + 1, by omega, by go_num, hbw.grown hg2 hbw.size (fun j hj => by cases hj; exact Nat.le_refl _), by
        show MapT _ _ _ _
        rw [HSN.out]
        exact HM2.out.mono (by omega)⟩
      case measure => simp [intOf]; omega
    · obtain rfl : k = LL.length := by omega
      have HK2 := HK.out
      rw [List.take_of_length_le (Nat.le_refl _)] at HK2
      have HTR := all_tree LL (fun l hm => (HL.out l hm).1) HT.out
      have hle := all_le LL t (fun l hm => (HL.out l hm).2)
      have HMT := mapTree_any w.heap.size _ _ wr HK2 (by omega) HTR.sorted HTR.path (by omega)
      clear HK2 HTR hle
      go_wp2_with fail
      refine HMT.mono ?_
      rintro e w3 ⟨x, rfl, hb3, hrow⟩
      have HR := Lib.hid hrow
      clear hrow
      go_wp2_with fail
      go_ret
      exact ⟨x, rfl, hbw.trans (hb3.mono hbw.size), HR.out.down hbw.size⟩

/-- What the limit leaves of a list of nodes. -/
def limL (T : List R) : List R := if 24 < T.length then [] else T
def limC (T : List R) : Int := if 24 < T.length then 7 else 0
theorem limitNodes_any (v : Value) (T : List R) (base : Nat) (w : World) (h : RowN w base v T.length T) :
    Calls Tryz.prog 111 #[v] w fun e w' => ∃ x, e = .returned (.tuple #[x, .int .i64 (limC T)]) ∧ w = w' ∧ RowN w base x (limL T).length (limL T) := by
  obtain ⟨vA, vcap, rfl⟩ := own_form h.2.1
  have HR := Lib.hid h
  clear h
  by_cases h24 : 24 < T.length
  · have hd : decide ((24 : Int) < (T.length : Int)) = true := by simp; omega
    have HC : Hid (limC T = 7) := if_pos h24
    have HL : Hid (limL T = []) := if_pos h24
    go_enter Tryz.func111, Tryz.ntmps111
    go_wp2_with fail
    go_ret2
    exact ⟨_, by rw [HC.out]; rfl, rfl, by rw [HL.out]; exact nilN _ _⟩
  · have hd : decide ((24 : Int) < (T.length : Int)) = false := by simp; omega
    have HC : Hid (limC T = 0) := if_neg h24
    have HL : Hid (limL T = T) := if_neg h24
    go_enter Tryz.func111, Tryz.ntmps111
    go_wp2_with fail
    go_ret2
    exact ⟨_, by rw [HC.out]; rfl, rfl, by rw [HL.out]; exact HR.out⟩
end Go.Proofs.YtciflchaepchiabGreatDoor.Recs
