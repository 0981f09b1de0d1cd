/- Parts of several texts of mine in one file (each begins with its own remark). -/
import Derived.Test.YtciflchaepchiabGreatDoorUA1
import Derived.Test.YtciflchaepchiabGreatDoorUA12
import Derived.Test.YtciflchaepchiabGreatDoorUA13
import Derived.Test.YtciflchaepchiabGreatDoorUA2
import Derived.Test.YtciflchaepchiabGreatDoorUA3
import Derived.Test.YtciflchaepchiabGreatDoorUA4
import Derived.Test.YtciflchaepchiabGreatDoorUA5
import Derived.Test.YtciflchaepchiabGreatDoorUA6
import Derived.Test.YtciflchaepchiabGreatDoorChecked
import Derived.OneCell
import Derived.Lib.SliceRun
import Derived.Laws.OwnMore
import Derived.Deep.Slices
import Derived.OpenShut
import Derived.ShutString
import Derived.ChangeArms
import Derived.WideShapes
import Derived.Lib.LaidTab
import Derived.BigQuiet
import Derived.Deep.QuietTactic
import Derived.Deep.RegionHeld3
import Derived.StillTailTactics
import Derived.Deep.Draws
import Derived.Deep.LoopGhost
import Derived.WalkKit
import Derived.WalkSpells
import Derived.WalkSmall
import Derived.Lib.OthersKept
import Derived.Lib.Hide
import Derived.Lib.Strings
import Derived.Lib.Join
import Derived.Laws.BytesArg
import Derived.BigRegion
import Derived.Lib.Overlaps
import Derived.Lib.AppendZerosOnto
import Derived.Laws.NewBlocks
import Derived.Laws.IdiomCopy
import Derived.Deep.RegionLaw
import Derived.Deep.RegionWith
/- A tree in memory: a node put into its place. -/
namespace Go.Proofs.YtciflchaepchiabGreatDoor.Recs
set_option maxRecDepth 100000
open Go.RowKit Paths

section
variable {w w' : World} {base : Nat} {A : ByteArray → Nat} {S : ByteArray → Value} {t : List R} {r x n : R}
theorem brCells_path {s s' : Value} (h : brCells r s = brCells x s') : r.p = x.p := by
  have := congrArg (fun c : Array Value => c[2]?) h
  simpa [brCells] using this
theorem Tr.inj (h : Tr w base A S t) (hr : r ∈ rootR :: t) (hx : x ∈ rootR :: t) (e : A r.p = A x.p) : r.p = x.p := by
  have h1 := h.block r hr
  rw [e, h.block x hx] at h1
  simp only [Option.some.injEq, Obj.cells.injEq, and_true] at h1
  exact (brCells_path h1).symm
theorem own_type {e : TypeId} {v : Value} {m : Nat} {xs : List Value} (h : w.ownsRow base e 1 v m xs) {g : Nat} (hg : v.ownBlock = some g) : ∃ cur, w.heap[g]? = some (.cells cur e (0, 0)) := by
  rcases h.2 with ⟨rfl, _⟩ | ⟨g', cap, cur, rfl, _, hh, _⟩
  · cases hg
  · cases hg; exact ⟨cur, hh⟩
theorem types_two : (176 : TypeId) ≠ 209 := by decide
theorem Tr.apart_row (h : Tr w base A S t) (hr : r ∈ rootR :: t) (hx : x ∈ rootR :: t) : (S x.p).ownBlock ≠ some (A r.p) := fun e => by
  obtain ⟨cur, hc⟩ := own_type (h.row x hx) e
  rw [h.block r hr] at hc
  simp only [Option.some.injEq, Obj.cells.injEq] at hc
  exact types_two hc.2.1.symm
theorem root_mem : rootR ∈ rootR :: t := List.mem_cons_self ..
theorem dom_once (hs : Sorted t) (hp : ∀ r ∈ t, pathB r.p.data.toList = true) (hr : r ∈ rootR :: t) (hx : x ∈ rootR :: t) (e : r.p = x.p) : r = x := by
  rcases List.mem_cons.1 hr with rfl | hr <;> rcases List.mem_cons.1 hx with rfl | hx
  · rfl
  · exact absurd e.symm (path_nonempty (hp x hx))
  · exact absurd e (path_nonempty (hp r hr))
  · exact sorted_mem_once hs hr hx e
theorem dom_new (hn : pathB n.p.data.toList = true) (hnew : recAt t n.p = none) (hr : r ∈ rootR :: t) : r.p ≠ n.p := by
  rcases List.mem_cons.1 hr with rfl | hr
  · exact fun e => path_nonempty hn e.symm
  · exact recAt_none hnew r hr
theorem par_ne (hn : pathB n.p.data.toList = true) : n.p ≠ parO n.p := fun e => by
  by_cases hp : parO n.p = ByteArray.empty
  · exact path_nonempty hn (e.trans hp)
  · have := up_self hn
    rw [ups_of_par hn hp, ← e] at this
    exact this (List.mem_cons_self ..)
theorem kids_new (ht : IsTree t) (hn : pathB n.p.data.toList = true) (hnew : recAt t n.p = none) : kids t n.p = [] := by
  unfold kids
  rw [List.filter_eq_nil_iff]
  intro c hc he
  have he := of_decide_eq_true he
  by_cases hp : parentL c.p.data.toList = []
  · exact path_nonempty hn (he.symm.trans (parO_empty.2 hp))
  · obtain ⟨x, hx, h1, _⟩ := ht.housed c hc hp
    exact recAt_none hnew x hx (h1.trans he)

def putAdr (A : ByteArray → Nat) (q : ByteArray) (a : Nat) : ByteArray → Nat := fun p => if p = q then a else A p
def putSl (S : ByteArray → Value) (x q : ByteArray) (v : Value) : ByteArray → Value := fun p => if p = x then v else if p = q then .slice none 0 0 else S p
theorem ptrs_put {l : List R} (a : Nat) (h : ∀ c ∈ l, c.p ≠ n.p) : ptrs (putAdr A n.p a) l = ptrs A l := by
  unfold ptrs putAdr
  exact List.map_congr_left fun c hc => by rw [if_neg (h c hc)]
theorem setCell_block {cur : Array Value} {e : TypeId} {fz : Nat × Nat} {g : Nat} (h : w.heap[g]? = some (.cells cur e fz)) (j : Nat) (u : Value) : (w.setCell ⟨g, j, none⟩ u).heap[g]? = some (.cells (cur.setIfInBounds j u) e fz) := by
  simp [World.setCell, Array.getElem?_modify, h]

theorem Tr.put {W w9 : World} (h : Tr W base A S t) (ht : IsTree t) (hn : pathB n.p.data.toList = true) (hx : x ∈ rootR :: t) (hxp : x.p = parO n.p) (hnew : recAt t n.p = none) {v' : Value} {a : Nat}
    (ha : W.heap[a]? = some (.cells (brCells n (.slice none 0 0)) 209 (0, 0))) (hab : base ≤ a)
    (hown : w9.ownsRow base 176 1 v' ((kids t x.p).length + 1) ((ptrs A (kids t x.p)).take (placeOf (kids t x.p) n) ++ ptr a :: (ptrs A (kids t x.p)).drop (placeOf (kids t x.p) n)))
    (hgrow : W.grownBy w9 (S x.p).ownBlock) (hwh : v'.ownBlock = (S x.p).ownBlock ∨ v'.ownBlock = some W.heap.size) :
    Tr (w9.setCell ⟨A x.p, 5, none⟩ v') base (putAdr A n.p a) (putSl S x.p n.p v') (putL t n) := by
  have hs := ht.sorted
  have hpath := ht.path
  have hnx : n.p ≠ x.p := by rw [hxp]; exact par_ne hn
  have hdn : ∀ r ∈ rootR :: t, r.p ≠ n.p := fun r hr => dom_new hn hnew hr
  have hA : ∀ r ∈ rootR :: t, putAdr A n.p a r.p = A r.p := fun r hr => if_neg (hdn r hr)
  have hAn : putAdr A n.p a n.p = a := if_pos rfl
  have hSx : putSl S x.p n.p v' x.p = v' := if_pos rfl
  have hSn : putSl S x.p n.p v' n.p = .slice none 0 0 := by unfold putSl; rw [if_neg hnx, if_pos rfl]
  have hS : ∀ r ∈ rootR :: t, r.p ≠ x.p → putSl S x.p n.p v' r.p = S r.p := fun r hr he => by unfold putSl; rw [if_neg he, if_neg (hdn r hr)]
  have hmem : ∀ r, r ∈ rootR :: putL t n → r = n ∨ r ∈ rootR :: t := fun r hr => by
    rcases List.mem_cons.1 hr with rfl | hr
    · exact .inr root_mem
    · rcases mem_put.1 hr with rfl | ⟨h1, _⟩
      · exact .inl rfl
      · exact .inr (List.mem_cons_of_mem _ h1)
  have hax : a ≠ A x.p := fun e => by
    have h1 := h.block x hx
    rw [← e, ha] at h1
    simp only [Option.some.injEq, Obj.cells.injEq, and_true] at h1
    exact hnx (brCells_path h1)
  have hasl : (S x.p).ownBlock ≠ some a := fun e => by
    obtain ⟨cur, hc⟩ := own_type (h.row x hx) e
    rw [ha] at hc
    simp only [Option.some.injEq, Obj.cells.injEq] at hc
    exact types_two hc.2.1.symm
  have hb9 : ∀ r ∈ rootR :: t, w9.heap[A r.p]? = W.heap[A r.p]? := fun r hr => hgrow.block _ (h.lt hr) (fun e => h.apart_row hr hx e.symm)
  have hvx : v'.ownBlock ≠ some (A x.p) := fun e => by
    obtain ⟨cur, hc⟩ := own_type hown e
    rw [hb9 x hx, h.block x hx] at hc
    simp only [Option.some.injEq, Obj.cells.injEq] at hc
    exact types_two hc.2.1.symm
  have hkid : ∀ p, kids (putL t n) p = if parO n.p = p then putL (kids t p) n else kids t p := fun p => kids_put hs hnew p
  refine ⟨fun r hr => ?_, fun r hr => ?_, fun r hr => ?_, fun r hr y hy hne g hg => ?_⟩
  · rcases hmem r hr with rfl | hrt
    · rw [hAn, hSn, Below.heap_setCell _ _ _ _ hax, hgrow.block a (Array.getElem?_eq_some_iff.1 ha).1 (fun e => hasl e.symm)]
      exact ha
    · rw [hA r hrt]
      by_cases he : r.p = x.p
      · obtain rfl := dom_once hs hpath hrt hx he
        rw [hSx]
        have := setCell_block ((hb9 r hrt).trans (h.block r hrt)) 5 v'
        rw [this]
        rfl
      · rw [hS r hrt he, Below.heap_setCell _ _ _ _ (fun e => he (h.inj hrt hx e)), hb9 r hrt]
        exact h.block r hrt
  · rcases hmem r hr with rfl | hrt
    · rw [hAn]; exact hab
    · rw [hA r hrt]; exact h.own r hrt
  · rcases hmem r hr with rfl | hrt
    · rw [hSn, hkid, if_neg (by rw [← hxp]; exact fun e => hnx e.symm), kids_new ht hn hnew]
      exact World.ownsRow_nil _ _ _ _
    · by_cases he : r.p = x.p
      · obtain rfl := dom_once hs hpath hrt hx he
        rw [hSx, hkid, if_pos hxp.symm, put_new (kids_sorted hs _) (recAt_kids hnew)]
        have hk : ∀ c ∈ kids t r.p, c.p ≠ n.p := fun c hc => hdn c (kid_mem hc)
        have e1 : ptrs (putAdr A n.p a) ((kids t r.p).take (placeOf (kids t r.p) n) ++ n :: (kids t r.p).drop (placeOf (kids t r.p) n)) = (ptrs A (kids t r.p)).take (placeOf (kids t r.p) n) ++ ptr a :: (ptrs A (kids t r.p)).drop (placeOf (kids t r.p) n) := by
          have e2 := ptrs_put (A := A) (n := n) (l := (kids t r.p).take (placeOf (kids t r.p) n)) a (fun c hc => hk c (List.mem_of_mem_take hc))
          have e3 := ptrs_put (A := A) (n := n) (l := (kids t r.p).drop (placeOf (kids t r.p) n)) a (fun c hc => hk c (List.mem_of_mem_drop hc))
          unfold ptrs at e2 e3 ⊢
          rw [List.map_append, List.map_cons, e2, e3, hAn, List.map_take, List.map_drop]
        have e4 : ((kids t r.p).take (placeOf (kids t r.p) n) ++ n :: (kids t r.p).drop (placeOf (kids t r.p) n)).length = (kids t r.p).length + 1 := by
          have : placeOf (kids t r.p) n ≤ (kids t r.p).length := by unfold placeOf; exact (List.takeWhile_prefix _).sublist.length_le
          rw [List.length_append, List.length_cons, List.length_take, List.length_drop]
          omega
        rw [e1, e4]
        exact ownsRow_setCell_other hown hvx _
      · rw [hS r hrt he, hkid, if_neg (by rw [← hxp]; exact fun e => he e.symm), ptrs_put a (fun c hc => hdn c (kid_mem hc))]
        have hk := (h.row r hrt).kept hgrow (by
          cases hc : (S r.p).ownBlock with
          | none => exact .inl rfl
          | some g => exact .inr fun e => h.apart r hrt x hx he g hc e.symm)
        exact ownsRow_setCell_other hk (h.apart_row hx hrt) _
  · rcases hmem r hr with rfl | hrt
    · rw [hSn] at hg; cases hg
    · rcases hmem y hy with rfl | hyt
      · rw [hSn]; intro e; cases e
      · by_cases her : r.p = x.p
        · have hey : y.p ≠ x.p := fun e => hne (her.trans e.symm)
          rw [her, hSx] at hg
          rw [hS y hyt hey]
          rcases hwh with h1 | h1
          · rw [h1] at hg
            exact h.apart x hx y hyt (fun e => hey e.symm) g hg
          · rw [h1] at hg
            cases hg
            intro e
            have := ((h.row y hyt).lt _ e).2
            omega
        · rw [hS r hrt her] at hg
          by_cases hey : y.p = x.p
          · rw [hey, hSx]
            rcases hwh with h1 | h1
            · rw [h1]
              exact h.apart r hrt x hx her g hg
            · rw [h1]
              intro e
              cases e
              have := ((h.row r hrt).lt _ hg).2
              omega
          · rw [hS y hyt hey]
            exact h.apart r hrt y hyt hne g hg
end
end Go.Proofs.YtciflchaepchiabGreatDoor.Recs

/- Nodes: opening one and a slice of them; the laws' own size, copy and comparison of a node. A node is a record of which Opaque is false. -/
namespace Go.Proofs.YtciflchaepchiabGreatDoor.Recs
set_option maxRecDepth 100000
open Go.RowKit Paths Go.WideShapes Go.ChangeShapes

/-- A node's value. -/
def R.nod (r : R) : Value := .agg #[.int .i64 r.k, .string r.p, .string r.b, .int .i64 r.m]
section
variable {H : Type} {enc : TypeId × Value → H} {w : World} {base : Nat} {spare : Nat → Bool} {held : Bool}
end

/-- The four cells of a node, from a place on; it hides nothing. -/
def NodCells (w : World) (b off : Nat) (r : R) : Prop :=
  w.cell? ⟨b, off, none⟩ = some (.int .i64 r.k) ∧ w.cell? ⟨b, off + 1, none⟩ = some (.string r.p) ∧ w.cell? ⟨b, off + 2, none⟩ = some (.string r.b) ∧ w.cell? ⟨b, off + 3, none⟩ = some (.int .i64 r.m)
theorem NodCells.below {w w' : World} {B b off : Nat} {r : R} (h : NodCells w b off r) (hb : Below B w w') (hB : b < B) : NodCells w' b off r := by
  obtain ⟨h0, h1, h2, h3⟩ := h
  exact ⟨(hb.cell (p := ⟨b, off, none⟩) hB).trans h0, (hb.cell (p := ⟨b, off + 1, none⟩) hB).trans h1, (hb.cell (p := ⟨b, off + 2, none⟩) hB).trans h2, (hb.cell (p := ⟨b, off + 3, none⟩) hB).trans h3⟩
/-- A slice that reads as the nodes L, wherever it lies. -/
def NodSl (w : World) (v : Value) (L : List R) : Prop :=
  (∀ r ∈ L, r.o = false) ∧ ∃ A cap, v = .slice A L.length cap ∧ L.length ≤ cap ∧ (0 < L.length → ∃ b off, A = some ⟨b, off, none⟩ ∧ b < w.heap.size ∧ ∀ i r, L[i]? = some r → NodCells w b (off + i * 4) r)
theorem NodSl.below {w w' : World} {v : Value} {L : List R} (h : NodSl w v L) (hb : Below w.heap.size w w') : NodSl w' v L := by
  obtain ⟨ho, A, cap, rfl, hc, h⟩ := h
  refine ⟨ho, A, cap, rfl, hc, fun hn => ?_⟩
  obtain ⟨b, off, rfl, hlt, hcell⟩ := h hn
  exact ⟨b, off, rfl, Nat.lt_of_lt_of_le hlt hb.size, fun i r hi => (hcell i r hi).below hb hlt⟩

section
variable {H : Type} {enc : TypeId × Value → H} {w : World} {base : Nat} {spare : Nat → Bool} {held : Bool}

end
end Go.Proofs.YtciflchaepchiabGreatDoor.Recs

/- A tree in memory: attach, of the program. -/
namespace Go.Proofs.YtciflchaepchiabGreatDoor.Recs
set_option maxRecDepth 100000
open Go.RowKit Paths

theorem last_cell {q : ByteArray} (h : 0 < (cutAt 47 q.data.toList).length) : strV ((cutAt 47 q.data.toList)[(cutAt 47 q.data.toList).length - 1]'(by omega)) = .string (lastB q) := by
  unfold strV lastB
  rw [List.getLast_eq_getElem]
/-- Which of those directly below are less than a new one. -/
theorem kid_less {t : List R} (ht : IsTree t) {n c : R} (hn : pathB n.p.data.toList = true) (hc : c ∈ kids t (parO n.p)) : lessR c n = Op.bytesLess (lastB c.p).toList (lastB n.p).toList := by
  obtain ⟨h1, h2⟩ := mem_kids.1 hc
  unfold lessR
  rw [less_kid (ht.path c h1) hn h2, Lib.toList_data, Lib.toList_data]
theorem nod_cells_new (w : World) (r : R) : NodCells (w.alloc (.cells #[.int .i64 r.k, .string r.p, .string r.b, .int .i64 r.m] 84)) w.heap.size 0 r := by
  refine ⟨?_, ?_, ?_, ?_⟩ <;> simp
theorem ptrs_one (A : ByteArray → Nat) (l : List R) : ∀ u ∈ ptrs A l, u.oneCell' = true := by
  intro u hu
  unfold ptrs at hu
  obtain ⟨c, _, rfl⟩ := List.mem_map.1 hu
  rfl
theorem place_le (l : List R) (n : R) : placeOf l n ≤ l.length := by unfold placeOf; exact (List.takeWhile_prefix _).sublist.length_le

/-- What attach leaves: the tree with the node, nothing below base turned. -/
def AttPost (base : Nat) (A : ByteArray → Nat) (t : List R) (n : R) (w : World) (e : Ending) (w' : World) : Prop :=
  (∃ v, e = .returned v) ∧ ∃ A' S', Tr w' base A' S' (putL t n) ∧ Below base w w' ∧ A' ByteArray.empty = A ByteArray.empty

set_option maxHeartbeats 4000000 in
theorem attach_any {w : World} {base : Nat} {A : ByteArray → Nat} {S : ByteArray → Value} {t : List R} {x n : R} (h : Tr w base A S t) (ht : IsTree t) (hl : t.length ≤ 1000) (hn : pathB n.p.data.toList = true) (hns : n.p.size ≤ maxLen) (hx : x ∈ rootR :: t) (hxp : x.p = parO n.p) (hnew : recAt t n.p = none) :
    Calls Tryz.prog 195 #[ptr (A x.p), n.nod] w (AttPost base A t n w) := by
  have hb0 : Below w.heap.size w (w.alloc (.cells #[.int .i64 n.k, .string n.p, .string n.b, .int .i64 n.m] 84)) := (Below.refl _ _).alloc (Nat.le_refl _) _
  have hnc := nod_cells_new w n
  have hwb : base ≤ w.heap.size := Nat.le_of_lt (Nat.lt_of_le_of_lt (h.own _ root_mem) (h.lt root_mem))
  unfold ptr R.nod
  have HT := Lib.hid h
  have HTT := Lib.hid ht
  have HX := Lib.hid hx
  have HXP := Lib.hid hxp
  have HNW := Lib.hid hnew
  clear h ht hx hxp hnew
  go_enter Tryz.func195, Tryz.ntmps195
  go_wp2_with fail
  refine (splitPath_any n.p _ hns).mono ?_
  rintro e w1 ⟨v, rfl, hb1, ho, -, hnn⟩
  rw [partsOf_yes hn] at ho
  have hv := part_sl ho
  obtain ⟨g, pcap, rfl, hgl, hpc, hpm⟩ := own_some ho (hnn hn)
  obtain ⟨_, _, e1, _, hpv0⟩ := hv
  cases e1
  have hN4 := (pathB_parts hn).1
  have hN1 := cutAt_pos 47 n.p.data.toList
  obtain ⟨g', e2, _, hpv⟩ := hpv0 (by omega)
  cases e2
  have cL := hpv ((cutAt 47 n.p.data.toList).length - 1) (by omega)
  rw [last_cell (by omega)] at cL
  clear hpv ho hnn hpv0
  generalize hN : (cutAt 47 n.p.data.toList).length = N at *
  obtain ⟨n0, n1, n2, n3⟩ := hnc.below hb1 (by simp)
  have c1 := hb0.trans (hb1.mono hb0.size)
  have hT1 := HT.out.below c1
  obtain ⟨_, _, _, _, _, c5⟩ := hT1.cells HX.out
  obtain ⟨sA, cap, hS, hcap, hk⟩ := hT1.kid HX.out
  have hf5 := hT1.frozen HX.out 5
  have HS := Lib.hid hS
  rw [hS] at c5
  have hkl : (kids t x.p).length ≤ 1000 := Nat.le_trans (List.length_filter_le _ _) hl
  have HM : Hid (∀ i (hi : i < (kids t x.p).length), w1.cell? ⟨A (kids t x.p)[i].p, 0, none⟩ = some (.string (lastB (kids t x.p)[i].p))) := fun i hi => (hT1.cells (kid_mem (List.getElem_mem hi))).1
  have HL : Hid (∀ i (hi : i < (kids t x.p).length), lessR (kids t x.p)[i] n = Op.bytesLess (lastB (kids t x.p)[i].p).toList (lastB n.p).toList) := fun i hi => kid_less HTT.out hn (by rw [← HXP.out]; exact List.getElem_mem hi)
  have hpl := place_le (kids t x.p) n
  have HPL : Hid (∀ k, k < placeOf (kids t x.p) n → ∃ h : k < (kids t x.p).length, lessR (kids t x.p)[k] n = true) := fun k hk => place_less hk
  have HPS : Hid (∀ h : placeOf (kids t x.p) n < (kids t x.p).length, lessR (kids t x.p)[placeOf (kids t x.p) n] n = false) := fun h => place_stop h
  have HT1 := Lib.hid hT1
  have H := Lib.hid hk
  have hw1 : IntKind.i64.wrap ((N : Int) - 1) = ((N - 1 : Nat) : Int) := by rw [IntKind.wrap_i64]; omega
  have hi9 : ((N - 1 : Nat) : Int) < (N : Int) := by omega
  clear hk hT1 hS hpm
  generalize hQ : placeOf (kids t x.p) n = Q at *
  generalize hK : kids t x.p = K at *
  generalize hAx : A x.p = a at *
  go_wp2_with fail
  go_loop [6] (fun i => ∃ k : Nat, k ≤ Q ∧ i = .int .i64 k) (fun i => Q - (intOf i).toNat)
  case atStart => exact ⟨0, by omega, rfl⟩
  case round =>
    obtain ⟨k, hk, rfl⟩ := hrel
    by_cases hlt : k < Q
    · obtain ⟨hkK, hless⟩ := HPL.out k hlt
      rw [HL.out k hkK] at hless
      obtain ⟨g', rfl, hg', hcell⟩ := H.out (by omega)
      have d1 := hcell k hkK
      have d2 := HM.out k hkK
      unfold ptr at d1
      have hi1 : (k : Int) < (K.length : Int) := by omega
      have hi0 : (0 : Int) ≤ (k : Int) := by omega
      clear hcell
      go_wp2_with fail
      exact ⟨⟨k + 1, by omega, by go_num⟩, by simp [intOf]; omega⟩
    · obtain rfl : k = Q := by omega
      have hbW2 : Below w1.heap.size w1 ((w1.drew.alloc (.cells #[.string (lastB n.p), .int .i64 n.k, .string n.p, .string n.b, .int .i64 n.m, .slice none 0 0] 209)).alloc (.cells #[.pointer (some ⟨w1.heap.size, 0, none⟩)] 176)) :=
        ((Below.refl _ _).drew.alloc (Nat.le_refl _) _).alloc (by simp) _
      have hbr : ((w1.drew.alloc (.cells #[.string (lastB n.p), .int .i64 n.k, .string n.p, .string n.b, .int .i64 n.m, .slice none 0 0] 209)).alloc (.cells #[.pointer (some ⟨w1.heap.size, 0, none⟩)] 176)).heap[w1.heap.size]? = some (.cells (brCells n (.slice none 0 0)) 209 (0, 0)) :=
        (Below.heap_alloc _ _ _ (by simp)).trans (alloc_at w1.drew _)
      have hvr : ((w1.drew.alloc (.cells #[.string (lastB n.p), .int .i64 n.k, .string n.p, .string n.b, .int .i64 n.m, .slice none 0 0] 209)).alloc (.cells #[.pointer (some ⟨w1.heap.size, 0, none⟩)] 176)).heap[w1.heap.size + 1]? = some (.cells #[ptr w1.heap.size] 176 (0, 0)) := by
        have := alloc_at (w1.drew.alloc (.cells #[.string (lastB n.p), .int .i64 n.k, .string n.p, .string n.b, .int .i64 n.m, .slice none 0 0] 209)) (.cells #[.pointer (some ⟨w1.heap.size, 0, none⟩)] 176)
        rw [World.size_alloc, World.size_drew] at this
        exact this
      have hT2 := HT1.out.below hbW2
      have hown2 := hT2.row x HX.out
      have hsx := (HT1.out.row x HX.out).lt
      rw [hK, HS.out] at hown2
      rw [HS.out] at hsx
      have HC := insert_any base (.slice sA K.length cap) K.length k (ptrs A K) (w1.heap.size + 1) (ptr w1.heap.size) _ hown2 hpl hkl hvr (fun e => by have := (hsx _ e).2; omega) rfl (ptrs_one A K) (Nat.le_trans hwb (Nat.le_trans c1.size hbW2.size))
      have HFIN : Hid (∀ (e : Ending) (w9 : World) (v' : Value), (∃ v, e = .returned v) → w9.ownsRow base 176 1 v' (K.length + 1) ((ptrs A K).take k ++ ptr w1.heap.size :: (ptrs A K).drop k) →
          ((w1.drew.alloc (.cells #[.string (lastB n.p), .int .i64 n.k, .string n.p, .string n.b, .int .i64 n.m, .slice none 0 0] 209)).alloc (.cells #[.pointer (some ⟨w1.heap.size, 0, none⟩)] 176)).grownBy w9 (Value.slice sA K.length cap).ownBlock →
          (v'.ownBlock = (Value.slice sA K.length cap).ownBlock ∨ v'.ownBlock = some ((w1.drew.alloc (.cells #[.string (lastB n.p), .int .i64 n.k, .string n.p, .string n.b, .int .i64 n.m, .slice none 0 0] 209)).alloc (.cells #[.pointer (some ⟨w1.heap.size, 0, none⟩)] 176)).heap.size) →
          AttPost base A t n w e (w9.setCell ⟨a, 5, none⟩ v')) := by
        intro e w9 v' he ho9 hg9 hw9
        rw [← HS.out] at hg9 hw9
        have hcb : Below base w w9 := (((c1.mono hwb).trans (hbW2.mono (Nat.le_trans hwb c1.size)))).grown hg9 (Nat.le_trans hwb (Nat.le_trans c1.size hbW2.size)) (fun j hj => ((HT1.out.row x HX.out).lt j hj).1)
        refine ⟨he, _, _, hAx ▸ Tr.put hT2 HTT.out hn HX.out HXP.out HNW.out hbr (Nat.le_trans hwb c1.size) (by rw [hK, hQ]; exact ho9) hg9 hw9, hcb.setCell (by rw [← hAx]; exact HT1.out.own x HX.out) _, ?_⟩
        exact if_neg (fun e => path_nonempty hn e.symm)
      have HA9 : Hid (∀ w9 : World, ((w1.drew.alloc (.cells #[.string (lastB n.p), .int .i64 n.k, .string n.p, .string n.b, .int .i64 n.m, .slice none 0 0] 209)).alloc (.cells #[.pointer (some ⟨w1.heap.size, 0, none⟩)] 176)).grownBy w9 (Value.slice sA K.length cap).ownBlock →
          w9.cell? ⟨a, 5, none⟩ = some (.slice sA K.length cap) ∧ w9.frozen? ⟨a, 5, none⟩ = false ∧ w9.cell? ⟨w.heap.size, 0, none⟩ = some (.int .i64 n.k) ∧ w9.cell? ⟨w.heap.size, 1, none⟩ = some (.string n.p) ∧ w9.cell? ⟨w.heap.size, 2, none⟩ = some (.string n.b) ∧ w9.cell? ⟨w.heap.size, 3, none⟩ = some (.int .i64 n.m)) := by
        intro w9 hg9
        rw [← HS.out] at hg9
        have hws : w.heap.size < w1.heap.size := by have := hb1.size; simp at this; omega
        have ew := hg9.block w.heap.size (Nat.lt_of_lt_of_le hws hbW2.size) (fun e => by have := ((HT.out.row x HX.out).lt _ e.symm).2; omega)
        rw [hbW2.block _ hws] at ew
        have m0 := (World.cell?_of_block (a := ⟨w.heap.size, 0, none⟩) ew).trans n0
        have m1 := (World.cell?_of_block (a := ⟨w.heap.size, 1, none⟩) ew).trans n1
        have m2 := (World.cell?_of_block (a := ⟨w.heap.size, 2, none⟩) ew).trans n2
        have m3 := (World.cell?_of_block (a := ⟨w.heap.size, 3, none⟩) ew).trans n3
        have e9 := hg9.block (A x.p) (hT2.lt HX.out) (fun e => hT2.apart_row HX.out HX.out e.symm)
        rw [hAx] at e9
        have c9 := hT2.cells HX.out
        have f9 := hT2.frozen HX.out 5
        rw [hAx, HS.out] at c9
        rw [hAx] at f9
        exact ⟨(World.cell?_of_block (a := ⟨a, 5, none⟩) e9).trans c9.2.2.2.2.2, (World.frozen?_of_block (a := ⟨a, 5, none⟩) e9).trans f9, m0, m1, m2, m3⟩
      unfold ptr at HC
      have hal : a < w1.heap.size := by rw [← hAx]; exact HT1.out.lt HX.out
      have hane : ¬ a = w1.heap.size := by omega
      have hane' : ¬ a = w1.heap.size + 1 := by omega
      have f1 : (w1.drew.alloc (.cells #[.string (lastB n.p), .int .i64 n.k, .string n.p, .string n.b, .int .i64 n.m, .slice none 0 0] 209)).cell? ⟨a, 5, none⟩ = some (.slice sA K.length cap) := (World.cell?_alloc_lt _ _ _ hal).trans c5
      have f2 := (hbW2.cell (p := ⟨a, 5, none⟩) hal).trans c5
      clear hown2 hvr hbr hT2 hsx
      by_cases hkK : k < K.length
      · have hless := HPS.out hkK
        rw [HL.out k hkK] at hless
        obtain ⟨g', rfl, hg', hcell⟩ := H.out (by omega)
        have d1 := hcell k hkK
        have d2 := HM.out k hkK
        unfold ptr at d1
        have hi1 : (k : Int) < (K.length : Int) := by omega
        have hi0 : (0 : Int) ≤ (k : Int) := by omega
        clear hcell
        go_wp2_with fail
        clear hbW2 c1 hb1 hb0 hcap HPL HPS HM HL H d1 d2 hless hi1 hi0 hi9 hw1
        go_region_with (first | (go_at_call 206; refine HC.mono ?_; rintro e w9 ⟨v', rfl, ho9, hg9, hw9⟩; have HF9 := Lib.hid (HFIN.out (.returned (.tuple #[])) w9 v' ⟨_, rfl⟩ ho9 hg9 hw9); obtain ⟨hc9, hf9, m0, m1, m2, m3⟩ := HA9.out w9 hg9; obtain ⟨vA, vc, rfl⟩ := own_form ho9; clear ho9 hg9 hw9))
        all_goals (go_wp2; go_end0; exact HF9.out)
      · have hkK' : k = K.length := by omega
        subst hkK'
        have hi1 : ¬ ((K.length : Int) < (K.length : Int)) := by omega
        go_wp2_with fail
        clear hbW2 c1 hb1 hb0 hcap HPL HPS HM HL H hi1 hi9 hw1
        go_region_with (first | (go_at_call 206; refine HC.mono ?_; rintro e w9 ⟨v', rfl, ho9, hg9, hw9⟩; have HF9 := Lib.hid (HFIN.out (.returned (.tuple #[])) w9 v' ⟨_, rfl⟩ ho9 hg9 hw9); obtain ⟨hc9, hf9, m0, m1, m2, m3⟩ := HA9.out w9 hg9; obtain ⟨vA, vc, rfl⟩ := own_form ho9; clear ho9 hg9 hw9))
        all_goals (go_wp2; go_end0; exact HF9.out)
end Go.Proofs.YtciflchaepchiabGreatDoor.Recs
