/- Parts of several texts of mine in one file (each begins with its own remark). -/
import Derived.Test.YtibekkfbpmloiabGreatDoorHA1
import Derived.Test.YtibekkfbpmloiabGreatDoorHA12
import Derived.Test.YtibekkfbpmloiabGreatDoorHA15
import Derived.Test.YtibekkfbpmloiabGreatDoorHA2
import Derived.Test.YtibekkfbpmloiabGreatDoorHA3
import Derived.Test.YtibekkfbpmloiabGreatDoorHA4
import Derived.Test.YtibekkfbpmloiabGreatDoorHA5
import Derived.Test.YtibekkfbpmloiabGreatDoorHA6
import Derived.Test.YtibekkfbpmloiabGreatDoorChecked
import Derived.Test.YtibekkfbpmloiabGreatDoorRows
import Derived.Test.YtibekkfbpmloiabGreatDoorProg
import Derived.Test.YtibekkfbpmloiabGreatDoorShelf
import Derived.OneCell
import Derived.Lib.SliceRun
import Derived.Laws.OwnMore
import Derived.Deep.Slices
import Derived.OpenShut
import Derived.ShutString
import Derived.ChangeArms
import Derived.WideShapes
import Derived.Lib.LaidTab
import Derived.BigQuiet
import Derived.Deep.QuietTactic
import Derived.Deep.RegionHeld3
import Derived.StillTailTactics
import Derived.Deep.Draws
import Derived.Deep.LoopGhost
import Derived.WalkKit
import Derived.WalkSpells
import Derived.WalkSmall
import Derived.Lib.OthersKept
import Derived.Lib.Hide
import Derived.Lib.Strings
import Derived.Lib.Join
import Derived.Laws.BytesArg
import Derived.BigRegion
import Derived.Lib.Overlaps
import Derived.Lib.AppendZerosOnto
import Derived.Laws.NewBlocks
import Derived.Laws.IdiomCopy
import Derived.Deep.RegionLaw
import Derived.Deep.RegionWith
import Derived.ChangeVars
import Derived.Deep.DeepHandedRow
import Derived.LaidEql
import Derived.Stop.Asserts
import Derived.Below
import Derived.Stop.LaidErr
import Derived.Stop.LaidTwo
import Derived.WalkLawsBesides
/- A tree in memory: a node put into its place. -/
namespace Go.Proofs.YtibekkfbpmloiabGreatDoor.Recs
set_option maxRecDepth 100000
open Go.RowKit Paths

section
variable {w w' : World} {base : Nat} {A : ByteArray → Nat} {S : ByteArray → Value} {t : List R} {r x n : R}
theorem brCells_path {s s' : Value} (h : brCells r s = brCells x s') : r.p = x.p := by
  have := congrArg (fun c : Array Value => c[2]?) h
  simpa [brCells] using this
theorem Tr.inj (h : Tr w base A S t) (hr : r ∈ rootR :: t) (hx : x ∈ rootR :: t) (e : A r.p = A x.p) : r.p = x.p := by
  have h1 := h.block r hr
  rw [e, h.block x hx] at h1
  simp only [Option.some.injEq, Obj.cells.injEq, and_true] at h1
  exact (brCells_path h1).symm
theorem own_type {e : TypeId} {v : Value} {m : Nat} {xs : List Value} (h : w.ownsRow base e 1 v m xs) {g : Nat} (hg : v.ownBlock = some g) : ∃ cur, w.heap[g]? = some (.cells cur e (0, 0)) := by
  rcases h.2 with ⟨rfl, _⟩ | ⟨g', cap, cur, rfl, _, hh, _⟩
  · cases hg
  · cases hg; exact ⟨cur, hh⟩
theorem types_two : (146 : TypeId) ≠ 197 := by decide
theorem Tr.apart_row (h : Tr w base A S t) (hr : r ∈ rootR :: t) (hx : x ∈ rootR :: t) : (S x.p).ownBlock ≠ some (A r.p) := fun e => by
  obtain ⟨cur, hc⟩ := own_type (h.row x hx) e
  rw [h.block r hr] at hc
  simp only [Option.some.injEq, Obj.cells.injEq] at hc
  exact types_two hc.2.1.symm
theorem root_mem : rootR ∈ rootR :: t := List.mem_cons_self ..
theorem dom_once (hs : Sorted t) (hp : ∀ r ∈ t, pathB r.p.data.toList = true) (hr : r ∈ rootR :: t) (hx : x ∈ rootR :: t) (e : r.p = x.p) : r = x := by
  rcases List.mem_cons.1 hr with rfl | hr <;> rcases List.mem_cons.1 hx with rfl | hx
  · rfl
  · exact absurd e.symm (path_nonempty (hp x hx))
  · exact absurd e (path_nonempty (hp r hr))
  · exact sorted_mem_once hs hr hx e
theorem dom_new (hn : pathB n.p.data.toList = true) (hnew : recAt t n.p = none) (hr : r ∈ rootR :: t) : r.p ≠ n.p := by
  rcases List.mem_cons.1 hr with rfl | hr
  · exact fun e => path_nonempty hn e.symm
  · exact recAt_none hnew r hr
theorem par_ne (hn : pathB n.p.data.toList = true) : n.p ≠ parO n.p := fun e => by
  by_cases hp : parO n.p = ByteArray.empty
  · exact path_nonempty hn (e.trans hp)
  · have := up_self hn
    rw [ups_of_par hn hp, ← e] at this
    exact this (List.mem_cons_self ..)
theorem kids_new (ht : IsTree t) (hn : pathB n.p.data.toList = true) (hnew : recAt t n.p = none) : kids t n.p = [] := by
  unfold kids
  rw [List.filter_eq_nil_iff]
  intro c hc he
  have he := of_decide_eq_true he
  by_cases hp : parentL c.p.data.toList = []
  · exact path_nonempty hn (he.symm.trans (parO_empty.2 hp))
  · obtain ⟨x, hx, h1, _⟩ := ht.housed c hc hp
    exact recAt_none hnew x hx (h1.trans he)

def putAdr (A : ByteArray → Nat) (q : ByteArray) (a : Nat) : ByteArray → Nat := fun p => if p = q then a else A p
def putSl (S : ByteArray → Value) (x q : ByteArray) (v : Value) : ByteArray → Value := fun p => if p = x then v else if p = q then .slice none 0 0 else S p
theorem ptrs_put {l : List R} (a : Nat) (h : ∀ c ∈ l, c.p ≠ n.p) : ptrs (putAdr A n.p a) l = ptrs A l := by
  unfold ptrs putAdr
  exact List.map_congr_left fun c hc => by rw [if_neg (h c hc)]
theorem setCell_block {cur : Array Value} {e : TypeId} {fz : Nat × Nat} {g : Nat} (h : w.heap[g]? = some (.cells cur e fz)) (j : Nat) (u : Value) : (w.setCell ⟨g, j, none⟩ u).heap[g]? = some (.cells (cur.setIfInBounds j u) e fz) := by
  simp [World.setCell, Array.getElem?_modify, h]

theorem Tr.put {W w9 : World} (h : Tr W base A S t) (ht : IsTree t) (hn : pathB n.p.data.toList = true) (hx : x ∈ rootR :: t) (hxp : x.p = parO n.p) (hnew : recAt t n.p = none) {v' : Value} {a : Nat}
    (ha : W.heap[a]? = some (.cells (brCells n (.slice none 0 0)) 197 (0, 0))) (hab : base ≤ a)
    (hown : w9.ownsRow base 146 1 v' ((kids t x.p).length + 1) ((ptrs A (kids t x.p)).take (placeOf (kids t x.p) n) ++ ptr a :: (ptrs A (kids t x.p)).drop (placeOf (kids t x.p) n)))
    (hgrow : W.grownBy w9 (S x.p).ownBlock) (hwh : v'.ownBlock = (S x.p).ownBlock ∨ v'.ownBlock = some W.heap.size) :
    Tr (w9.setCell ⟨A x.p, 5, none⟩ v') base (putAdr A n.p a) (putSl S x.p n.p v') (putL t n) := by
  have hs := ht.sorted
  have hpath := ht.path
  have hnx : n.p ≠ x.p := by rw [hxp]; exact par_ne hn
  have hdn : ∀ r ∈ rootR :: t, r.p ≠ n.p := fun r hr => dom_new hn hnew hr
  have hA : ∀ r ∈ rootR :: t, putAdr A n.p a r.p = A r.p := fun r hr => if_neg (hdn r hr)
  have hAn : putAdr A n.p a n.p = a := if_pos rfl
  have hSx : putSl S x.p n.p v' x.p = v' := if_pos rfl
  have hSn : putSl S x.p n.p v' n.p = .slice none 0 0 := by unfold putSl; rw [if_neg hnx, if_pos rfl]
  have hS : ∀ r ∈ rootR :: t, r.p ≠ x.p → putSl S x.p n.p v' r.p = S r.p := fun r hr he => by unfold putSl; rw [if_neg he, if_neg (hdn r hr)]
  have hmem : ∀ r, r ∈ rootR :: putL t n → r = n ∨ r ∈ rootR :: t := fun r hr => by
    rcases List.mem_cons.1 hr with rfl | hr
    · exact .inr root_mem
    · rcases mem_put.1 hr with rfl | ⟨h1, _⟩
      · exact .inl rfl
      · exact .inr (List.mem_cons_of_mem _ h1)
  have hax : a ≠ A x.p := fun e => by
    have h1 := h.block x hx
    rw [← e, ha] at h1
    simp only [Option.some.injEq, Obj.cells.injEq, and_true] at h1
    exact hnx (brCells_path h1)
  have hasl : (S x.p).ownBlock ≠ some a := fun e => by
    obtain ⟨cur, hc⟩ := own_type (h.row x hx) e
    rw [ha] at hc
    simp only [Option.some.injEq, Obj.cells.injEq] at hc
    exact types_two hc.2.1.symm
  have hb9 : ∀ r ∈ rootR :: t, w9.heap[A r.p]? = W.heap[A r.p]? := fun r hr => hgrow.block _ (h.lt hr) (fun e => h.apart_row hr hx e.symm)
  have hvx : v'.ownBlock ≠ some (A x.p) := fun e => by
    obtain ⟨cur, hc⟩ := own_type hown e
    rw [hb9 x hx, h.block x hx] at hc
    simp only [Option.some.injEq, Obj.cells.injEq] at hc
    exact types_two hc.2.1.symm
  have hkid : ∀ p, kids (putL t n) p = if parO n.p = p then putL (kids t p) n else kids t p := fun p => kids_put hs hnew p
  refine ⟨fun r hr => ?_, fun r hr => ?_, fun r hr => ?_, fun r hr y hy hne g hg => ?_⟩
  · rcases hmem r hr with rfl | hrt
    · rw [hAn, hSn, Below.heap_setCell _ _ _ _ hax, hgrow.block a (Array.getElem?_eq_some_iff.1 ha).1 (fun e => hasl e.symm)]
      exact ha
    · rw [hA r hrt]
      by_cases he : r.p = x.p
      · obtain rfl := dom_once hs hpath hrt hx he
        rw [hSx]
        have := setCell_block ((hb9 r hrt).trans (h.block r hrt)) 5 v'
        rw [this]
        rfl
      · rw [hS r hrt he, Below.heap_setCell _ _ _ _ (fun e => he (h.inj hrt hx e)), hb9 r hrt]
        exact h.block r hrt
  · rcases hmem r hr with rfl | hrt
    · rw [hAn]; exact hab
    · rw [hA r hrt]; exact h.own r hrt
  · rcases hmem r hr with rfl | hrt
    · rw [hSn, hkid, if_neg (by rw [← hxp]; exact fun e => hnx e.symm), kids_new ht hn hnew]
      exact World.ownsRow_nil _ _ _ _
    · by_cases he : r.p = x.p
      · obtain rfl := dom_once hs hpath hrt hx he
        rw [hSx, hkid, if_pos hxp.symm, put_new (kids_sorted hs _) (recAt_kids hnew)]
        have hk : ∀ c ∈ kids t r.p, c.p ≠ n.p := fun c hc => hdn c (kid_mem hc)
        have e1 : ptrs (putAdr A n.p a) ((kids t r.p).take (placeOf (kids t r.p) n) ++ n :: (kids t r.p).drop (placeOf (kids t r.p) n)) = (ptrs A (kids t r.p)).take (placeOf (kids t r.p) n) ++ ptr a :: (ptrs A (kids t r.p)).drop (placeOf (kids t r.p) n) := by
          have e2 := ptrs_put (A := A) (n := n) (l := (kids t r.p).take (placeOf (kids t r.p) n)) a (fun c hc => hk c (List.mem_of_mem_take hc))
          have e3 := ptrs_put (A := A) (n := n) (l := (kids t r.p).drop (placeOf (kids t r.p) n)) a (fun c hc => hk c (List.mem_of_mem_drop hc))
          unfold ptrs at e2 e3 ⊢
          rw [List.map_append, List.map_cons, e2, e3, hAn, List.map_take, List.map_drop]
        have e4 : ((kids t r.p).take (placeOf (kids t r.p) n) ++ n :: (kids t r.p).drop (placeOf (kids t r.p) n)).length = (kids t r.p).length + 1 := by
          have : placeOf (kids t r.p) n ≤ (kids t r.p).length := by unfold placeOf; exact (List.takeWhile_prefix _).sublist.length_le
          rw [List.length_append, List.length_cons, List.length_take, List.length_drop]
          omega
        rw [e1, e4]
        exact ownsRow_setCell_other hown hvx _
      · rw [hS r hrt he, hkid, if_neg (by rw [← hxp]; exact fun e => he e.symm), ptrs_put a (fun c hc => hdn c (kid_mem hc))]
        have hk := (h.row r hrt).kept hgrow (by
          cases hc : (S r.p).ownBlock with
          | none => exact .inl rfl
          | some g => exact .inr fun e => h.apart r hrt x hx he g hc e.symm)
        exact ownsRow_setCell_other hk (h.apart_row hx hrt) _
  · rcases hmem r hr with rfl | hrt
    · rw [hSn] at hg; cases hg
    · rcases hmem y hy with rfl | hyt
      · rw [hSn]; intro e; cases e
      · by_cases her : r.p = x.p
        · have hey : y.p ≠ x.p := fun e => hne (her.trans e.symm)
          rw [her, hSx] at hg
          rw [hS y hyt hey]
          rcases hwh with h1 | h1
          · rw [h1] at hg
            exact h.apart x hx y hyt (fun e => hey e.symm) g hg
          · rw [h1] at hg
            cases hg
            intro e
            have := ((h.row y hyt).lt _ e).2
            omega
        · rw [hS r hrt her] at hg
          by_cases hey : y.p = x.p
          · rw [hey, hSx]
            rcases hwh with h1 | h1
            · rw [h1]
              exact h.apart r hrt x hx her g hg
            · rw [h1]
              intro e
              cases e
              have := ((h.row r hrt).lt _ hg).2
              omega
          · rw [hS y hyt hey]
            exact h.apart r hrt y hyt hne g hg
end
end Go.Proofs.YtibekkfbpmloiabGreatDoor.Recs

/- Nodes: opening one and a slice of them; the laws' own size, copy and comparison of a node. A node is a record of which Opaque is false. -/
namespace Go.Proofs.YtibekkfbpmloiabGreatDoor.Recs
set_option maxRecDepth 100000
open Go.RowKit Paths Go.WideShapes Go.ChangeShapes

section
variable {H : Type} {enc : TypeId × Value → H} {w : World} {base : Nat} {spare : Nat → Bool} {held : Bool}
end

/-- The four cells of a node, from a place on; it hides nothing. -/
def NodCells (w : World) (b off : Nat) (r : R) : Prop :=
  w.cell? ⟨b, off, none⟩ = some (.int .i64 r.k) ∧ w.cell? ⟨b, off + 1, none⟩ = some (.string r.p) ∧ w.cell? ⟨b, off + 2, none⟩ = some (.string r.b) ∧ w.cell? ⟨b, off + 3, none⟩ = some (.int .i64 r.m)
theorem NodCells.below {w w' : World} {B b off : Nat} {r : R} (h : NodCells w b off r) (hb : Below B w w') (hB : b < B) : NodCells w' b off r := by
  obtain ⟨h0, h1, h2, h3⟩ := h
  exact ⟨(hb.cell (p := ⟨b, off, none⟩) hB).trans h0, (hb.cell (p := ⟨b, off + 1, none⟩) hB).trans h1, (hb.cell (p := ⟨b, off + 2, none⟩) hB).trans h2, (hb.cell (p := ⟨b, off + 3, none⟩) hB).trans h3⟩
/-- A slice that reads as the nodes L, wherever it lies. -/
def NodSl (w : World) (v : Value) (L : List R) : Prop :=
  (∀ r ∈ L, r.o = false) ∧ ∃ A cap, v = .slice A L.length cap ∧ L.length ≤ cap ∧ (0 < L.length → ∃ b off, A = some ⟨b, off, none⟩ ∧ b < w.heap.size ∧ ∀ i r, L[i]? = some r → NodCells w b (off + i * 4) r)
theorem NodSl.below {w w' : World} {v : Value} {L : List R} (h : NodSl w v L) (hb : Below w.heap.size w w') : NodSl w' v L := by
  obtain ⟨ho, A, cap, rfl, hc, h⟩ := h
  refine ⟨ho, A, cap, rfl, hc, fun hn => ?_⟩
  obtain ⟨b, off, rfl, hlt, hcell⟩ := h hn
  exact ⟨b, off, rfl, Nat.lt_of_lt_of_le hlt hb.size, fun i r hi => (hcell i r hi).below hb hlt⟩

section
variable {H : Type} {enc : TypeId × Value → H} {w : World} {base : Nat} {spare : Nat → Bool} {held : Bool}

end
end Go.Proofs.YtibekkfbpmloiabGreatDoor.Recs

/- A tree in memory: attach, of the program. -/
namespace Go.Proofs.YtibekkfbpmloiabGreatDoor.Recs
set_option maxRecDepth 100000
open Go.RowKit Paths

theorem last_cell {q : ByteArray} (h : 0 < (cutAt 47 q.data.toList).length) : strV ((cutAt 47 q.data.toList)[(cutAt 47 q.data.toList).length - 1]'(by omega)) = .string (lastB q) := by
  unfold strV lastB
  rw [List.getLast_eq_getElem]
end Go.Proofs.YtibekkfbpmloiabGreatDoor.Recs

/- Slices of nodes in memory of their own; the laws' own copy, size and comparison of slices of nodes. -/
namespace Go.Proofs.YtibekkfbpmloiabGreatDoor.Recs
set_option maxRecDepth 100000
open Go.RowKit Paths

/-- A node's four cells. -/
def R.ns (r : R) : List Value := [.int .i64 r.k, .string r.p, .string r.b, .int .i64 r.m]
def flatN (l : List R) : List Value := l.flatMap R.ns
theorem flatN_len (l : List R) : (flatN l).length = l.length * 4 := by
  induction l with
  | nil => rfl
  | cons r t ih => simp only [flatN, List.flatMap_cons, List.length_append, List.length_cons] at ih ⊢; rw [ih]; simp [R.ns]; omega
theorem flatN_get : ∀ (l : List R) (j : Nat), (flatN l)[j]? = (l[j / 4]?).bind fun r => r.ns[j % 4]?
  | [], j => by simp [flatN]
  | r :: t, j => by
    have ih := flatN_get t (j - 4)
    by_cases hj : j < 4
    · have e1 : j / 4 = 0 := by omega
      have e2 : j % 4 = j := by omega
      rw [e1, e2]
      simp only [flatN, List.flatMap_cons]
      rw [List.getElem?_append_left (by simp [R.ns]; omega)]
      simp
    · have e1 : j / 4 = (j - 4) / 4 + 1 := by omega
      have e2 : j % 4 = (j - 4) % 4 := by omega
      rw [e1, e2]
      simp only [flatN, List.flatMap_cons]
      rw [List.getElem?_append_right (by simp [R.ns]; omega)]
      simp only [R.ns, List.length_cons, List.length_nil]
      exact ih
theorem flatN_field {M : List R} {i c : Nat} {r : R} {u : Value} (hi : i < M.length) (hc : c < 4) (h : r.ns = M[i].ns.set c u) : flatN (M.set i r) = (flatN M).set (i * 4 + c) u := by
  apply List.ext_getElem?
  intro j
  rw [flatN_get, List.getElem?_set, List.getElem?_set, flatN_len, flatN_get]
  by_cases hj : i = j / 4
  · rw [if_pos hj, if_pos (by omega)]
    simp only [Option.bind_some]
    rw [h, List.getElem?_set]
    by_cases hk : c = j % 4
    · rw [if_pos hk, if_pos (by simp [R.ns]; omega), if_pos (by omega), if_pos (by omega)]
    · rw [if_neg hk, if_neg (by omega), ← hj, List.getElem?_eq_getElem hi]
      rfl
  · rw [if_neg hj, if_neg (by omega)]

/-- A slice in memory of its own that holds the nodes M. -/
def RowN (w : World) (base : Nat) (v : Value) (n : Nat) (M : List R) : Prop := M.length = n ∧ w.ownsRow base 68 4 v n (flatN M) ∧ ∀ r ∈ M, r.o = false
theorem RowN.below {w w' : World} {base : Nat} {v : Value} {n : Nat} {M : List R} (h : RowN w base v n M) (hb : Below w.heap.size w w') : RowN w' base v n M := ⟨h.1, own_below h.2.1 hb, h.2.2⟩
theorem RowN.sl {w : World} {base : Nat} {v : Value} {n : Nat} {M : List R} (h : RowN w base v n M) : NodSl w v M := by
  obtain ⟨rfl, h, ho⟩ := h
  refine ⟨ho, ?_⟩
  rcases h.2 with ⟨rfl, hn⟩ | ⟨g, cap, cur, rfl, hb, hg, hc, _⟩
  · exact ⟨none, 0, by rw [hn], by omega, fun h => by omega⟩
  · refine ⟨_, cap, rfl, hc, fun _ => ⟨g, 0, rfl, (Array.getElem?_eq_some_iff.1 hg).1, fun i r hi => ?_⟩⟩
    have hlt : i < M.length := (List.getElem?_eq_some_iff.1 hi).1
    have one : ∀ c, c < 4 → w.cell? ⟨g, i * 4 + c, none⟩ = r.ns[c]? := fun c hc => by
      rw [h.cellAt (i * 4 + c) (by omega), flatN_get]
      have e1 : (i * 4 + c) / 4 = i := by omega
      have e2 : (i * 4 + c) % 4 = c := by omega
      rw [e1, e2, hi]
      rfl
    rw [Nat.zero_add]
    exact ⟨one 0 (by omega), one 1 (by omega), one 2 (by omega), one 3 (by omega)⟩
theorem RowN.field {w : World} {base g cap n : Nat} {M : List R} {i c : Nat} {r : R} {u : Value} (h : RowN w base (.slice (some ⟨g, 0, none⟩) n cap) n M) (hi : i < M.length) (hc : c < 4) (hr : r.ns = M[i].ns.set c u) (ho : r.o = false) :
    RowN (w.setCell ⟨g, i * 4 + c, none⟩ u) base (.slice (some ⟨g, 0, none⟩) n cap) n (M.set i r) ∧ w.grownBy (w.setCell ⟨g, i * 4 + c, none⟩ u) (some g) := by
  obtain ⟨h1, h2⟩ := h.2.1.stored (i * 4 + c) u
  exact ⟨⟨by rw [List.length_set]; exact h.1, by rw [flatN_field hi hc hr]; exact h1, fun x hx => (List.mem_or_eq_of_mem_set hx).elim (h.2.2 x) (fun e => by rw [e]; exact ho)⟩, h2⟩
theorem RowN.frozen {w : World} {base g cap n : Nat} {M : List R} (h : RowN w base (.slice (some ⟨g, 0, none⟩) n cap) n M) (j : Nat) : w.frozen? ⟨g, j, none⟩ = false := h.2.1.frozenAt j
theorem RowN.cells {w : World} {base g cap n : Nat} {M : List R} (h : RowN w base (.slice (some ⟨g, 0, none⟩) n cap) n M) {i : Nat} (hi : i < M.length) : NodCells w g (i * 4) M[i] := by
  have one : ∀ c, c < 4 → w.cell? ⟨g, i * 4 + c, none⟩ = M[i].ns[c]? := fun c hc => by
    rw [h.2.1.cellAt (i * 4 + c) (by rw [← h.1]; omega), flatN_get]
    have e1 : (i * 4 + c) / 4 = i := by omega
    have e2 : (i * 4 + c) % 4 = c := by omega
    rw [e1, e2, List.getElem?_eq_getElem hi]
    rfl
  exact ⟨one 0 (by omega), one 1 (by omega), one 2 (by omega), one 3 (by omega)⟩
/-- A whole node written. -/
theorem RowN.store {w : World} {base g cap n : Nat} {M : List R} {i : Nat} (r : R) (h : RowN w base (.slice (some ⟨g, 0, none⟩) n cap) n M) (hi : i < M.length) (ho : r.o = false) :
    RowN ((((w.setCell ⟨g, i * 4, none⟩ (.int .i64 r.k)).setCell ⟨g, i * 4 + 1, none⟩ (.string r.p)).setCell ⟨g, i * 4 + 2, none⟩ (.string r.b)).setCell ⟨g, i * 4 + 3, none⟩ (.int .i64 r.m)) base (.slice (some ⟨g, 0, none⟩) n cap) n (M.set i r) ∧
    w.grownBy ((((w.setCell ⟨g, i * 4, none⟩ (.int .i64 r.k)).setCell ⟨g, i * 4 + 1, none⟩ (.string r.p)).setCell ⟨g, i * 4 + 2, none⟩ (.string r.b)).setCell ⟨g, i * 4 + 3, none⟩ (.int .i64 r.m)) (some g) := by
  have hM := h.2.2 M[i] (List.getElem_mem hi)
  obtain ⟨a1, b1⟩ := h.field (i := i) (c := 0) (r := { M[i] with k := r.k }) (u := .int .i64 r.k) hi (by omega) rfl hM
  obtain ⟨a2, b2⟩ := a1.field (i := i) (c := 1) (r := { M[i] with k := r.k, p := r.p }) (u := .string r.p) (by simpa using hi) (by omega) (by simp [R.ns]) hM
  obtain ⟨a3, b3⟩ := a2.field (i := i) (c := 2) (r := { M[i] with k := r.k, p := r.p, b := r.b }) (u := .string r.b) (by simpa using hi) (by omega) (by simp [R.ns]) hM
  obtain ⟨a4, b4⟩ := a3.field (i := i) (c := 3) (r := r) (u := .int .i64 r.m) (by simpa using hi) (by omega) (by simp [R.ns]) ho
  refine ⟨?_, grown_trans (grown_trans (grown_trans b1 b2) b3) b4⟩
  simp only [List.set_set] at a4
  exact a4

end Go.Proofs.YtibekkfbpmloiabGreatDoor.Recs

/- A tree in memory: its nodes as a list, its nodes as records (nodes, of the program; what LayerOfTree hands to each). -/
namespace Go.Proofs.YtibekkfbpmloiabGreatDoor.Recs
set_option maxRecDepth 100000
open Go.RowKit Paths

theorem own_not {w : World} {base : Nat} {e e' : TypeId} {size : Nat} {v : Value} {m : Nat} {xs : List Value} (h : w.ownsRow base e size v m xs) (he : e ≠ e') {g : Nat} {cur : Array Value} {fz : Nat × Nat} (hg : w.heap[g]? = some (.cells cur e' fz)) : v.ownBlock ≠ some g := fun e0 => by
  rcases h.2 with ⟨rfl, _⟩ | ⟨g', cap, cur', rfl, _, hh, _⟩
  · cases e0
  · cases e0
    rw [hg] at hh
    simp only [Option.some.injEq, Obj.cells.injEq] at hh
    exact he hh.2.1.symm

end Go.Proofs.YtibekkfbpmloiabGreatDoor.Recs

/- Rows of nodes: parts of a row as the source of an append; a copy of a list of nodes that is never nil. -/
namespace Go.Proofs.YtibekkfbpmloiabGreatDoor.Recs
set_option maxRecDepth 100000
open Go.RowKit Paths

theorem own_down {w : World} {base base' : Nat} {e : TypeId} {size : Nat} {v : Value} {n : Nat} {xs : List Value} (h : w.ownsRow base e size v n xs) (hb : base' ≤ base) : w.ownsRow base' e size v n xs := by
  obtain ⟨h1, h2⟩ := h
  refine ⟨h1, ?_⟩
  rcases h2 with h2 | ⟨g, cap', cur, a, b, c⟩
  · exact .inl h2
  · exact .inr ⟨g, cap', cur, a, Nat.le_trans hb b, c⟩
end Go.Proofs.YtibekkfbpmloiabGreatDoor.Recs

/- Stacks: slices of slices of records: what the memory holds; one that came in; the laws' own size, copy and comparison of them. -/
namespace Go.Proofs.YtibekkfbpmloiabGreatDoor.Recs
set_option maxRecDepth 100000
open Go.RowKit Paths Go.WideShapes Go.ChangeShapes

/-- A slice of slices that reads as the lists LL. -/
def StkSl (w : World) (v : Value) (LL : List (List R)) : Prop :=
  ∃ A cap, v = .slice A LL.length cap ∧ LL.length ≤ cap ∧ (0 < LL.length → ∃ b off, A = some ⟨b, off, none⟩ ∧ b < w.heap.size ∧ ∀ i l, LL[i]? = some l → ∃ u, w.cell? ⟨b, off + i, none⟩ = some u ∧ RecSl w u l)
theorem StkSl.below {w w' : World} {v : Value} {LL : List (List R)} (h : StkSl w v LL) (hb : Below w.heap.size w w') : StkSl w' v LL := by
  obtain ⟨A, cap, rfl, hc, h⟩ := h
  refine ⟨A, cap, rfl, hc, fun hn => ?_⟩
  obtain ⟨b, off, rfl, hlt, hcell⟩ := h hn
  refine ⟨b, off, rfl, Nat.lt_of_lt_of_le hlt hb.size, fun i l hi => ?_⟩
  obtain ⟨u, h1, h2⟩ := hcell i l hi
  exact ⟨u, (hb.cell (p := ⟨b, off + i, none⟩) hlt).trans h1, h2.below hb⟩

section
variable {H : Type} {enc : TypeId × Value → H} {w : World} {base : Nat} {spare : Nat → Bool} {held : Bool}
end

end Go.Proofs.YtibekkfbpmloiabGreatDoor.Recs
