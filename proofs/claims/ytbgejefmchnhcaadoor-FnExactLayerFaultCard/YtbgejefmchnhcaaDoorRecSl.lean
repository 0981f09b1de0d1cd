/- Slices of records: what the memory holds where one reads as a list of records; a slice of records that came in. -/
import Derived.Test.YtbgejefmchnhcaaDoorRec7
import Derived.Deep.Slices
namespace Go.Proofs.YtbgejefmchnhcaaDoor.Recs
set_option maxRecDepth 100000
open Go.RowKit Paths Go.WideShapes Go.ChangeShapes

/-- A record's five fields. -/
structure R where
  k : Int
  m : Int
  p : ByteArray
  b : ByteArray
  o : Bool
def R.val (r : R) : Value := .agg #[.int .i64 r.k, .string r.p, .string r.b, .int .i64 r.m, .bool r.o]
def R.fault (r : R) : Int := faultI r.k r.p.data.toList r.b.size r.m r.o

/-- The five cells of a record, from a place on. -/
def RecCells (w : World) (b off : Nat) (r : R) : Prop :=
  w.cell? ⟨b, off, none⟩ = some (.int .i64 r.k) ∧ w.cell? ⟨b, off + 1, none⟩ = some (.string r.p) ∧ w.cell? ⟨b, off + 2, none⟩ = some (.string r.b) ∧ w.cell? ⟨b, off + 3, none⟩ = some (.int .i64 r.m) ∧ w.cell? ⟨b, off + 4, none⟩ = some (.bool r.o)
theorem RecCells.below {w w' : World} {B b off : Nat} {r : R} (h : RecCells w b off r) (hb : Below B w w') (hB : b < B) : RecCells w' b off r := by
  obtain ⟨h0, h1, h2, h3, h4⟩ := h
  exact ⟨(hb.cell (p := ⟨b, off, none⟩) hB).trans h0, (hb.cell (p := ⟨b, off + 1, none⟩) hB).trans h1, (hb.cell (p := ⟨b, off + 2, none⟩) hB).trans h2, (hb.cell (p := ⟨b, off + 3, none⟩) hB).trans h3, (hb.cell (p := ⟨b, off + 4, none⟩) hB).trans h4⟩

/-- A slice that reads as the records L, wherever it lies. -/
def RecSl (w : World) (v : Value) (L : List R) : Prop :=
  ∃ A cap, v = .slice A L.length cap ∧ L.length ≤ cap ∧ (0 < L.length → ∃ b off, A = some ⟨b, off, none⟩ ∧ b < w.heap.size ∧ ∀ i r, L[i]? = some r → RecCells w b (off + i * 5) r)
theorem RecSl.below {w w' : World} {v : Value} {L : List R} (h : RecSl w v L) (hb : Below w.heap.size w w') : RecSl w' v L := by
  obtain ⟨A, cap, rfl, hc, h⟩ := h
  refine ⟨A, cap, rfl, hc, fun hn => ?_⟩
  obtain ⟨b, off, rfl, hlt, hcell⟩ := h hn
  exact ⟨b, off, rfl, Nat.lt_of_lt_of_le hlt hb.size, fun i r hi => (hcell i r hi).below hb hlt⟩

section
variable {H : Type} {enc : TypeId × Value → H} {w : World} {base : Nat} {spare : Nat → Bool} {held : Bool}

/-- The records of a slice of records that came in. -/
theorem open_recs {t : TypeId} {fuel : Nat} {cs : List Value} {x : DataW H × List MemPlace} (ht : Tryd.prog.underlying t = some (.slice 44))
    (h : DataW.trod enc Tryd.prog w base spare held fuel t cs = some x) :
    ∃ (v : Value) (L : List R), cs = [v] ∧ RecSl w v L ∧ L.length ≤ maxLen ∧ ∀ r ∈ L, r.p.size ≤ maxLen ∧ r.b.size ≤ maxLen := by
  rcases DataW.trod_slice ht h with ⟨rfl, _⟩ | ⟨a, len, cap, elems, rest, n, _, rfl, _, _, hl, hm0, hel, hat, _, _⟩
  · exact ⟨_, [], rfl, ⟨none, 0, rfl, Nat.le_refl _, fun h => by cases h⟩, Nat.zero_le _, fun r hr => by cases hr⟩
  · rw [cR] at hat
    have hone : ∀ i, i < len → ∃ r : R, w.cells? base (a.add (i * 5)) 5 = some [.int .i64 r.k, .string r.p, .string r.b, .int .i64 r.m, .bool r.o] ∧ r.p.size ≤ maxLen ∧ r.b.size ≤ maxLen := by
      intro i hi
      have h1 := hat i hi
      rw [List.getElem?_eq_getElem (by omega)] at h1
      obtain ⟨cs', hc, htr⟩ := Option.bind_eq_some_iff.1 h1
      obtain ⟨k, m, p, b, o, rfl, hp, hb, _⟩ := rec_of_trod htr
      exact ⟨⟨k, m, p, b, o⟩, hc, hp, hb⟩
    have hall : ∀ m, m ≤ len → ∃ L : List R, L.length = m ∧ (∀ i r, L[i]? = some r → w.cells? base (a.add (i * 5)) 5 = some [.int .i64 r.k, .string r.p, .string r.b, .int .i64 r.m, .bool r.o]) ∧ ∀ r ∈ L, r.p.size ≤ maxLen ∧ r.b.size ≤ maxLen := by
      intro m
      induction m with
      | zero => exact fun _ => ⟨[], rfl, fun i r hi => by simp at hi, fun r hr => by cases hr⟩
      | succ m ih =>
        intro hm
        obtain ⟨L, hL, h1, h2⟩ := ih (by omega)
        obtain ⟨r, hr, hs⟩ := hone m (by omega)
        refine ⟨L ++ [r], by simp [hL], fun i q hi => ?_, fun q hq => ?_⟩
        · rcases Nat.lt_trichotomy i m with hj | hj | hj
          · rw [List.getElem?_append_left (by omega)] at hi
            exact h1 i q hi
          · subst hj
            rw [List.getElem?_append_right (by omega), hL] at hi
            simp at hi
            subst hi
            exact hr
          · rw [List.getElem?_append_right (by omega)] at hi
            rw [List.getElem?_eq_none (by simp; omega)] at hi
            cases hi
        · rcases List.mem_append.1 hq with hq | hq
          · exact h2 q hq
          · rw [List.mem_singleton.1 hq]; exact hs
    obtain ⟨L, hL, hc, hs⟩ := hall len (Nat.le_refl _)
    subst hL
    refine ⟨_, L, rfl, ⟨some a, cap, rfl, hl, fun hn => ?_⟩, Nat.le_trans hl hm0, hs⟩
    obtain ⟨b, off, spot⟩ := a
    have hfirst := hc 0 L[0] (by simp [hn])
    obtain ⟨_, _, hcell⟩ := World.cells?_some hfirst
    have h0 := hcell 0 (by omega)
    have hspot : spot = none := by simpa [Addr.add] using World.cell?_spot (h0.trans (by rfl))
    subst hspot
    refine ⟨b, off, rfl, World.block_lt_of_cell? w _ (h0.trans (by rfl)), fun i r hi => ?_⟩
    obtain ⟨_, _, hcell⟩ := World.cells?_some (hc i r hi)
    have c0 := hcell 0 (by omega)
    have c1 := hcell 1 (by omega)
    have c2 := hcell 2 (by omega)
    have c3 := hcell 3 (by omega)
    have c4 := hcell 4 (by omega)
    simp [Addr.add_lit] at c0 c1 c2 c3 c4
    exact ⟨c0, c1, c2, c3, c4⟩
end
end Go.Proofs.YtbgejefmchnhcaaDoor.Recs
