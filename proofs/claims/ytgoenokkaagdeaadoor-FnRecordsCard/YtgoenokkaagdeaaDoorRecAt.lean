/- A record that lies in a block of its own. -/
import Derived.Test.YtgoenokkaagdeaaDoorRec6
namespace Go.Proofs.YtgoenokkaagdeaaDoor.Recs
open Go.RowKit Paths

def RecAt (w : World) (x : Nat) (k m : Int) (p b : ByteArray) (o : Bool) : Prop :=
  x < w.heap.size ∧ w.cell? ⟨x, 0, none⟩ = some (.int .i64 k) ∧ w.cell? ⟨x, 1, none⟩ = some (.string p) ∧ w.cell? ⟨x, 2, none⟩ = some (.string b) ∧ w.cell? ⟨x, 3, none⟩ = some (.int .i64 m) ∧ w.cell? ⟨x, 4, none⟩ = some (.bool o)
theorem RecAt.new (w : World) (k m : Int) (p b : ByteArray) (o : Bool) (t : TypeId) : RecAt (w.alloc (.cells #[.int .i64 k, .string p, .string b, .int .i64 m, .bool o] t)) w.heap.size k m p b o := by
  refine ⟨by simp, ?_, ?_, ?_, ?_, ?_⟩ <;> (rw [cell_of_row _ _ _ _ _ _ (heap_alloc_new w _)]; rfl)
theorem RecAt.below {w w' : World} {x : Nat} {k m : Int} {p b : ByteArray} {o : Bool} {B : Nat} (h : RecAt w x k m p b o) (hb : Below B w w') (hB : w.heap.size ≤ B) : RecAt w' x k m p b o := by
  obtain ⟨h0, h1, h2, h3, h4, h5⟩ := h
  have hc := fun j => hb.cell (p := ⟨x, j, none⟩) (Nat.lt_of_lt_of_le h0 hB)
  exact ⟨Nat.lt_of_lt_of_le h0 hb.size, (hc 0).trans h1, (hc 1).trans h2, (hc 2).trans h3, (hc 3).trans h4, (hc 4).trans h5⟩
end Go.Proofs.YtgoenokkaagdeaaDoor.Recs
