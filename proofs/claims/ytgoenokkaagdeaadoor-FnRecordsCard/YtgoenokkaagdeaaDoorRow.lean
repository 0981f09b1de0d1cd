/- Slices of bytes that came in: what the laws read off them. -/
import Derived.Test.YtgoenokkaagdeaaDoorDrawAt
import Derived.WalkKit
import Derived.OpenShut
import Derived.Laws.BytesArg
namespace Go.Proofs.YtgoenokkaagdeaaDoor.Draw
open Go.RowKit Go.ChangeShapes Go.WideShapes

/-- What is known of a slice of integers that came in. -/
def IsRow (k : IntKind) (w : World) (a : Option Addr) (len cap : Nat) (zs : List Int) : Prop :=
  (a = none ∧ len = 0 ∧ cap = 0 ∧ zs = []) ∨
  ∃ x, a = some x ∧ len ≤ cap ∧ cap ≤ maxLen ∧ zs.length = cap ∧ (∀ i, i < zs.length → w.cell? (x.add i) = some (.int k (zs.getD i 0))) ∧ ∀ n ∈ zs, (Lit.int k n).wf = true
theorem IsRow.vals {w : World} {a : Option Addr} {len cap : Nat} {zs : List Int} (h : IsRow .u8 w a len cap zs) (hl : len ≤ 1048576) : Vals w a len (fun k => (zs.getD k 0).toNat) ∧ len ≤ cap ∧ (a = none → len = 0 ∧ cap = 0) := by
  rcases h with ⟨rfl, rfl, rfl, rfl⟩ | ⟨x, rfl, h1, h2, h3, h4, h5⟩
  · exact ⟨⟨by omega, fun h => by omega⟩, Nat.le_refl _, fun _ => ⟨rfl, rfl⟩⟩
  · refine ⟨⟨by omega, fun hn => ?_⟩, h1, fun h => by cases h⟩
    have hc := h4 0 (by omega)
    obtain ⟨b, off, spot⟩ := x
    have hspot : spot = none := by simpa [Addr.add] using World.cell?_spot hc
    subst hspot
    refine ⟨b, off, rfl, World.block_lt_of_cell? w _ (by simpa [Addr.add_lit] using hc), fun k hk => ?_⟩
    have hck := h4 k (by omega)
    have hw := h5 (zs.getD k 0) (by simp [List.getD, show k < zs.length by omega])
    have hb : 0 ≤ zs.getD k 0 ∧ zs.getD k 0 ≤ 255 := bounds_u8 hw
    refine ⟨by show (zs.getD k 0).toNat ≤ 255; omega, ?_⟩
    show w.cell? ⟨b, off + k, none⟩ = some (.int .u8 (((zs.getD k 0).toNat : Nat) : Int))
    rw [Int.toNat_of_nonneg hb.1]
    simpa [Addr.add_lit] using hck

theorem Vals.later {w w' : World} {A : Option Addr} {n : Nat} {f : Nat → Nat} (h : Vals w A n f) (hb : Below w.heap.size w w') : Byts w' w'.heap.size A n := (h.below hb).byts

/-- The first bytes of a slice, as a string. -/
def headS (f : Nat → Nat) (j : Nat) : ByteArray := strOfNums ((List.range j).map fun k => (f k : Int))
theorem headS_size (f : Nat → Nat) (j : Nat) : (headS f j).size = j := by unfold headS; rw [strOfNums_size]; simp
theorem conv_any {w : World} {A : Option Addr} {n : Nat} {f : Nat → Nat} (h : Vals w A n f) {j : Nat} (hj : j ≤ n) (cap : Nat) :
    (convert 22 9 (.slice A j cap)).run Tryd.prog w = .ok (.string (headS f j)) w := by
  cases A with
  | none =>
    have hn : n = 0 := by
      rcases Nat.eq_zero_or_pos n with h0 | h0
      · exact h0
      · obtain ⟨b, off, e, _⟩ := h.2 h0; cases e
    obtain rfl : j = 0 := by omega
    exact run_convert_bytes_nil w 22 5 Tryd.underlying22 Tryd.underlying5 0 cap 9 Tryd.underlying9
  | some x =>
    rcases Nat.eq_zero_or_pos j with rfl | hjp
    · rw [run_convert_bytes_string w 22 9 5 _ 0 cap Tryd.underlying22 Tryd.underlying5 Tryd.underlying9,
        run_bytesToString w _ 0 cap [] (run_loadCells_list (P := Tryd.prog) w x [] (fun j v hj => by cases hj))]
      rfl
    · obtain ⟨b, off, e, hb, hc⟩ := h.2 (by omega)
      cases e
      exact run_convert_bytes_arg w 22 5 Tryd.underlying22 Tryd.underlying5 b off j cap _ (by simp) (fun i hi => by rw [(hc i (by omega)).2]; simp [List.getD, hi]) 9 Tryd.underlying9
end Go.Proofs.YtgoenokkaagdeaaDoor.Draw
