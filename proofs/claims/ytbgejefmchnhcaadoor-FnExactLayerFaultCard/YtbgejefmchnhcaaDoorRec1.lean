/- Records: what RecordFault of the program and of its model answer, as one plain function of the record's fields. Condition: the program's table of kinds holds what its own initialiser lays. -/
import Derived.Test.YtbgejefmchnhcaaDoorPaths4
import Derived.BigQuiet
import Derived.Deep.QuietTactic
import Derived.Deep.RegionHeld3
import Derived.StillTailTactics
namespace Go.Proofs.YtbgejefmchnhcaaDoor.Recs
open Go.RowKit Paths

def sizeB (need : Bool) (z : Nat) : Bool := decide (z ≤ 20) && (decide (0 < z) || !need)
def formB (ub uo : Bool) (z : Nat) (o : Bool) : Bool := (ub || decide (z = 0)) && (uo || !o)
def modeB (um : Bool) (m : Int) : Bool := decide (m = 0) || (um && (decide (0 < m) && decide (m ≤ 511)))
def faultR (p : List UInt8) (z : Nat) (m : Int) (o ub nb um uo : Bool) : Int :=
  if pathB p = false then 10 else if sizeB nb z = false then 8 else if formB ub uo z o = false then 3 else if modeB um m = false then 4 else 0
/-- The first fault of a record; 0 of none. -/
def faultI (k : Int) (p : List UInt8) (z : Nat) (m : Int) (o : Bool) : Int :=
  if k < 1 ∨ 4 < k then 9 else if pathB p = false then 10 else if 20 < z ∨ k = 2 ∧ z = 0 then 8
  else if z ≠ 0 ∧ (k = 3 ∨ k = 4) ∨ o = true ∧ k ≠ 3 then 3 else if m < 0 ∨ 511 < m ∨ m ≠ 0 ∧ (k = 4 ∨ k = 2) then 4 else 0

theorem bcell {W w1 : World} (hb : Below W.heap.size W w1) : (∀ b o, b < W.heap.size → w1.cell? ⟨b, o, none⟩ = W.cell? ⟨b, o, none⟩) ∧ (∀ b o, b < W.heap.size → w1.frozen? ⟨b, o, none⟩ = W.frozen? ⟨b, o, none⟩) :=
  ⟨fun b o h => hb.cell (p := ⟨b, o, none⟩) h, fun b o h => hb.frozen (p := ⟨b, o, none⟩) h⟩

theorem allowsSize_any (ub nb um uo : Bool) (z : Nat) (w : World) : Calls Tryd.prog 80 #[.agg #[.bool ub, .bool nb, .bool um, .bool uo], .int .i64 z] w fun e w' => e = .returned (.bool (sizeB nb z)) ∧ Below w.heap.size w w' := by
  cases nb
  all_goals
    go_enter Tryd.func80, Tryd.ntmps80
    go_wp2
    all_goals (go_ret; exact ⟨ret_bool (by rw [Bool.eq_iff_iff]; simp [sizeB] <;> omega), (Below.refl _ _).alloc (Nat.le_refl _) _⟩)

theorem allowsForm_any (ub nb um uo : Bool) (s : ByteArray) (o : Bool) (w : World) : Calls Tryd.prog 81 #[.agg #[.bool ub, .bool nb, .bool um, .bool uo], .string s, .bool o] w fun e w' => e = .returned (.bool (formB ub uo s.size o)) ∧ Below w.heap.size w w' := by
  by_cases h1 : s.size = 0
  · have he := isEmpty_true h1
    have HR := Lib.hid (show formB ub uo s.size o = (uo || !o) by unfold formB; rw [h1]; simp)
    cases ub <;> cases uo <;> cases o
    all_goals
      go_enter Tryd.func81, Tryd.ntmps81
      go_wp2
      all_goals (go_ret; exact ⟨ret_bool (by rw [HR.out]; rfl), (Below.refl _ _).alloc (Nat.le_refl _) _⟩)
  · have he := isEmpty_false (by omega : 0 < s.size)
    have HR := Lib.hid (show formB ub uo s.size o = (ub && (uo || !o)) by unfold formB; simp [h1])
    cases ub <;> cases uo <;> cases o
    all_goals
      go_enter Tryd.func81, Tryd.ntmps81
      go_wp2
      all_goals (go_ret; exact ⟨ret_bool (by rw [HR.out]; rfl), (Below.refl _ _).alloc (Nat.le_refl _) _⟩)

theorem allowsMode_any (ub nb um uo : Bool) (m : Int) (w : World) : Calls Tryd.prog 82 #[.agg #[.bool ub, .bool nb, .bool um, .bool uo], .int .i64 m] w fun e w' => e = .returned (.bool (modeB um m)) ∧ Below w.heap.size w w' := by
  cases um
  all_goals
    by_cases h0 : m = 0
    · subst h0
      go_enter Tryd.func82, Tryd.ntmps82
      go_wp2
      all_goals (go_ret; exact ⟨ret_bool (by simp [modeB]), (Below.refl _ _).alloc (Nat.le_refl _) _⟩)
    · have hd : (m == 0) = false := by simpa using h0
      go_enter Tryd.func82, Tryd.ntmps82
      go_wp2
      all_goals (go_ret; exact ⟨ret_bool (by rw [Bool.eq_iff_iff]; simp [modeB] <;> omega), (Below.refl _ _).alloc (Nat.le_refl _) _⟩)
end Go.Proofs.YtbgejefmchnhcaaDoor.Recs
