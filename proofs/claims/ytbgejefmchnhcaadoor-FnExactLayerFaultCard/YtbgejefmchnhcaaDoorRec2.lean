/- Records: what RecordFault of the program and of its model answer. Condition (of the program's): its table of kinds holds what its own initialiser lays. -/
import Derived.Test.YtbgejefmchnhcaaDoorRec1
namespace Go.Proofs.YtbgejefmchnhcaaDoor.Recs
open Go.RowKit Paths

theorem ret_int {a b : Int} (h : a = b) : Ending.returned (.int .i64 a) = .returned (.int .i64 b) := by rw [h]

set_option maxHeartbeats 400000 in
theorem fault_any (k m : Int) (p b : ByteArray) (o ub nb um uo : Bool) (w : World) (hp : p.size ≤ maxLen) :
    Calls Tryd.prog 77 #[.agg #[.int .i64 k, .string p, .string b, .int .i64 m, .bool o, .bool ub, .bool nb, .bool um, .bool uo]] w fun e w' => e = .returned (.int .i64 (faultR p.data.toList b.size m o ub nb um uo)) ∧ Below w.heap.size w w' := by
  rcases Bool.eq_false_or_eq_true (pathB p.data.toList) with h1 | h1
  rotate_left
  · have HR := Lib.hid (show faultR p.data.toList b.size m o ub nb um uo = 10 by unfold faultR; rw [if_pos h1])
    go_enter Tryd.func77, Tryd.ntmps77
    go_wp2_with fail
    refine (pathOK_impl p _ hp).mono ?_
    rintro e w1 ⟨rfl, hb1⟩
    go_wp2_with fail
    go_ret
    exact ⟨ret_int HR.out.symm, ((Below.refl _ _).alloc (Nat.le_refl _) _).trans (hb1.mono (by simp))⟩
  go_enter Tryd.func77, Tryd.ntmps77
  go_wp2_with fail
  refine (pathOK_impl p _ hp).mono ?_
  rintro e w1 ⟨rfl, hb1⟩
  obtain ⟨hc1, hf1⟩ := bcell hb1
  have hz1 : w.heap.size < w1.heap.size := by have := hb1.size; simp at this; omega
  rcases Bool.eq_false_or_eq_true (sizeB nb b.size) with h2 | h2
  rotate_left
  · have HR := Lib.hid (show faultR p.data.toList b.size m o ub nb um uo = 8 by unfold faultR; rw [if_neg (by rw [h1]; decide), if_pos h2])
    go_wp2_with fail
    refine (allowsSize_any ub nb um uo b.size _).mono ?_
    rintro e w2 ⟨rfl, hb2⟩
    go_wp2_with fail
    go_ret
    exact ⟨ret_int HR.out.symm, (((Below.refl _ _).alloc (Nat.le_refl _) _).trans (hb1.mono (by simp))).trans (hb2.mono (by omega))⟩
  go_wp2_with fail
  refine (allowsSize_any ub nb um uo b.size _).mono ?_
  rintro e w2 ⟨rfl, hb2⟩
  obtain ⟨hc2, hf2⟩ := bcell hb2
  have hz2 : w.heap.size < w2.heap.size := by have := hb2.size; omega
  rcases Bool.eq_false_or_eq_true (formB ub uo b.size o) with h3 | h3
  rotate_left
  · have HR := Lib.hid (show faultR p.data.toList b.size m o ub nb um uo = 3 by unfold faultR; rw [if_neg (by rw [h1]; decide), if_neg (by rw [h2]; decide), if_pos h3])
    go_wp2_with fail
    refine (allowsForm_any ub nb um uo b o _).mono ?_
    rintro e w3 ⟨rfl, hb3⟩
    go_wp2_with fail
    go_ret
    exact ⟨ret_int HR.out.symm, ((((Below.refl _ _).alloc (Nat.le_refl _) _).trans (hb1.mono (by simp))).trans (hb2.mono (by omega))).trans (hb3.mono (by omega))⟩
  go_wp2_with fail
  refine (allowsForm_any ub nb um uo b o _).mono ?_
  rintro e w3 ⟨rfl, hb3⟩
  obtain ⟨hc3, hf3⟩ := bcell hb3
  have hz3 : w.heap.size < w3.heap.size := by have := hb3.size; omega
  rcases Bool.eq_false_or_eq_true (modeB um m) with h4 | h4
  · have HR := Lib.hid (show faultR p.data.toList b.size m o ub nb um uo = 0 by unfold faultR; rw [if_neg (by rw [h1]; decide), if_neg (by rw [h2]; decide), if_neg (by rw [h3]; decide), if_neg (by rw [h4]; decide)])
    go_wp2_with fail
    refine (allowsMode_any ub nb um uo m _).mono ?_
    rintro e w4 ⟨rfl, hb4⟩
    go_wp2_with fail
    go_ret
    exact ⟨ret_int HR.out.symm, (((((Below.refl _ _).alloc (Nat.le_refl _) _).trans (hb1.mono (by simp))).trans (hb2.mono (by omega))).trans (hb3.mono (by omega))).trans (hb4.mono (by omega))⟩
  · have HR := Lib.hid (show faultR p.data.toList b.size m o ub nb um uo = 4 by unfold faultR; rw [if_neg (by rw [h1]; decide), if_neg (by rw [h2]; decide), if_neg (by rw [h3]; decide), if_pos h4])
    go_wp2_with fail
    refine (allowsMode_any ub nb um uo m _).mono ?_
    rintro e w4 ⟨rfl, hb4⟩
    go_wp2_with fail
    go_ret
    exact ⟨ret_int HR.out.symm, (((((Below.refl _ _).alloc (Nat.le_refl _) _).trans (hb1.mono (by simp))).trans (hb2.mono (by omega))).trans (hb3.mono (by omega))).trans (hb4.mono (by omega))⟩

/-! ### The table of kinds -/
def cells : Array Value := #[.bool false, .bool false, .bool false, .bool false, .bool true, .bool false, .bool true, .bool false, .bool true, .bool true, .bool false, .bool false, .bool false, .bool false, .bool true, .bool true, .bool false, .bool false, .bool false, .bool false]
def Tab (w : World) : Prop := ∃ t fr, w.heap[(3 : Nat)]? = some (.cells cells t fr)
theorem Tab.cell {w : World} (h : Tab w) (n : Nat) : w.cell? ⟨3, n, none⟩ = cells[n]? := by
  obtain ⟨t, fr, h⟩ := h
  exact cell_of_row w _ n _ _ _ h
theorem Tab.lt {w : World} (h : Tab w) : 3 < w.heap.size := by
  obtain ⟨t, fr, h⟩ := h
  exact (Array.getElem?_eq_some_iff.1 h).1
theorem Tab.below {w w' : World} {B : Nat} (h : Tab w) (hb : Below B w w') (hB : w.heap.size ≤ B) : Tab w' := by
  obtain ⟨t, fr, h⟩ := h
  exact ⟨t, fr, by rw [hb.block _ (Nat.lt_of_lt_of_le (Array.getElem?_eq_some_iff.1 h).1 hB)]; exact h⟩

theorem rule1 (p : List UInt8) (z : Nat) (m : Int) (o : Bool) : faultR p z m o true false true false = faultI 1 p z m o := by
  unfold faultR faultI sizeB formB modeB
  cases pathB p <;> cases o <;> by_cases h1 : z ≤ 20 <;> by_cases h2 : z = 0 <;> by_cases h3 : m = 0 <;> by_cases h4 : 0 < m <;> by_cases h5 : m ≤ 511 <;> simp [h1, h2, h3, h4, h5] <;> omega
end Go.Proofs.YtbgejefmchnhcaaDoor.Recs
