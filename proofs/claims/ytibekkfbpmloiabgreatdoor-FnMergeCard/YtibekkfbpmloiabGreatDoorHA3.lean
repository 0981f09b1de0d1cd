/- Parts of several texts of mine in one file (each begins with its own remark). -/
import Derived.Test.YtibekkfbpmloiabGreatDoorHA1
import Derived.Test.YtibekkfbpmloiabGreatDoorHA2
import Derived.Test.YtibekkfbpmloiabGreatDoorChecked
import Derived.BigQuiet
import Derived.Deep.QuietTactic
import Derived.Deep.RegionHeld3
import Derived.StillTailTactics
import Derived.Deep.Draws
import Derived.Deep.LoopGhost
import Derived.WalkKit
import Derived.WalkSpells
import Derived.WalkSmall
import Derived.Lib.OthersKept
import Derived.Lib.Hide
import Derived.Lib.Strings
import Derived.OpenShut
import Derived.ShutString
import Derived.ChangeArms
import Derived.WideShapes
import Derived.Lib.LaidTab
import Derived.Deep.Slices
/- Records: what RecordFault of the program and of its model answer, as one plain function of the record's fields. Condition: the program's table of kinds holds what its own initialiser lays. -/
namespace Go.Proofs.YtibekkfbpmloiabGreatDoor.Recs
open Go.RowKit Paths

def sizeB (need : Bool) (z : Nat) : Bool := decide (z ≤ 20) && (decide (0 < z) || !need)
def formB (ub uo : Bool) (z : Nat) (o : Bool) : Bool := (ub || decide (z = 0)) && (uo || !o)
def modeB (um : Bool) (m : Int) : Bool := decide (m = 0) || (um && (decide (0 < m) && decide (m ≤ 511)))
def faultR (p : List UInt8) (z : Nat) (m : Int) (o ub nb um uo : Bool) : Int :=
  if pathB p = false then 10 else if sizeB nb z = false then 8 else if formB ub uo z o = false then 3 else if modeB um m = false then 4 else 0
/-- The first fault of a record; 0 of none. -/
def faultI (k : Int) (p : List UInt8) (z : Nat) (m : Int) (o : Bool) : Int :=
  if k < 1 ∨ 4 < k then 9 else if pathB p = false then 10 else if 20 < z ∨ k = 2 ∧ z = 0 then 8
  else if z ≠ 0 ∧ (k = 3 ∨ k = 4) ∨ o = true ∧ k ≠ 3 then 3 else if m < 0 ∨ 511 < m ∨ m ≠ 0 ∧ (k = 4 ∨ k = 2) then 4 else 0

theorem bcell {W w1 : World} (hb : Below W.heap.size W w1) : (∀ b o, b < W.heap.size → w1.cell? ⟨b, o, none⟩ = W.cell? ⟨b, o, none⟩) ∧ (∀ b o, b < W.heap.size → w1.frozen? ⟨b, o, none⟩ = W.frozen? ⟨b, o, none⟩) :=
  ⟨fun b o h => hb.cell (p := ⟨b, o, none⟩) h, fun b o h => hb.frozen (p := ⟨b, o, none⟩) h⟩

theorem allowsSize_any (ub nb um uo : Bool) (z : Nat) (w : World) : Calls Tryz.prog 226 #[.agg #[.bool ub, .bool nb, .bool um, .bool uo], .int .i64 z] w fun e w' => e = .returned (.bool (sizeB nb z)) ∧ Below w.heap.size w w' := by
  cases nb
  all_goals
    go_enter Tryz.func226, Tryz.ntmps226
    go_wp2
    all_goals (go_ret; exact ⟨ret_bool (by rw [Bool.eq_iff_iff]; simp [sizeB] <;> omega), (Below.refl _ _).alloc (Nat.le_refl _) _⟩)

theorem allowsForm_any (ub nb um uo : Bool) (s : ByteArray) (o : Bool) (w : World) : Calls Tryz.prog 227 #[.agg #[.bool ub, .bool nb, .bool um, .bool uo], .string s, .bool o] w fun e w' => e = .returned (.bool (formB ub uo s.size o)) ∧ Below w.heap.size w w' := by
  by_cases h1 : s.size = 0
  · have he := isEmpty_true h1
    have HR := Lib.hid (show formB ub uo s.size o = (uo || !o) by unfold formB; rw [h1]; simp)
    cases ub <;> cases uo <;> cases o
    all_goals
      go_enter Tryz.func227, Tryz.ntmps227
      go_wp2
      all_goals (go_ret; exact ⟨ret_bool (by rw [HR.out]; rfl), (Below.refl _ _).alloc (Nat.le_refl _) _⟩)
  · have he := isEmpty_false (by omega : 0 < s.size)
    have HR := Lib.hid (show formB ub uo s.size o = (ub && (uo || !o)) by unfold formB; simp [h1])
    cases ub <;> cases uo <;> cases o
    all_goals
      go_enter Tryz.func227, Tryz.ntmps227
      go_wp2
      all_goals (go_ret; exact ⟨ret_bool (by rw [HR.out]; rfl), (Below.refl _ _).alloc (Nat.le_refl _) _⟩)

theorem allowsMode_any (ub nb um uo : Bool) (m : Int) (w : World) : Calls Tryz.prog 228 #[.agg #[.bool ub, .bool nb, .bool um, .bool uo], .int .i64 m] w fun e w' => e = .returned (.bool (modeB um m)) ∧ Below w.heap.size w w' := by
  cases um
  all_goals
    by_cases h0 : m = 0
    · subst h0
      go_enter Tryz.func228, Tryz.ntmps228
      go_wp2
      all_goals (go_ret; exact ⟨ret_bool (by simp [modeB]), (Below.refl _ _).alloc (Nat.le_refl _) _⟩)
    · have hd : (m == 0) = false := by simpa using h0
      go_enter Tryz.func228, Tryz.ntmps228
      go_wp2
      all_goals (go_ret; exact ⟨ret_bool (by rw [Bool.eq_iff_iff]; simp [modeB] <;> omega), (Below.refl _ _).alloc (Nat.le_refl _) _⟩)
end Go.Proofs.YtibekkfbpmloiabGreatDoor.Recs

/- Records: what RecordFault of the program and of its model answer. Condition (of the program's): its table of kinds holds what its own initialiser lays. -/
namespace Go.Proofs.YtibekkfbpmloiabGreatDoor.Recs
open Go.RowKit Paths

theorem ret_int {a b : Int} (h : a = b) : Ending.returned (.int .i64 a) = .returned (.int .i64 b) := by rw [h]

set_option maxHeartbeats 400000 in
theorem fault_any (k m : Int) (p b : ByteArray) (o ub nb um uo : Bool) (w : World) (hp : p.size ≤ maxLen) :
    Calls Tryz.prog 214 #[.agg #[.int .i64 k, .string p, .string b, .int .i64 m, .bool o, .bool ub, .bool nb, .bool um, .bool uo]] w fun e w' => e = .returned (.int .i64 (faultR p.data.toList b.size m o ub nb um uo)) ∧ Below w.heap.size w w' := by
  rcases Bool.eq_false_or_eq_true (pathB p.data.toList) with h1 | h1
  rotate_left
  · have HR := Lib.hid (show faultR p.data.toList b.size m o ub nb um uo = 10 by unfold faultR; rw [if_pos h1])
    go_enter Tryz.func214, Tryz.ntmps214
    go_wp2_with fail
    refine (pathOK_impl p _ hp).mono ?_
    rintro e w1 ⟨rfl, hb1⟩
    go_wp2_with fail
    go_ret
    exact ⟨ret_int HR.out.symm, ((Below.refl _ _).alloc (Nat.le_refl _) _).trans (hb1.mono (by simp))⟩
  go_enter Tryz.func214, Tryz.ntmps214
  go_wp2_with fail
  refine (pathOK_impl p _ hp).mono ?_
  rintro e w1 ⟨rfl, hb1⟩
  obtain ⟨hc1, hf1⟩ := bcell hb1
  have hz1 : w.heap.size < w1.heap.size := by have := hb1.size; simp at this; omega
  rcases Bool.eq_false_or_eq_true (sizeB nb b.size) with h2 | h2
  rotate_left
  · have HR := Lib.hid (show faultR p.data.toList b.size m o ub nb um uo = 8 by unfold faultR; rw [if_neg (by rw [h1]; decide), if_pos h2])
    go_wp2_with fail
    refine (allowsSize_any ub nb um uo b.size _).mono ?_
    rintro e w2 ⟨rfl, hb2⟩
    go_wp2_with fail
    go_ret
    exact ⟨ret_int HR.out.symm, (((Below.refl _ _).alloc (Nat.le_refl _) _).trans (hb1.mono (by simp))).trans (hb2.mono (by omega))⟩
  go_wp2_with fail
  refine (allowsSize_any ub nb um uo b.size _).mono ?_
  rintro e w2 ⟨rfl, hb2⟩
  obtain ⟨hc2, hf2⟩ := bcell hb2
  have hz2 : w.heap.size < w2.heap.size := by have := hb2.size; omega
  rcases Bool.eq_false_or_eq_true (formB ub uo b.size o) with h3 | h3
  rotate_left
  · have HR := Lib.hid (show faultR p.data.toList b.size m o ub nb um uo = 3 by unfold faultR; rw [if_neg (by rw [h1]; decide), if_neg (by rw [h2]; decide), if_pos h3])
    go_wp2_with fail
    refine (allowsForm_any ub nb um uo b o _).mono ?_
    rintro e w3 ⟨rfl, hb3⟩
    go_wp2_with fail
    go_ret
    exact ⟨ret_int HR.out.symm, ((((Below.refl _ _).alloc (Nat.le_refl _) _).trans (hb1.mono (by simp))).trans (hb2.mono (by omega))).trans (hb3.mono (by omega))⟩
  go_wp2_with fail
  refine (allowsForm_any ub nb um uo b o _).mono ?_
  rintro e w3 ⟨rfl, hb3⟩
  obtain ⟨hc3, hf3⟩ := bcell hb3
  have hz3 : w.heap.size < w3.heap.size := by have := hb3.size; omega
  rcases Bool.eq_false_or_eq_true (modeB um m) with h4 | h4
  · have HR := Lib.hid (show faultR p.data.toList b.size m o ub nb um uo = 0 by unfold faultR; rw [if_neg (by rw [h1]; decide), if_neg (by rw [h2]; decide), if_neg (by rw [h3]; decide), if_neg (by rw [h4]; decide)])
    go_wp2_with fail
    refine (allowsMode_any ub nb um uo m _).mono ?_
    rintro e w4 ⟨rfl, hb4⟩
    go_wp2_with fail
    go_ret
    exact ⟨ret_int HR.out.symm, (((((Below.refl _ _).alloc (Nat.le_refl _) _).trans (hb1.mono (by simp))).trans (hb2.mono (by omega))).trans (hb3.mono (by omega))).trans (hb4.mono (by omega))⟩
  · have HR := Lib.hid (show faultR p.data.toList b.size m o ub nb um uo = 4 by unfold faultR; rw [if_neg (by rw [h1]; decide), if_neg (by rw [h2]; decide), if_neg (by rw [h3]; decide), if_pos h4])
    go_wp2_with fail
    refine (allowsMode_any ub nb um uo m _).mono ?_
    rintro e w4 ⟨rfl, hb4⟩
    go_wp2_with fail
    go_ret
    exact ⟨ret_int HR.out.symm, (((((Below.refl _ _).alloc (Nat.le_refl _) _).trans (hb1.mono (by simp))).trans (hb2.mono (by omega))).trans (hb3.mono (by omega))).trans (hb4.mono (by omega))⟩

/-! ### The table of kinds -/
def cells : Array Value := #[.bool false, .bool false, .bool false, .bool false, .bool true, .bool false, .bool true, .bool false, .bool true, .bool true, .bool false, .bool false, .bool false, .bool false, .bool true, .bool true, .bool false, .bool false, .bool false, .bool false]
def Tab (w : World) : Prop := ∃ t fr, w.heap[(2 : Nat)]? = some (.cells cells t fr)
theorem Tab.cell {w : World} (h : Tab w) (n : Nat) : w.cell? ⟨2, n, none⟩ = cells[n]? := by
  obtain ⟨t, fr, h⟩ := h
  exact cell_of_row w _ n _ _ _ h
theorem Tab.lt {w : World} (h : Tab w) : 2 < w.heap.size := by
  obtain ⟨t, fr, h⟩ := h
  exact (Array.getElem?_eq_some_iff.1 h).1
theorem Tab.below {w w' : World} {B : Nat} (h : Tab w) (hb : Below B w w') (hB : w.heap.size ≤ B) : Tab w' := by
  obtain ⟨t, fr, h⟩ := h
  exact ⟨t, fr, by rw [hb.block _ (Nat.lt_of_lt_of_le (Array.getElem?_eq_some_iff.1 h).1 hB)]; exact h⟩

theorem rule1 (p : List UInt8) (z : Nat) (m : Int) (o : Bool) : faultR p z m o true false true false = faultI 1 p z m o := by
  unfold faultR faultI sizeB formB modeB
  cases pathB p <;> cases o <;> by_cases h1 : z ≤ 20 <;> by_cases h2 : z = 0 <;> by_cases h3 : m = 0 <;> by_cases h4 : 0 < m <;> by_cases h5 : m ≤ 511 <;> simp [h1, h2, h3, h4, h5] <;> omega
end Go.Proofs.YtibekkfbpmloiabGreatDoor.Recs

/- Records: what RecordFault of the program and of its model answer. Condition (of the program's): its table of kinds holds what its own initialiser lays. -/
namespace Go.Proofs.YtibekkfbpmloiabGreatDoor.Recs
open Go.RowKit Paths

theorem rule2 (p : List UInt8) (z : Nat) (m : Int) (o : Bool) : faultR p z m o true true false false = faultI 2 p z m o := by
  unfold faultR faultI sizeB formB modeB
  cases pathB p <;> cases o <;> by_cases h1 : z ≤ 20 <;> by_cases h2 : z = 0 <;> by_cases h3 : m = 0 <;> by_cases h4 : 0 < m <;> by_cases h5 : m ≤ 511 <;> simp [h1, h2, h3, h4, h5] <;> omega
theorem rule3 (p : List UInt8) (z : Nat) (m : Int) (o : Bool) : faultR p z m o false false true true = faultI 3 p z m o := by
  unfold faultR faultI sizeB formB modeB
  cases pathB p <;> cases o <;> by_cases h1 : z ≤ 20 <;> by_cases h2 : z = 0 <;> by_cases h3 : m = 0 <;> by_cases h4 : 0 < m <;> by_cases h5 : m ≤ 511 <;> simp [h1, h2, h3, h4, h5] <;> omega
theorem rule4 (p : List UInt8) (z : Nat) (m : Int) (o : Bool) : faultR p z m o false false false false = faultI 4 p z m o := by
  unfold faultR faultI sizeB formB modeB
  cases pathB p <;> cases o <;> by_cases h1 : z ≤ 20 <;> by_cases h2 : z = 0 <;> by_cases h3 : m = 0 <;> by_cases h4 : 0 < m <;> by_cases h5 : m ≤ 511 <;> simp [h1, h2, h3, h4, h5] <;> omega

set_option maxRecDepth 100000 in
set_option maxHeartbeats 400000 in
theorem recordFault_impl (k m : Int) (p b : ByteArray) (o : Bool) (w : World) (hp : p.size ≤ maxLen) (ht : Tab w) :
    Calls Tryz.prog 191 #[.agg #[.int .i64 k, .string p, .string b, .int .i64 m, .bool o]] w fun e w' => e = .returned (.int .i64 (faultI k p.data.toList b.size m o)) ∧ Below w.heap.size w w' := by
  by_cases h0 : k < 1
  · have HR := Lib.hid (show faultI k p.data.toList b.size m o = 9 by unfold faultI; rw [if_pos (.inl h0)])
    have hd : decide (k < 1) = true := by simpa using h0
    go_enter Tryz.func191, Tryz.ntmps191
    go_wp2
    go_ret
    exact ⟨ret_int HR.out.symm, (Below.refl _ _).alloc (Nat.le_refl _) _⟩
  have hd0 : decide (k < 1) = false := by simpa using h0
  by_cases h1 : 4 < k
  · have HR := Lib.hid (show faultI k p.data.toList b.size m o = 9 by unfold faultI; rw [if_pos (.inr h1)])
    go_enter Tryz.func191, Tryz.ntmps191
    go_wp2
    go_ret
    exact ⟨ret_int HR.out.symm, (Below.refl _ _).alloc (Nat.le_refl _) _⟩
  have hlt := ht.lt
  have HT : Tab (w.alloc (.cells #[.int .i64 k, .string p, .string b, .int .i64 m, .bool o] 53)) := ht.below ((Below.refl _ _).alloc (Nat.le_refl _) _) (Nat.le_refl _)
  have e : k = 1 ∨ k = 2 ∨ k = 3 ∨ k = 4 := by omega
  rcases e with rfl | rfl | rfl | rfl
  · rw [← rule1]
    have c0 := HT.cell 4
    have c1 := HT.cell 5
    have c2 := HT.cell 6
    have c3 := HT.cell 7
    simp only [cells, List.getElem?_toArray, List.getElem?_cons_succ, List.getElem?_cons_zero] at c0 c1 c2 c3
    go_enter Tryz.func191, Tryz.ntmps191
    go_wp2_with fail
    have a0 : (w.alloc (.cells #[.int .i64 1, .string p, .string b, .int .i64 m, .bool o] 53)).cell? ⟨w.heap.size, 0, none⟩ = some (.int .i64 1) := by go_simp
    have a1 : (w.alloc (.cells #[.int .i64 1, .string p, .string b, .int .i64 m, .bool o] 53)).cell? ⟨w.heap.size, 1, none⟩ = some (.string p) := by go_simp
    have a2 : (w.alloc (.cells #[.int .i64 1, .string p, .string b, .int .i64 m, .bool o] 53)).cell? ⟨w.heap.size, 2, none⟩ = some (.string b) := by go_simp
    have a3 : (w.alloc (.cells #[.int .i64 1, .string p, .string b, .int .i64 m, .bool o] 53)).cell? ⟨w.heap.size, 3, none⟩ = some (.int .i64 m) := by go_simp
    have a4 : (w.alloc (.cells #[.int .i64 1, .string p, .string b, .int .i64 m, .bool o] 53)).cell? ⟨w.heap.size, 4, none⟩ = some (.bool o) := by go_simp
    have hb0 : Below w.heap.size w (w.alloc (.cells #[.int .i64 1, .string p, .string b, .int .i64 m, .bool o] 53)) := (Below.refl _ _).alloc (Nat.le_refl _) _
    generalize w.alloc (.cells #[.int .i64 1, .string p, .string b, .int .i64 m, .bool o] 53) = W at *
    go_still_tail 6, (by kernel_rfl)
    change wpList _ _ _ _ _ W.drew
    have hb0' : Below w.heap.size w W.drew := hb0.drew
    clear hb0
    generalize W.drew = W2 at *
    go_wp2_with fail
    refine (fault_any 1 m p b o true false true false _ hp).mono ?_
    rintro e w1 ⟨rfl, hb1⟩
    go_wp2_with fail
    go_ret
    exact ⟨rfl, hb0'.trans (hb1.mono hb0'.size)⟩
  · rw [← rule2]
    have c0 := HT.cell 8
    have c1 := HT.cell 9
    have c2 := HT.cell 10
    have c3 := HT.cell 11
    simp only [cells, List.getElem?_toArray, List.getElem?_cons_succ, List.getElem?_cons_zero] at c0 c1 c2 c3
    go_enter Tryz.func191, Tryz.ntmps191
    go_wp2_with fail
    have a0 : (w.alloc (.cells #[.int .i64 2, .string p, .string b, .int .i64 m, .bool o] 53)).cell? ⟨w.heap.size, 0, none⟩ = some (.int .i64 2) := by go_simp
    have a1 : (w.alloc (.cells #[.int .i64 2, .string p, .string b, .int .i64 m, .bool o] 53)).cell? ⟨w.heap.size, 1, none⟩ = some (.string p) := by go_simp
    have a2 : (w.alloc (.cells #[.int .i64 2, .string p, .string b, .int .i64 m, .bool o] 53)).cell? ⟨w.heap.size, 2, none⟩ = some (.string b) := by go_simp
    have a3 : (w.alloc (.cells #[.int .i64 2, .string p, .string b, .int .i64 m, .bool o] 53)).cell? ⟨w.heap.size, 3, none⟩ = some (.int .i64 m) := by go_simp
    have a4 : (w.alloc (.cells #[.int .i64 2, .string p, .string b, .int .i64 m, .bool o] 53)).cell? ⟨w.heap.size, 4, none⟩ = some (.bool o) := by go_simp
    have hb0 : Below w.heap.size w (w.alloc (.cells #[.int .i64 2, .string p, .string b, .int .i64 m, .bool o] 53)) := (Below.refl _ _).alloc (Nat.le_refl _) _
    generalize w.alloc (.cells #[.int .i64 2, .string p, .string b, .int .i64 m, .bool o] 53) = W at *
    go_still_tail 6, (by kernel_rfl)
    change wpList _ _ _ _ _ W.drew
    have hb0' : Below w.heap.size w W.drew := hb0.drew
    clear hb0
    generalize W.drew = W2 at *
    go_wp2_with fail
    refine (fault_any 2 m p b o true true false false _ hp).mono ?_
    rintro e w1 ⟨rfl, hb1⟩
    go_wp2_with fail
    go_ret
    exact ⟨rfl, hb0'.trans (hb1.mono hb0'.size)⟩
  · rw [← rule3]
    have c0 := HT.cell 12
    have c1 := HT.cell 13
    have c2 := HT.cell 14
    have c3 := HT.cell 15
    simp only [cells, List.getElem?_toArray, List.getElem?_cons_succ, List.getElem?_cons_zero] at c0 c1 c2 c3
    go_enter Tryz.func191, Tryz.ntmps191
    go_wp2_with fail
    have a0 : (w.alloc (.cells #[.int .i64 3, .string p, .string b, .int .i64 m, .bool o] 53)).cell? ⟨w.heap.size, 0, none⟩ = some (.int .i64 3) := by go_simp
    have a1 : (w.alloc (.cells #[.int .i64 3, .string p, .string b, .int .i64 m, .bool o] 53)).cell? ⟨w.heap.size, 1, none⟩ = some (.string p) := by go_simp
    have a2 : (w.alloc (.cells #[.int .i64 3, .string p, .string b, .int .i64 m, .bool o] 53)).cell? ⟨w.heap.size, 2, none⟩ = some (.string b) := by go_simp
    have a3 : (w.alloc (.cells #[.int .i64 3, .string p, .string b, .int .i64 m, .bool o] 53)).cell? ⟨w.heap.size, 3, none⟩ = some (.int .i64 m) := by go_simp
    have a4 : (w.alloc (.cells #[.int .i64 3, .string p, .string b, .int .i64 m, .bool o] 53)).cell? ⟨w.heap.size, 4, none⟩ = some (.bool o) := by go_simp
    have hb0 : Below w.heap.size w (w.alloc (.cells #[.int .i64 3, .string p, .string b, .int .i64 m, .bool o] 53)) := (Below.refl _ _).alloc (Nat.le_refl _) _
    generalize w.alloc (.cells #[.int .i64 3, .string p, .string b, .int .i64 m, .bool o] 53) = W at *
    go_still_tail 6, (by kernel_rfl)
    change wpList _ _ _ _ _ W.drew
    have hb0' : Below w.heap.size w W.drew := hb0.drew
    clear hb0
    generalize W.drew = W2 at *
    go_wp2_with fail
    refine (fault_any 3 m p b o false false true true _ hp).mono ?_
    rintro e w1 ⟨rfl, hb1⟩
    go_wp2_with fail
    go_ret
    exact ⟨rfl, hb0'.trans (hb1.mono hb0'.size)⟩
  · rw [← rule4]
    have c0 := HT.cell 16
    have c1 := HT.cell 17
    have c2 := HT.cell 18
    have c3 := HT.cell 19
    simp only [cells, List.getElem?_toArray, List.getElem?_cons_succ, List.getElem?_cons_zero] at c0 c1 c2 c3
    go_enter Tryz.func191, Tryz.ntmps191
    go_wp2_with fail
    have a0 : (w.alloc (.cells #[.int .i64 4, .string p, .string b, .int .i64 m, .bool o] 53)).cell? ⟨w.heap.size, 0, none⟩ = some (.int .i64 4) := by go_simp
    have a1 : (w.alloc (.cells #[.int .i64 4, .string p, .string b, .int .i64 m, .bool o] 53)).cell? ⟨w.heap.size, 1, none⟩ = some (.string p) := by go_simp
    have a2 : (w.alloc (.cells #[.int .i64 4, .string p, .string b, .int .i64 m, .bool o] 53)).cell? ⟨w.heap.size, 2, none⟩ = some (.string b) := by go_simp
    have a3 : (w.alloc (.cells #[.int .i64 4, .string p, .string b, .int .i64 m, .bool o] 53)).cell? ⟨w.heap.size, 3, none⟩ = some (.int .i64 m) := by go_simp
    have a4 : (w.alloc (.cells #[.int .i64 4, .string p, .string b, .int .i64 m, .bool o] 53)).cell? ⟨w.heap.size, 4, none⟩ = some (.bool o) := by go_simp
    have hb0 : Below w.heap.size w (w.alloc (.cells #[.int .i64 4, .string p, .string b, .int .i64 m, .bool o] 53)) := (Below.refl _ _).alloc (Nat.le_refl _) _
    generalize w.alloc (.cells #[.int .i64 4, .string p, .string b, .int .i64 m, .bool o] 53) = W at *
    go_still_tail 6, (by kernel_rfl)
    change wpList _ _ _ _ _ W.drew
    have hb0' : Below w.heap.size w W.drew := hb0.drew
    clear hb0
    generalize W.drew = W2 at *
    go_wp2_with fail
    refine (fault_any 4 m p b o false false false false _ hp).mono ?_
    rintro e w1 ⟨rfl, hb1⟩
    go_wp2_with fail
    go_ret
    exact ⟨rfl, hb0'.trans (hb1.mono hb0'.size)⟩

end Go.Proofs.YtibekkfbpmloiabGreatDoor.Recs

/- Records: what RecordFault of the model answers. -/
namespace Go.Proofs.YtibekkfbpmloiabGreatDoor.Recs
open Go.RowKit Paths

def kindOk (k : Int) : Prop := k = 1 ∨ k = 2 ∨ k = 3 ∨ k = 4
theorem in1 : inB 1 1 4 = true := by decide
theorem in2 : inB 2 1 4 = true := by decide
theorem in3 : inB 3 1 4 = true := by decide
theorem in4 : inB 4 1 4 = true := by decide

set_option maxHeartbeats 1000000 in
theorem l02Fault_bad (k m : Int) (p b : ByteArray) (o : Bool) (w : World) (h0 : ¬ kindOk k) :
    Calls Tryz.prog 181 #[.agg #[.int .i64 k, .string p, .string b, .int .i64 m, .bool o]] w fun e w' => e = .returned (.int .i64 (faultI k p.data.toList b.size m o)) ∧ Below w.heap.size w w' := by
  have h0' : k < 1 ∨ 4 < k := by unfold kindOk at h0; omega
  have HR := Lib.hid (show faultI k p.data.toList b.size m o = 9 by unfold faultI; rw [if_pos h0'])
  have hin : inB k 1 4 = false := inB_false (by omega)
  have hd : (k == 3) = false := by simp; omega
  clear h0 h0'
  go_enter Tryz.func181, Tryz.ntmps181
  go_wp2_with (go_at_call 105; refine (l01In_any _ _ _ _).mono ?_; rintro e w' ⟨rfl, rfl⟩)
  go_ret
  exact ⟨ret_int HR.out.symm, (Below.refl _ _).alloc (Nat.le_refl _) _⟩

set_option maxHeartbeats 1000000 in
theorem l02Fault_name (k m : Int) (p b : ByteArray) (o : Bool) (w : World) (h0 : kindOk k) (h1 : pathB p.data.toList = false) :
    Calls Tryz.prog 181 #[.agg #[.int .i64 k, .string p, .string b, .int .i64 m, .bool o]] w fun e w' => e = .returned (.int .i64 (faultI k p.data.toList b.size m o)) ∧ Below w.heap.size w w' := by
  have HR := Lib.hid (show faultI k p.data.toList b.size m o = 10 by unfold faultI kindOk at *; rw [if_neg (by omega), if_pos h1])
  have i1 := in1
  have i2 := in2
  have i3 := in3
  have i4 := in4
  rcases h0 with rfl | rfl | rfl | rfl
  all_goals
    go_enter Tryz.func181, Tryz.ntmps181
    go_wp2_with (go_at_call 105; refine (l01In_any _ _ _ _).mono ?_; rintro e w' ⟨rfl, rfl⟩)
    refine (l01OK_any _ _).mono ?_
    rintro e w1 ⟨rfl, hb1⟩
    go_wp2_with fail
    go_ret
    exact ⟨ret_int HR.out.symm, ((Below.refl _ _).alloc (Nat.le_refl _) _).trans (hb1.mono (by simp))⟩

theorem tail_eq {k m : Int} {p : List UInt8} {z : Nat} {o : Bool} (h0 : kindOk k) (h1 : pathB p = true) : faultI k p z m o = if 20 < z ∨ k = 2 ∧ z = 0 then 8
  else if z ≠ 0 ∧ (k = 3 ∨ k = 4) ∨ o = true ∧ k ≠ 3 then 3 else if m < 0 ∨ 511 < m ∨ m ≠ 0 ∧ (k = 4 ∨ k = 2) then 4 else 0 := by
  unfold faultI kindOk at *
  rw [if_neg (by omega), if_neg (by rw [h1]; decide)]

set_option maxHeartbeats 4000000 in
theorem l02Fault_rest (k m : Int) (p b : ByteArray) (o : Bool) (w : World) (h0 : kindOk k) (h1 : pathB p.data.toList = true) :
    Calls Tryz.prog 181 #[.agg #[.int .i64 k, .string p, .string b, .int .i64 m, .bool o]] w fun e w' => e = .returned (.int .i64 (faultI k p.data.toList b.size m o)) ∧ Below w.heap.size w w' := by
  have HT := Lib.hid (tail_eq (z := b.size) (o := o) (m := m) h0 h1)
  have i1 := in1
  have i2 := in2
  have i3 := in3
  have i4 := in4
  by_cases h2 : 20 < b.size
  · have he := isEmpty_false (by omega : 0 < b.size)
    have HR := Lib.hid (show faultI k p.data.toList b.size m o = 8 by rw [HT.out, if_pos (.inl h2)])
    rcases h0 with rfl | rfl | rfl | rfl
    all_goals
      go_enter Tryz.func181, Tryz.ntmps181
      go_wp2_with (go_at_call 105; refine (l01In_any _ _ _ _).mono ?_; rintro e w' ⟨rfl, rfl⟩)
      refine (l01OK_any _ _).mono ?_
      rintro e w1 ⟨rfl, hb1⟩
      obtain ⟨hc1, hf1⟩ := bcell hb1
      go_wp2_with fail
      go_ret
      exact ⟨ret_int HR.out.symm, ((Below.refl _ _).alloc (Nat.le_refl _) _).trans (hb1.mono (by simp))⟩
  have hd2 : decide ((20 : Int) < (b.size : Int)) = false := by simp; omega
  by_cases h3 : b.size = 0
  · have he := isEmpty_true h3
    rw [h3] at HT
    rcases h0 with rfl | rfl | rfl | rfl
    all_goals
      cases o
      all_goals
        go_enter Tryz.func181, Tryz.ntmps181
        go_wp2_with (go_at_call 105; refine (l01In_any _ _ _ _).mono ?_; rintro e w' ⟨rfl, rfl⟩)
        refine (l01OK_any _ _).mono ?_
        rintro e w1 ⟨rfl, hb1⟩
        obtain ⟨hc1, hf1⟩ := bcell hb1
        go_wp2_with (go_at_call 105; refine (l01In_any _ _ _ _).mono ?_; rintro e w' ⟨rfl, rfl⟩)
        all_goals
          go_ret
          exact ⟨ret_int (by rw [h3, HT.out]; simp_all [inB] <;> omega), ((Below.refl _ _).alloc (Nat.le_refl _) _).trans (hb1.mono (by simp))⟩
  · have he := isEmpty_false (by omega : 0 < b.size)
    have hz : ¬ (b.size = 0) := h3
    rcases h0 with rfl | rfl | rfl | rfl
    all_goals
      cases o
      all_goals
        go_enter Tryz.func181, Tryz.ntmps181
        go_wp2_with (go_at_call 105; refine (l01In_any _ _ _ _).mono ?_; rintro e w' ⟨rfl, rfl⟩)
        refine (l01OK_any _ _).mono ?_
        rintro e w1 ⟨rfl, hb1⟩
        obtain ⟨hc1, hf1⟩ := bcell hb1
        go_wp2_with (go_at_call 105; refine (l01In_any _ _ _ _).mono ?_; rintro e w' ⟨rfl, rfl⟩)
        all_goals
          go_ret
          exact ⟨ret_int (by rw [HT.out]; simp_all [inB] <;> omega), ((Below.refl _ _).alloc (Nat.le_refl _) _).trans (hb1.mono (by simp))⟩

theorem l02Fault_any (k m : Int) (p b : ByteArray) (o : Bool) (w : World) :
    Calls Tryz.prog 181 #[.agg #[.int .i64 k, .string p, .string b, .int .i64 m, .bool o]] w fun e w' => e = .returned (.int .i64 (faultI k p.data.toList b.size m o)) ∧ Below w.heap.size w w' := by
  by_cases h0 : kindOk k
  · rcases Bool.eq_false_or_eq_true (pathB p.data.toList) with h1 | h1
    · exact l02Fault_rest k m p b o w h0 h1
    · exact l02Fault_name k m p b o w h0 h1
  · exact l02Fault_bad k m p b o w h0
end Go.Proofs.YtibekkfbpmloiabGreatDoor.Recs

/- Records as the laws take them: opening one, its size, its copy, its comparison. -/
namespace Go.Proofs.YtibekkfbpmloiabGreatDoor.Recs
set_option maxRecDepth 100000
open Go.RowKit Paths Go.WideShapes Go.ChangeShapes

section
variable {H : Type} {enc : TypeId × Value → H} {w : World} {base : Nat} {spare : Nat → Bool} {held : Bool}
theorem cB : Tryz.prog.cellsOf 4 = 1 := by kernel_rfl
end

end Go.Proofs.YtibekkfbpmloiabGreatDoor.Recs

/- Slices of records: what the memory holds where one reads as a list of records; a slice of records that came in. -/
namespace Go.Proofs.YtibekkfbpmloiabGreatDoor.Recs
set_option maxRecDepth 100000
open Go.RowKit Paths Go.WideShapes Go.ChangeShapes

/-- A record's five fields. -/
structure R where
  k : Int
  m : Int
  p : ByteArray
  b : ByteArray
  o : Bool
def R.val (r : R) : Value := .agg #[.int .i64 r.k, .string r.p, .string r.b, .int .i64 r.m, .bool r.o]
def R.fault (r : R) : Int := faultI r.k r.p.data.toList r.b.size r.m r.o

/-- The five cells of a record, from a place on. -/
def RecCells (w : World) (b off : Nat) (r : R) : Prop :=
  w.cell? ⟨b, off, none⟩ = some (.int .i64 r.k) ∧ w.cell? ⟨b, off + 1, none⟩ = some (.string r.p) ∧ w.cell? ⟨b, off + 2, none⟩ = some (.string r.b) ∧ w.cell? ⟨b, off + 3, none⟩ = some (.int .i64 r.m) ∧ w.cell? ⟨b, off + 4, none⟩ = some (.bool r.o)
theorem RecCells.below {w w' : World} {B b off : Nat} {r : R} (h : RecCells w b off r) (hb : Below B w w') (hB : b < B) : RecCells w' b off r := by
  obtain ⟨h0, h1, h2, h3, h4⟩ := h
  exact ⟨(hb.cell (p := ⟨b, off, none⟩) hB).trans h0, (hb.cell (p := ⟨b, off + 1, none⟩) hB).trans h1, (hb.cell (p := ⟨b, off + 2, none⟩) hB).trans h2, (hb.cell (p := ⟨b, off + 3, none⟩) hB).trans h3, (hb.cell (p := ⟨b, off + 4, none⟩) hB).trans h4⟩

/-- A slice that reads as the records L, wherever it lies. -/
def RecSl (w : World) (v : Value) (L : List R) : Prop :=
  ∃ A cap, v = .slice A L.length cap ∧ L.length ≤ cap ∧ (0 < L.length → ∃ b off, A = some ⟨b, off, none⟩ ∧ b < w.heap.size ∧ ∀ i r, L[i]? = some r → RecCells w b (off + i * 5) r)
theorem RecSl.below {w w' : World} {v : Value} {L : List R} (h : RecSl w v L) (hb : Below w.heap.size w w') : RecSl w' v L := by
  obtain ⟨A, cap, rfl, hc, h⟩ := h
  refine ⟨A, cap, rfl, hc, fun hn => ?_⟩
  obtain ⟨b, off, rfl, hlt, hcell⟩ := h hn
  exact ⟨b, off, rfl, Nat.lt_of_lt_of_le hlt hb.size, fun i r hi => (hcell i r hi).below hb hlt⟩

section
variable {H : Type} {enc : TypeId × Value → H} {w : World} {base : Nat} {spare : Nat → Bool} {held : Bool}

end
end Go.Proofs.YtibekkfbpmloiabGreatDoor.Recs
