/- Parts of several texts of mine in one file (each begins with its own remark). -/
import Derived.Test.YtciflchaepchiaaDoorFA1
import Derived.Test.YtciflchaepchiaaDoorFA2
import Derived.Test.YtciflchaepchiaaDoorChecked
import Derived.Test.YtciflchaepchiaaDoorRows
import Derived.BigQuiet
import Derived.Deep.QuietTactic
import Derived.Deep.RegionHeld3
import Derived.StillTailTactics
import Derived.Deep.Draws
import Derived.Deep.LoopGhost
import Derived.WalkKit
import Derived.WalkSpells
import Derived.WalkSmall
import Derived.Lib.OthersKept
import Derived.Lib.Hide
import Derived.Lib.Strings
import Derived.OpenShut
import Derived.ShutString
import Derived.ChangeArms
import Derived.WideShapes
import Derived.Lib.LaidTab
import Derived.ChangeVars
import Derived.Deep.DeepHandedRow
import Derived.Deep.Slices
/- Records: what RecordFault of the program and of its model answer. Condition (of the program's): its table of kinds holds what its own initialiser lays. -/
namespace Go.Proofs.YtciflchaepchiaaDoor.Recs
open Go.RowKit Paths

theorem ret_int {a b : Int} (h : a = b) : Ending.returned (.int .i64 a) = .returned (.int .i64 b) := by rw [h]

set_option maxHeartbeats 400000 in
theorem fault_any (k m : Int) (p b : ByteArray) (o ub nb um uo : Bool) (w : World) (hp : p.size ≤ maxLen) :
    Calls Tryd.prog 60 #[.agg #[.int .i64 k, .string p, .string b, .int .i64 m, .bool o, .bool ub, .bool nb, .bool um, .bool uo]] w fun e w' => e = .returned (.int .i64 (faultR p.data.toList b.size m o ub nb um uo)) ∧ Below w.heap.size w w' := by
  rcases Bool.eq_false_or_eq_true (pathB p.data.toList) with h1 | h1
  rotate_left
  · have HR := Lib.hid (show faultR p.data.toList b.size m o ub nb um uo = 10 by unfold faultR; rw [if_pos h1])
    go_enter Tryd.func60, Tryd.ntmps60
    go_wp2_with fail
    refine (pathOK_impl p _ hp).mono ?_
    rintro e w1 ⟨rfl, hb1⟩
    go_wp2_with fail
    go_ret
    exact ⟨ret_int HR.out.symm, ((Below.refl _ _).alloc (Nat.le_refl _) _).trans (hb1.mono (by simp))⟩
  go_enter Tryd.func60, Tryd.ntmps60
  go_wp2_with fail
  refine (pathOK_impl p _ hp).mono ?_
  rintro e w1 ⟨rfl, hb1⟩
  obtain ⟨hc1, hf1⟩ := bcell hb1
  have hz1 : w.heap.size < w1.heap.size := by have := hb1.size; simp at this; omega
  rcases Bool.eq_false_or_eq_true (sizeB nb b.size) with h2 | h2
  rotate_left
  · have HR := Lib.hid (show faultR p.data.toList b.size m o ub nb um uo = 8 by unfold faultR; rw [if_neg (by rw [h1]; decide), if_pos h2])
    go_wp2_with fail
    refine (allowsSize_any ub nb um uo b.size _).mono ?_
    rintro e w2 ⟨rfl, hb2⟩
    go_wp2_with fail
    go_ret
    exact ⟨ret_int HR.out.symm, (((Below.refl _ _).alloc (Nat.le_refl _) _).trans (hb1.mono (by simp))).trans (hb2.mono (by omega))⟩
  go_wp2_with fail
  refine (allowsSize_any ub nb um uo b.size _).mono ?_
  rintro e w2 ⟨rfl, hb2⟩
  obtain ⟨hc2, hf2⟩ := bcell hb2
  have hz2 : w.heap.size < w2.heap.size := by have := hb2.size; omega
  rcases Bool.eq_false_or_eq_true (formB ub uo b.size o) with h3 | h3
  rotate_left
  · have HR := Lib.hid (show faultR p.data.toList b.size m o ub nb um uo = 3 by unfold faultR; rw [if_neg (by rw [h1]; decide), if_neg (by rw [h2]; decide), if_pos h3])
    go_wp2_with fail
    refine (allowsForm_any ub nb um uo b o _).mono ?_
    rintro e w3 ⟨rfl, hb3⟩
    go_wp2_with fail
    go_ret
    exact ⟨ret_int HR.out.symm, ((((Below.refl _ _).alloc (Nat.le_refl _) _).trans (hb1.mono (by simp))).trans (hb2.mono (by omega))).trans (hb3.mono (by omega))⟩
  go_wp2_with fail
  refine (allowsForm_any ub nb um uo b o _).mono ?_
  rintro e w3 ⟨rfl, hb3⟩
  obtain ⟨hc3, hf3⟩ := bcell hb3
  have hz3 : w.heap.size < w3.heap.size := by have := hb3.size; omega
  rcases Bool.eq_false_or_eq_true (modeB um m) with h4 | h4
  · have HR := Lib.hid (show faultR p.data.toList b.size m o ub nb um uo = 0 by unfold faultR; rw [if_neg (by rw [h1]; decide), if_neg (by rw [h2]; decide), if_neg (by rw [h3]; decide), if_neg (by rw [h4]; decide)])
    go_wp2_with fail
    refine (allowsMode_any ub nb um uo m _).mono ?_
    rintro e w4 ⟨rfl, hb4⟩
    go_wp2_with fail
    go_ret
    exact ⟨ret_int HR.out.symm, (((((Below.refl _ _).alloc (Nat.le_refl _) _).trans (hb1.mono (by simp))).trans (hb2.mono (by omega))).trans (hb3.mono (by omega))).trans (hb4.mono (by omega))⟩
  · have HR := Lib.hid (show faultR p.data.toList b.size m o ub nb um uo = 4 by unfold faultR; rw [if_neg (by rw [h1]; decide), if_neg (by rw [h2]; decide), if_neg (by rw [h3]; decide), if_pos h4])
    go_wp2_with fail
    refine (allowsMode_any ub nb um uo m _).mono ?_
    rintro e w4 ⟨rfl, hb4⟩
    go_wp2_with fail
    go_ret
    exact ⟨ret_int HR.out.symm, (((((Below.refl _ _).alloc (Nat.le_refl _) _).trans (hb1.mono (by simp))).trans (hb2.mono (by omega))).trans (hb3.mono (by omega))).trans (hb4.mono (by omega))⟩

/-! ### The table of kinds -/
def cells : Array Value := #[.bool false, .bool false, .bool false, .bool false, .bool true, .bool false, .bool true, .bool false, .bool true, .bool true, .bool false, .bool false, .bool false, .bool false, .bool true, .bool true, .bool false, .bool false, .bool false, .bool false]
def Tab (w : World) : Prop := ∃ t fr, w.heap[(2 : Nat)]? = some (.cells cells t fr)
theorem Tab.cell {w : World} (h : Tab w) (n : Nat) : w.cell? ⟨2, n, none⟩ = cells[n]? := by
  obtain ⟨t, fr, h⟩ := h
  exact cell_of_row w _ n _ _ _ h
theorem Tab.lt {w : World} (h : Tab w) : 2 < w.heap.size := by
  obtain ⟨t, fr, h⟩ := h
  exact (Array.getElem?_eq_some_iff.1 h).1
theorem Tab.below {w w' : World} {B : Nat} (h : Tab w) (hb : Below B w w') (hB : w.heap.size ≤ B) : Tab w' := by
  obtain ⟨t, fr, h⟩ := h
  exact ⟨t, fr, by rw [hb.block _ (Nat.lt_of_lt_of_le (Array.getElem?_eq_some_iff.1 h).1 hB)]; exact h⟩

theorem rule1 (p : List UInt8) (z : Nat) (m : Int) (o : Bool) : faultR p z m o true false true false = faultI 1 p z m o := by
  unfold faultR faultI sizeB formB modeB
  cases pathB p <;> cases o <;> by_cases h1 : z ≤ 20 <;> by_cases h2 : z = 0 <;> by_cases h3 : m = 0 <;> by_cases h4 : 0 < m <;> by_cases h5 : m ≤ 511 <;> simp [h1, h2, h3, h4, h5] <;> omega
end Go.Proofs.YtciflchaepchiaaDoor.Recs

/- Records: what RecordFault of the program and of its model answer. Condition (of the program's): its table of kinds holds what its own initialiser lays. -/
namespace Go.Proofs.YtciflchaepchiaaDoor.Recs
open Go.RowKit Paths

theorem rule2 (p : List UInt8) (z : Nat) (m : Int) (o : Bool) : faultR p z m o true true false false = faultI 2 p z m o := by
  unfold faultR faultI sizeB formB modeB
  cases pathB p <;> cases o <;> by_cases h1 : z ≤ 20 <;> by_cases h2 : z = 0 <;> by_cases h3 : m = 0 <;> by_cases h4 : 0 < m <;> by_cases h5 : m ≤ 511 <;> simp [h1, h2, h3, h4, h5] <;> omega
theorem rule3 (p : List UInt8) (z : Nat) (m : Int) (o : Bool) : faultR p z m o false false true true = faultI 3 p z m o := by
  unfold faultR faultI sizeB formB modeB
  cases pathB p <;> cases o <;> by_cases h1 : z ≤ 20 <;> by_cases h2 : z = 0 <;> by_cases h3 : m = 0 <;> by_cases h4 : 0 < m <;> by_cases h5 : m ≤ 511 <;> simp [h1, h2, h3, h4, h5] <;> omega
theorem rule4 (p : List UInt8) (z : Nat) (m : Int) (o : Bool) : faultR p z m o false false false false = faultI 4 p z m o := by
  unfold faultR faultI sizeB formB modeB
  cases pathB p <;> cases o <;> by_cases h1 : z ≤ 20 <;> by_cases h2 : z = 0 <;> by_cases h3 : m = 0 <;> by_cases h4 : 0 < m <;> by_cases h5 : m ≤ 511 <;> simp [h1, h2, h3, h4, h5] <;> omega

set_option maxRecDepth 100000 in
set_option maxHeartbeats 400000 in
theorem recordFault_impl (k m : Int) (p b : ByteArray) (o : Bool) (w : World) (hp : p.size ≤ maxLen) (ht : Tab w) :
    Calls Tryd.prog 45 #[.agg #[.int .i64 k, .string p, .string b, .int .i64 m, .bool o]] w fun e w' => e = .returned (.int .i64 (faultI k p.data.toList b.size m o)) ∧ Below w.heap.size w w' := by
  by_cases h0 : k < 1
  · have HR := Lib.hid (show faultI k p.data.toList b.size m o = 9 by unfold faultI; rw [if_pos (.inl h0)])
    have hd : decide (k < 1) = true := by simpa using h0
    go_enter Tryd.func45, Tryd.ntmps45
    go_wp2
    go_ret
    exact ⟨ret_int HR.out.symm, (Below.refl _ _).alloc (Nat.le_refl _) _⟩
  have hd0 : decide (k < 1) = false := by simpa using h0
  by_cases h1 : 4 < k
  · have HR := Lib.hid (show faultI k p.data.toList b.size m o = 9 by unfold faultI; rw [if_pos (.inr h1)])
    go_enter Tryd.func45, Tryd.ntmps45
    go_wp2
    go_ret
    exact ⟨ret_int HR.out.symm, (Below.refl _ _).alloc (Nat.le_refl _) _⟩
  have hlt := ht.lt
  have HT : Tab (w.alloc (.cells #[.int .i64 k, .string p, .string b, .int .i64 m, .bool o] 27)) := ht.below ((Below.refl _ _).alloc (Nat.le_refl _) _) (Nat.le_refl _)
  have e : k = 1 ∨ k = 2 ∨ k = 3 ∨ k = 4 := by omega
  rcases e with rfl | rfl | rfl | rfl
  · rw [← rule1]
    have c0 := HT.cell 4
    have c1 := HT.cell 5
    have c2 := HT.cell 6
    have c3 := HT.cell 7
    simp only [cells, List.getElem?_toArray, List.getElem?_cons_succ, List.getElem?_cons_zero] at c0 c1 c2 c3
    go_enter Tryd.func45, Tryd.ntmps45
    go_wp2_with fail
    have a0 : (w.alloc (.cells #[.int .i64 1, .string p, .string b, .int .i64 m, .bool o] 27)).cell? ⟨w.heap.size, 0, none⟩ = some (.int .i64 1) := by go_simp
    have a1 : (w.alloc (.cells #[.int .i64 1, .string p, .string b, .int .i64 m, .bool o] 27)).cell? ⟨w.heap.size, 1, none⟩ = some (.string p) := by go_simp
    have a2 : (w.alloc (.cells #[.int .i64 1, .string p, .string b, .int .i64 m, .bool o] 27)).cell? ⟨w.heap.size, 2, none⟩ = some (.string b) := by go_simp
    have a3 : (w.alloc (.cells #[.int .i64 1, .string p, .string b, .int .i64 m, .bool o] 27)).cell? ⟨w.heap.size, 3, none⟩ = some (.int .i64 m) := by go_simp
    have a4 : (w.alloc (.cells #[.int .i64 1, .string p, .string b, .int .i64 m, .bool o] 27)).cell? ⟨w.heap.size, 4, none⟩ = some (.bool o) := by go_simp
    have hb0 : Below w.heap.size w (w.alloc (.cells #[.int .i64 1, .string p, .string b, .int .i64 m, .bool o] 27)) := (Below.refl _ _).alloc (Nat.le_refl _) _
    generalize w.alloc (.cells #[.int .i64 1, .string p, .string b, .int .i64 m, .bool o] 27) = W at *
    go_still_tail 6, (by kernel_rfl)
    change wpList _ _ _ _ _ W.drew
    have hb0' : Below w.heap.size w W.drew := hb0.drew
    clear hb0
    generalize W.drew = W2 at *
    go_wp2_with fail
    refine (fault_any 1 m p b o true false true false _ hp).mono ?_
    rintro e w1 ⟨rfl, hb1⟩
    go_wp2_with fail
    go_ret
    exact ⟨rfl, hb0'.trans (hb1.mono hb0'.size)⟩
  · rw [← rule2]
    have c0 := HT.cell 8
    have c1 := HT.cell 9
    have c2 := HT.cell 10
    have c3 := HT.cell 11
    simp only [cells, List.getElem?_toArray, List.getElem?_cons_succ, List.getElem?_cons_zero] at c0 c1 c2 c3
    go_enter Tryd.func45, Tryd.ntmps45
    go_wp2_with fail
    have a0 : (w.alloc (.cells #[.int .i64 2, .string p, .string b, .int .i64 m, .bool o] 27)).cell? ⟨w.heap.size, 0, none⟩ = some (.int .i64 2) := by go_simp
    have a1 : (w.alloc (.cells #[.int .i64 2, .string p, .string b, .int .i64 m, .bool o] 27)).cell? ⟨w.heap.size, 1, none⟩ = some (.string p) := by go_simp
    have a2 : (w.alloc (.cells #[.int .i64 2, .string p, .string b, .int .i64 m, .bool o] 27)).cell? ⟨w.heap.size, 2, none⟩ = some (.string b) := by go_simp
    have a3 : (w.alloc (.cells #[.int .i64 2, .string p, .string b, .int .i64 m, .bool o] 27)).cell? ⟨w.heap.size, 3, none⟩ = some (.int .i64 m) := by go_simp
    have a4 : (w.alloc (.cells #[.int .i64 2, .string p, .string b, .int .i64 m, .bool o] 27)).cell? ⟨w.heap.size, 4, none⟩ = some (.bool o) := by go_simp
    have hb0 : Below w.heap.size w (w.alloc (.cells #[.int .i64 2, .string p, .string b, .int .i64 m, .bool o] 27)) := (Below.refl _ _).alloc (Nat.le_refl _) _
    generalize w.alloc (.cells #[.int .i64 2, .string p, .string b, .int .i64 m, .bool o] 27) = W at *
    go_still_tail 6, (by kernel_rfl)
    change wpList _ _ _ _ _ W.drew
    have hb0' : Below w.heap.size w W.drew := hb0.drew
    clear hb0
    generalize W.drew = W2 at *
    go_wp2_with fail
    refine (fault_any 2 m p b o true true false false _ hp).mono ?_
    rintro e w1 ⟨rfl, hb1⟩
    go_wp2_with fail
    go_ret
    exact ⟨rfl, hb0'.trans (hb1.mono hb0'.size)⟩
  · rw [← rule3]
    have c0 := HT.cell 12
    have c1 := HT.cell 13
    have c2 := HT.cell 14
    have c3 := HT.cell 15
    simp only [cells, List.getElem?_toArray, List.getElem?_cons_succ, List.getElem?_cons_zero] at c0 c1 c2 c3
    go_enter Tryd.func45, Tryd.ntmps45
    go_wp2_with fail
    have a0 : (w.alloc (.cells #[.int .i64 3, .string p, .string b, .int .i64 m, .bool o] 27)).cell? ⟨w.heap.size, 0, none⟩ = some (.int .i64 3) := by go_simp
    have a1 : (w.alloc (.cells #[.int .i64 3, .string p, .string b, .int .i64 m, .bool o] 27)).cell? ⟨w.heap.size, 1, none⟩ = some (.string p) := by go_simp
    have a2 : (w.alloc (.cells #[.int .i64 3, .string p, .string b, .int .i64 m, .bool o] 27)).cell? ⟨w.heap.size, 2, none⟩ = some (.string b) := by go_simp
    have a3 : (w.alloc (.cells #[.int .i64 3, .string p, .string b, .int .i64 m, .bool o] 27)).cell? ⟨w.heap.size, 3, none⟩ = some (.int .i64 m) := by go_simp
    have a4 : (w.alloc (.cells #[.int .i64 3, .string p, .string b, .int .i64 m, .bool o] 27)).cell? ⟨w.heap.size, 4, none⟩ = some (.bool o) := by go_simp
    have hb0 : Below w.heap.size w (w.alloc (.cells #[.int .i64 3, .string p, .string b, .int .i64 m, .bool o] 27)) := (Below.refl _ _).alloc (Nat.le_refl _) _
    generalize w.alloc (.cells #[.int .i64 3, .string p, .string b, .int .i64 m, .bool o] 27) = W at *
    go_still_tail 6, (by kernel_rfl)
    change wpList _ _ _ _ _ W.drew
    have hb0' : Below w.heap.size w W.drew := hb0.drew
    clear hb0
    generalize W.drew = W2 at *
    go_wp2_with fail
    refine (fault_any 3 m p b o false false true true _ hp).mono ?_
    rintro e w1 ⟨rfl, hb1⟩
    go_wp2_with fail
    go_ret
    exact ⟨rfl, hb0'.trans (hb1.mono hb0'.size)⟩
  · rw [← rule4]
    have c0 := HT.cell 16
    have c1 := HT.cell 17
    have c2 := HT.cell 18
    have c3 := HT.cell 19
    simp only [cells, List.getElem?_toArray, List.getElem?_cons_succ, List.getElem?_cons_zero] at c0 c1 c2 c3
    go_enter Tryd.func45, Tryd.ntmps45
    go_wp2_with fail
    have a0 : (w.alloc (.cells #[.int .i64 4, .string p, .string b, .int .i64 m, .bool o] 27)).cell? ⟨w.heap.size, 0, none⟩ = some (.int .i64 4) := by go_simp
    have a1 : (w.alloc (.cells #[.int .i64 4, .string p, .string b, .int .i64 m, .bool o] 27)).cell? ⟨w.heap.size, 1, none⟩ = some (.string p) := by go_simp
    have a2 : (w.alloc (.cells #[.int .i64 4, .string p, .string b, .int .i64 m, .bool o] 27)).cell? ⟨w.heap.size, 2, none⟩ = some (.string b) := by go_simp
    have a3 : (w.alloc (.cells #[.int .i64 4, .string p, .string b, .int .i64 m, .bool o] 27)).cell? ⟨w.heap.size, 3, none⟩ = some (.int .i64 m) := by go_simp
    have a4 : (w.alloc (.cells #[.int .i64 4, .string p, .string b, .int .i64 m, .bool o] 27)).cell? ⟨w.heap.size, 4, none⟩ = some (.bool o) := by go_simp
    have hb0 : Below w.heap.size w (w.alloc (.cells #[.int .i64 4, .string p, .string b, .int .i64 m, .bool o] 27)) := (Below.refl _ _).alloc (Nat.le_refl _) _
    generalize w.alloc (.cells #[.int .i64 4, .string p, .string b, .int .i64 m, .bool o] 27) = W at *
    go_still_tail 6, (by kernel_rfl)
    change wpList _ _ _ _ _ W.drew
    have hb0' : Below w.heap.size w W.drew := hb0.drew
    clear hb0
    generalize W.drew = W2 at *
    go_wp2_with fail
    refine (fault_any 4 m p b o false false false false _ hp).mono ?_
    rintro e w1 ⟨rfl, hb1⟩
    go_wp2_with fail
    go_ret
    exact ⟨rfl, hb0'.trans (hb1.mono hb0'.size)⟩

end Go.Proofs.YtciflchaepchiaaDoor.Recs

/- Records: what RecordFault of the model answers. -/
namespace Go.Proofs.YtciflchaepchiaaDoor.Recs
open Go.RowKit Paths

def kindOk (k : Int) : Prop := k = 1 ∨ k = 2 ∨ k = 3 ∨ k = 4
theorem in1 : inB 1 1 4 = true := by decide
theorem in2 : inB 2 1 4 = true := by decide
theorem in3 : inB 3 1 4 = true := by decide
theorem in4 : inB 4 1 4 = true := by decide

set_option maxHeartbeats 1000000 in
theorem l02Fault_bad (k m : Int) (p b : ByteArray) (o : Bool) (w : World) (h0 : ¬ kindOk k) :
    Calls Tryd.prog 31 #[.agg #[.int .i64 k, .string p, .string b, .int .i64 m, .bool o]] w fun e w' => e = .returned (.int .i64 (faultI k p.data.toList b.size m o)) ∧ Below w.heap.size w w' := by
  have h0' : k < 1 ∨ 4 < k := by unfold kindOk at h0; omega
  have HR := Lib.hid (show faultI k p.data.toList b.size m o = 9 by unfold faultI; rw [if_pos h0'])
  have hin : inB k 1 4 = false := inB_false (by omega)
  have hd : (k == 3) = false := by simp; omega
  clear h0 h0'
  go_enter Tryd.func31, Tryd.ntmps31
  go_wp2_with (go_at_call 46; refine (l01In_any _ _ _ _).mono ?_; rintro e w' ⟨rfl, rfl⟩)
  go_ret
  exact ⟨ret_int HR.out.symm, (Below.refl _ _).alloc (Nat.le_refl _) _⟩

set_option maxHeartbeats 1000000 in
theorem l02Fault_name (k m : Int) (p b : ByteArray) (o : Bool) (w : World) (h0 : kindOk k) (h1 : pathB p.data.toList = false) :
    Calls Tryd.prog 31 #[.agg #[.int .i64 k, .string p, .string b, .int .i64 m, .bool o]] w fun e w' => e = .returned (.int .i64 (faultI k p.data.toList b.size m o)) ∧ Below w.heap.size w w' := by
  have HR := Lib.hid (show faultI k p.data.toList b.size m o = 10 by unfold faultI kindOk at *; rw [if_neg (by omega), if_pos h1])
  have i1 := in1
  have i2 := in2
  have i3 := in3
  have i4 := in4
  rcases h0 with rfl | rfl | rfl | rfl
  all_goals
    go_enter Tryd.func31, Tryd.ntmps31
    go_wp2_with (go_at_call 46; refine (l01In_any _ _ _ _).mono ?_; rintro e w' ⟨rfl, rfl⟩)
    refine (l01OK_any _ _).mono ?_
    rintro e w1 ⟨rfl, hb1⟩
    go_wp2_with fail
    go_ret
    exact ⟨ret_int HR.out.symm, ((Below.refl _ _).alloc (Nat.le_refl _) _).trans (hb1.mono (by simp))⟩

theorem tail_eq {k m : Int} {p : List UInt8} {z : Nat} {o : Bool} (h0 : kindOk k) (h1 : pathB p = true) : faultI k p z m o = if 20 < z ∨ k = 2 ∧ z = 0 then 8
  else if z ≠ 0 ∧ (k = 3 ∨ k = 4) ∨ o = true ∧ k ≠ 3 then 3 else if m < 0 ∨ 511 < m ∨ m ≠ 0 ∧ (k = 4 ∨ k = 2) then 4 else 0 := by
  unfold faultI kindOk at *
  rw [if_neg (by omega), if_neg (by rw [h1]; decide)]

set_option maxHeartbeats 4000000 in
theorem l02Fault_rest (k m : Int) (p b : ByteArray) (o : Bool) (w : World) (h0 : kindOk k) (h1 : pathB p.data.toList = true) :
    Calls Tryd.prog 31 #[.agg #[.int .i64 k, .string p, .string b, .int .i64 m, .bool o]] w fun e w' => e = .returned (.int .i64 (faultI k p.data.toList b.size m o)) ∧ Below w.heap.size w w' := by
  have HT := Lib.hid (tail_eq (z := b.size) (o := o) (m := m) h0 h1)
  have i1 := in1
  have i2 := in2
  have i3 := in3
  have i4 := in4
  by_cases h2 : 20 < b.size
  · have he := isEmpty_false (by omega : 0 < b.size)
    have HR := Lib.hid (show faultI k p.data.toList b.size m o = 8 by rw [HT.out, if_pos (.inl h2)])
    rcases h0 with rfl | rfl | rfl | rfl
    all_goals
      go_enter Tryd.func31, Tryd.ntmps31
      go_wp2_with (go_at_call 46; refine (l01In_any _ _ _ _).mono ?_; rintro e w' ⟨rfl, rfl⟩)
      refine (l01OK_any _ _).mono ?_
      rintro e w1 ⟨rfl, hb1⟩
      obtain ⟨hc1, hf1⟩ := bcell hb1
      go_wp2_with fail
      go_ret
      exact ⟨ret_int HR.out.symm, ((Below.refl _ _).alloc (Nat.le_refl _) _).trans (hb1.mono (by simp))⟩
  have hd2 : decide ((20 : Int) < (b.size : Int)) = false := by simp; omega
  by_cases h3 : b.size = 0
  · have he := isEmpty_true h3
    rw [h3] at HT
    rcases h0 with rfl | rfl | rfl | rfl
    all_goals
      cases o
      all_goals
        go_enter Tryd.func31, Tryd.ntmps31
        go_wp2_with (go_at_call 46; refine (l01In_any _ _ _ _).mono ?_; rintro e w' ⟨rfl, rfl⟩)
        refine (l01OK_any _ _).mono ?_
        rintro e w1 ⟨rfl, hb1⟩
        obtain ⟨hc1, hf1⟩ := bcell hb1
        go_wp2_with (go_at_call 46; refine (l01In_any _ _ _ _).mono ?_; rintro e w' ⟨rfl, rfl⟩)
        all_goals
          go_ret
          exact ⟨ret_int (by rw [h3, HT.out]; simp_all [inB] <;> omega), ((Below.refl _ _).alloc (Nat.le_refl _) _).trans (hb1.mono (by simp))⟩
  · have he := isEmpty_false (by omega : 0 < b.size)
    have hz : ¬ (b.size = 0) := h3
    rcases h0 with rfl | rfl | rfl | rfl
    all_goals
      cases o
      all_goals
        go_enter Tryd.func31, Tryd.ntmps31
        go_wp2_with (go_at_call 46; refine (l01In_any _ _ _ _).mono ?_; rintro e w' ⟨rfl, rfl⟩)
        refine (l01OK_any _ _).mono ?_
        rintro e w1 ⟨rfl, hb1⟩
        obtain ⟨hc1, hf1⟩ := bcell hb1
        go_wp2_with (go_at_call 46; refine (l01In_any _ _ _ _).mono ?_; rintro e w' ⟨rfl, rfl⟩)
        all_goals
          go_ret
          exact ⟨ret_int (by rw [HT.out]; simp_all [inB] <;> omega), ((Below.refl _ _).alloc (Nat.le_refl _) _).trans (hb1.mono (by simp))⟩

theorem l02Fault_any (k m : Int) (p b : ByteArray) (o : Bool) (w : World) :
    Calls Tryd.prog 31 #[.agg #[.int .i64 k, .string p, .string b, .int .i64 m, .bool o]] w fun e w' => e = .returned (.int .i64 (faultI k p.data.toList b.size m o)) ∧ Below w.heap.size w w' := by
  by_cases h0 : kindOk k
  · rcases Bool.eq_false_or_eq_true (pathB p.data.toList) with h1 | h1
    · exact l02Fault_rest k m p b o w h0 h1
    · exact l02Fault_name k m p b o w h0 h1
  · exact l02Fault_bad k m p b o w h0
end Go.Proofs.YtciflchaepchiaaDoor.Recs

/- Records as the laws take them: opening one, its size, its copy, its comparison. -/
namespace Go.Proofs.YtciflchaepchiaaDoor.Recs
set_option maxRecDepth 100000
open Go.RowKit Paths Go.WideShapes Go.ChangeShapes

section
variable {H : Type} {enc : TypeId × Value → H} {w : World} {base : Nat} {spare : Nat → Bool} {held : Bool}
theorem cB : Tryd.prog.cellsOf 4 = 1 := by kernel_rfl
end

end Go.Proofs.YtciflchaepchiaaDoor.Recs

/- The program's table of kinds: what the row's condition says of it. -/
namespace Go.Proofs.YtciflchaepchiaaDoor.Recs
set_option maxRecDepth 100000
open Go.RowKit Paths Go.WideShapes Go.ChangeShapes

section
variable {H : Type} {enc : TypeId × Value → H} {w : World} {base : Nat} {spare : Nat → Bool} {held : Bool}
theorem cRule : Tryd.prog.cellsOf 86 = 4 := by kernel_rfl
theorem cRules : Tryd.prog.cellsOf 87 = 20 := by kernel_rfl

def ruleD (a b c d : Bool) : DataW H := .agg [.lit (.bool a), .lit (.bool b), .lit (.bool c), .lit (.bool d)]
theorem rule_of_trod {fuel : Nat} {cs : List Value} {a b c d : Bool} {q : List MemPlace} (h : DataW.trod enc Tryd.prog w base spare held fuel 86 cs = some (ruleD a b c d, q)) : cs = [.bool a, .bool b, .bool c, .bool d] := by
  obtain ⟨xs, n, _, hx, hl, hxl, hg⟩ := DataW.trod_struct Tryd.underlying86 h
  rw [cRule] at hl
  have g0 : DataW.trod enc Tryd.prog w base spare held n 4 ((cs.drop 0).take 1) = xs[0]? := by have g := hg 0 _ rfl; change DataW.trod enc Tryd.prog w base spare held n 4 ((cs.drop 0).take (Tryd.prog.cellsOf 4)) = xs[0]? at g; rw [cB] at g; exact g
  have g1 : DataW.trod enc Tryd.prog w base spare held n 4 ((cs.drop 1).take 1) = xs[1]? := by have g := hg 1 _ rfl; change DataW.trod enc Tryd.prog w base spare held n 4 ((cs.drop 1).take (Tryd.prog.cellsOf 4)) = xs[1]? at g; rw [cB] at g; exact g
  have g2 : DataW.trod enc Tryd.prog w base spare held n 4 ((cs.drop 2).take 1) = xs[2]? := by have g := hg 2 _ rfl; change DataW.trod enc Tryd.prog w base spare held n 4 ((cs.drop 2).take (Tryd.prog.cellsOf 4)) = xs[2]? at g; rw [cB] at g; exact g
  have g3 : DataW.trod enc Tryd.prog w base spare held n 4 ((cs.drop 3).take 1) = xs[3]? := by have g := hg 3 _ rfl; change DataW.trod enc Tryd.prog w base spare held n 4 ((cs.drop 3).take (Tryd.prog.cellsOf 4)) = xs[3]? at g; rw [cB] at g; exact g
  match cs, hl, xs, hxl with
  | [c0, c1, c2, c3], _, [y0, y1, y2, y3], _ =>
    obtain ⟨o0, e0, f0⟩ := DataW.trod_bool Tryd.underlying4 (show DataW.trod enc Tryd.prog w base spare held n 4 [c0] = some y0 from g0)
    obtain ⟨o1, e1, f1⟩ := DataW.trod_bool Tryd.underlying4 (show DataW.trod enc Tryd.prog w base spare held n 4 [c1] = some y1 from g1)
    obtain ⟨o2, e2, f2⟩ := DataW.trod_bool Tryd.underlying4 (show DataW.trod enc Tryd.prog w base spare held n 4 [c2] = some y2 from g2)
    obtain ⟨o3, e3, f3⟩ := DataW.trod_bool Tryd.underlying4 (show DataW.trod enc Tryd.prog w base spare held n 4 [c3] = some y3 from g3)
    simp only [List.cons.injEq, and_true] at e0 e1 e2 e3
    subst e0 e1 e2 e3 f0 f1 f2 f3
    simp [ruleD] at hx
    obtain ⟨⟨rfl, rfl, rfl, rfl⟩, _⟩ := hx
    rfl
theorem rules_of_trod {fuel : Nat} {cs : List Value} {q : List MemPlace} (h : DataW.trod enc Tryd.prog w base spare held fuel 87 cs = some (.agg [ruleD false false false false, ruleD true false true false, ruleD true true false false, ruleD false false true true, ruleD false false false false], q)) : cs = cells.toList := by
  obtain ⟨xs, n, _, hx, hl, hxl, hg⟩ := DataW.trod_array Tryd.underlying87 h
  rw [cRules] at hl
  rw [cRule] at hg
  have g0 := hg 0 (by decide)
  have g1 := hg 1 (by decide)
  have g2 := hg 2 (by decide)
  have g3 := hg 3 (by decide)
  have g4 := hg 4 (by decide)
  match cs, hl, xs, hxl with
  | [c0, c1, c2, c3, c4, c5, c6, c7, c8, c9, c10, c11, c12, c13, c14, c15, c16, c17, c18, c19], _, [⟨y0, z0⟩, ⟨y1, z1⟩, ⟨y2, z2⟩, ⟨y3, z3⟩, ⟨y4, z4⟩], _ =>
    simp only [Prod.mk.injEq, List.map_cons, List.map_nil, DataW.agg.injEq, List.cons.injEq, and_true] at hx
    obtain ⟨⟨h0, h1, h2, h3, h4⟩, _⟩ := hx
    obtain rfl := h0
    have r0 := rule_of_trod (show DataW.trod enc Tryd.prog w base spare held n 86 [c0, c1, c2, c3] = some (ruleD false false false false, z0) from g0)
    simp only [List.cons.injEq, and_true] at r0
    obtain ⟨rfl, rfl, rfl, rfl⟩ := r0
    obtain rfl := h1
    have r1 := rule_of_trod (show DataW.trod enc Tryd.prog w base spare held n 86 [c4, c5, c6, c7] = some (ruleD true false true false, z1) from g1)
    simp only [List.cons.injEq, and_true] at r1
    obtain ⟨rfl, rfl, rfl, rfl⟩ := r1
    obtain rfl := h2
    have r2 := rule_of_trod (show DataW.trod enc Tryd.prog w base spare held n 86 [c8, c9, c10, c11] = some (ruleD true true false false, z2) from g2)
    simp only [List.cons.injEq, and_true] at r2
    obtain ⟨rfl, rfl, rfl, rfl⟩ := r2
    obtain rfl := h3
    have r3 := rule_of_trod (show DataW.trod enc Tryd.prog w base spare held n 86 [c12, c13, c14, c15] = some (ruleD false false true true, z3) from g3)
    simp only [List.cons.injEq, and_true] at r3
    obtain ⟨rfl, rfl, rfl, rfl⟩ := r3
    obtain rfl := h4
    have r4 := rule_of_trod (show DataW.trod enc Tryd.prog w base spare held n 86 [c16, c17, c18, c19] = some (ruleD false false false false, z4) from g4)
    simp only [List.cons.injEq, and_true] at r4
    obtain ⟨rfl, rfl, rfl, rfl⟩ := r4
    rfl
end

theorem tab_of_cells {n : String} {W : World} {cs : Array Value} (hg : Tryd.prog.globalNamed n = some 2) (hv : W.var? Tryd.prog n = some cs) (hc : cs.toList = cells.toList) : Tab W := by
  have e : cs = cells := by
    apply Array.ext'
    rw [hc]
  subst e
  simp only [World.var?, hg, Option.bind_some] at hv
  split at hv
  · rename_i c t fr hb
    cases hv
    exact ⟨t, fr, hb⟩
  · cases hv

theorem gTab : Tryd.prog.globalNamed "loop.example/g00798/impl.kindRules" = some 2 := by kernel_rfl
theorem gTabType : (Tryd.prog.globals[(2 : Nat)]?).map (·.type) = some 87 := by kernel_rfl
/-- What a row's list gives: the table holds what its own initialiser lays. -/
theorem table {W : World} (h : laidMetH Tryd.prog [("loop.example/g00798/impl.kindRules", Rows.laid_loop_example_g00798_impl_kindRules)] W) : Tab W := by
  obtain ⟨ps, ⟨g', t', cs, fuel, p, q, hg', ht', hvar, hd, _, _⟩, _⟩ := (show laidMet Tryd.prog [("loop.example/g00798/impl.kindRules", Rows.laid_loop_example_g00798_impl_kindRules)] W from h)
  obtain rfl := Option.some.inj (gTab.symm.trans hg')
  obtain rfl := Option.some.inj (gTabType.symm.trans ht')
  exact tab_of_cells hg' hvar (rules_of_trod hd)
end Go.Proofs.YtciflchaepchiaaDoor.Recs

/- Slices of records: what the memory holds where one reads as a list of records; a slice of records that came in. -/
namespace Go.Proofs.YtciflchaepchiaaDoor.Recs
set_option maxRecDepth 100000
open Go.RowKit Paths Go.WideShapes Go.ChangeShapes

/-- A record's five fields. -/
structure R where
  k : Int
  m : Int
  p : ByteArray
  b : ByteArray
  o : Bool
def R.val (r : R) : Value := .agg #[.int .i64 r.k, .string r.p, .string r.b, .int .i64 r.m, .bool r.o]
def R.fault (r : R) : Int := faultI r.k r.p.data.toList r.b.size r.m r.o

/-- The five cells of a record, from a place on. -/
def RecCells (w : World) (b off : Nat) (r : R) : Prop :=
  w.cell? ⟨b, off, none⟩ = some (.int .i64 r.k) ∧ w.cell? ⟨b, off + 1, none⟩ = some (.string r.p) ∧ w.cell? ⟨b, off + 2, none⟩ = some (.string r.b) ∧ w.cell? ⟨b, off + 3, none⟩ = some (.int .i64 r.m) ∧ w.cell? ⟨b, off + 4, none⟩ = some (.bool r.o)
theorem RecCells.below {w w' : World} {B b off : Nat} {r : R} (h : RecCells w b off r) (hb : Below B w w') (hB : b < B) : RecCells w' b off r := by
  obtain ⟨h0, h1, h2, h3, h4⟩ := h
  exact ⟨(hb.cell (p := ⟨b, off, none⟩) hB).trans h0, (hb.cell (p := ⟨b, off + 1, none⟩) hB).trans h1, (hb.cell (p := ⟨b, off + 2, none⟩) hB).trans h2, (hb.cell (p := ⟨b, off + 3, none⟩) hB).trans h3, (hb.cell (p := ⟨b, off + 4, none⟩) hB).trans h4⟩

/-- A slice that reads as the records L, wherever it lies. -/
def RecSl (w : World) (v : Value) (L : List R) : Prop :=
  ∃ A cap, v = .slice A L.length cap ∧ L.length ≤ cap ∧ (0 < L.length → ∃ b off, A = some ⟨b, off, none⟩ ∧ b < w.heap.size ∧ ∀ i r, L[i]? = some r → RecCells w b (off + i * 5) r)
theorem RecSl.below {w w' : World} {v : Value} {L : List R} (h : RecSl w v L) (hb : Below w.heap.size w w') : RecSl w' v L := by
  obtain ⟨A, cap, rfl, hc, h⟩ := h
  refine ⟨A, cap, rfl, hc, fun hn => ?_⟩
  obtain ⟨b, off, rfl, hlt, hcell⟩ := h hn
  exact ⟨b, off, rfl, Nat.lt_of_lt_of_le hlt hb.size, fun i r hi => (hcell i r hi).below hb hlt⟩

section
variable {H : Type} {enc : TypeId × Value → H} {w : World} {base : Nat} {spare : Nat → Bool} {held : Bool}

end
end Go.Proofs.YtciflchaepchiaaDoor.Recs
