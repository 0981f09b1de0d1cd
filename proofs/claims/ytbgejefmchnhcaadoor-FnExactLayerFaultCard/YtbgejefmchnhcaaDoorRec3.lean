/- Records: what RecordFault of the program and of its model answer. Condition (of the program's): its table of kinds holds what its own initialiser lays. -/
import Derived.Test.YtbgejefmchnhcaaDoorRec2
namespace Go.Proofs.YtbgejefmchnhcaaDoor.Recs
open Go.RowKit Paths

theorem rule2 (p : List UInt8) (z : Nat) (m : Int) (o : Bool) : faultR p z m o true true false false = faultI 2 p z m o := by
  unfold faultR faultI sizeB formB modeB
  cases pathB p <;> cases o <;> by_cases h1 : z ≤ 20 <;> by_cases h2 : z = 0 <;> by_cases h3 : m = 0 <;> by_cases h4 : 0 < m <;> by_cases h5 : m ≤ 511 <;> simp [h1, h2, h3, h4, h5] <;> omega
theorem rule3 (p : List UInt8) (z : Nat) (m : Int) (o : Bool) : faultR p z m o false false true true = faultI 3 p z m o := by
  unfold faultR faultI sizeB formB modeB
  cases pathB p <;> cases o <;> by_cases h1 : z ≤ 20 <;> by_cases h2 : z = 0 <;> by_cases h3 : m = 0 <;> by_cases h4 : 0 < m <;> by_cases h5 : m ≤ 511 <;> simp [h1, h2, h3, h4, h5] <;> omega
theorem rule4 (p : List UInt8) (z : Nat) (m : Int) (o : Bool) : faultR p z m o false false false false = faultI 4 p z m o := by
  unfold faultR faultI sizeB formB modeB
  cases pathB p <;> cases o <;> by_cases h1 : z ≤ 20 <;> by_cases h2 : z = 0 <;> by_cases h3 : m = 0 <;> by_cases h4 : 0 < m <;> by_cases h5 : m ≤ 511 <;> simp [h1, h2, h3, h4, h5] <;> omega

set_option maxRecDepth 100000 in
set_option maxHeartbeats 400000 in
theorem recordFault_impl (k m : Int) (p b : ByteArray) (o : Bool) (w : World) (hp : p.size ≤ maxLen) (ht : Tab w) :
    Calls Tryd.prog 68 #[.agg #[.int .i64 k, .string p, .string b, .int .i64 m, .bool o]] w fun e w' => e = .returned (.int .i64 (faultI k p.data.toList b.size m o)) ∧ Below w.heap.size w w' := by
  by_cases h0 : k < 1
  · have HR := Lib.hid (show faultI k p.data.toList b.size m o = 9 by unfold faultI; rw [if_pos (.inl h0)])
    have hd : decide (k < 1) = true := by simpa using h0
    go_enter Tryd.func68, Tryd.ntmps68
    go_wp2
    go_ret
    exact ⟨ret_int HR.out.symm, (Below.refl _ _).alloc (Nat.le_refl _) _⟩
  have hd0 : decide (k < 1) = false := by simpa using h0
  by_cases h1 : 4 < k
  · have HR := Lib.hid (show faultI k p.data.toList b.size m o = 9 by unfold faultI; rw [if_pos (.inr h1)])
    go_enter Tryd.func68, Tryd.ntmps68
    go_wp2
    go_ret
    exact ⟨ret_int HR.out.symm, (Below.refl _ _).alloc (Nat.le_refl _) _⟩
  have hlt := ht.lt
  have HT : Tab (w.alloc (.cells #[.int .i64 k, .string p, .string b, .int .i64 m, .bool o] 32)) := ht.below ((Below.refl _ _).alloc (Nat.le_refl _) _) (Nat.le_refl _)
  have e : k = 1 ∨ k = 2 ∨ k = 3 ∨ k = 4 := by omega
  rcases e with rfl | rfl | rfl | rfl
  · rw [← rule1]
    have c0 := HT.cell 4
    have c1 := HT.cell 5
    have c2 := HT.cell 6
    have c3 := HT.cell 7
    simp only [cells, List.getElem?_toArray, List.getElem?_cons_succ, List.getElem?_cons_zero] at c0 c1 c2 c3
    go_enter Tryd.func68, Tryd.ntmps68
    go_wp2_with fail
    have a0 : (w.alloc (.cells #[.int .i64 1, .string p, .string b, .int .i64 m, .bool o] 32)).cell? ⟨w.heap.size, 0, none⟩ = some (.int .i64 1) := by go_simp
    have a1 : (w.alloc (.cells #[.int .i64 1, .string p, .string b, .int .i64 m, .bool o] 32)).cell? ⟨w.heap.size, 1, none⟩ = some (.string p) := by go_simp
    have a2 : (w.alloc (.cells #[.int .i64 1, .string p, .string b, .int .i64 m, .bool o] 32)).cell? ⟨w.heap.size, 2, none⟩ = some (.string b) := by go_simp
    have a3 : (w.alloc (.cells #[.int .i64 1, .string p, .string b, .int .i64 m, .bool o] 32)).cell? ⟨w.heap.size, 3, none⟩ = some (.int .i64 m) := by go_simp
    have a4 : (w.alloc (.cells #[.int .i64 1, .string p, .string b, .int .i64 m, .bool o] 32)).cell? ⟨w.heap.size, 4, none⟩ = some (.bool o) := by go_simp
    have hb0 : Below w.heap.size w (w.alloc (.cells #[.int .i64 1, .string p, .string b, .int .i64 m, .bool o] 32)) := (Below.refl _ _).alloc (Nat.le_refl _) _
    generalize w.alloc (.cells #[.int .i64 1, .string p, .string b, .int .i64 m, .bool o] 32) = W at *
    go_still_tail 6, (by kernel_rfl)
    change wpList _ _ _ _ _ W.drew
    have hb0' : Below w.heap.size w W.drew := hb0.drew
    clear hb0
    generalize W.drew = W2 at *
    go_wp2_with fail
    refine (fault_any 1 m p b o true false true false _ hp).mono ?_
    rintro e w1 ⟨rfl, hb1⟩
    go_wp2_with fail
    go_ret
    exact ⟨rfl, hb0'.trans (hb1.mono hb0'.size)⟩
  · rw [← rule2]
    have c0 := HT.cell 8
    have c1 := HT.cell 9
    have c2 := HT.cell 10
    have c3 := HT.cell 11
    simp only [cells, List.getElem?_toArray, List.getElem?_cons_succ, List.getElem?_cons_zero] at c0 c1 c2 c3
    go_enter Tryd.func68, Tryd.ntmps68
    go_wp2_with fail
    have a0 : (w.alloc (.cells #[.int .i64 2, .string p, .string b, .int .i64 m, .bool o] 32)).cell? ⟨w.heap.size, 0, none⟩ = some (.int .i64 2) := by go_simp
    have a1 : (w.alloc (.cells #[.int .i64 2, .string p, .string b, .int .i64 m, .bool o] 32)).cell? ⟨w.heap.size, 1, none⟩ = some (.string p) := by go_simp
    have a2 : (w.alloc (.cells #[.int .i64 2, .string p, .string b, .int .i64 m, .bool o] 32)).cell? ⟨w.heap.size, 2, none⟩ = some (.string b) := by go_simp
    have a3 : (w.alloc (.cells #[.int .i64 2, .string p, .string b, .int .i64 m, .bool o] 32)).cell? ⟨w.heap.size, 3, none⟩ = some (.int .i64 m) := by go_simp
    have a4 : (w.alloc (.cells #[.int .i64 2, .string p, .string b, .int .i64 m, .bool o] 32)).cell? ⟨w.heap.size, 4, none⟩ = some (.bool o) := by go_simp
    have hb0 : Below w.heap.size w (w.alloc (.cells #[.int .i64 2, .string p, .string b, .int .i64 m, .bool o] 32)) := (Below.refl _ _).alloc (Nat.le_refl _) _
    generalize w.alloc (.cells #[.int .i64 2, .string p, .string b, .int .i64 m, .bool o] 32) = W at *
    go_still_tail 6, (by kernel_rfl)
    change wpList _ _ _ _ _ W.drew
    have hb0' : Below w.heap.size w W.drew := hb0.drew
    clear hb0
    generalize W.drew = W2 at *
    go_wp2_with fail
    refine (fault_any 2 m p b o true true false false _ hp).mono ?_
    rintro e w1 ⟨rfl, hb1⟩
    go_wp2_with fail
    go_ret
    exact ⟨rfl, hb0'.trans (hb1.mono hb0'.size)⟩
  · rw [← rule3]
    have c0 := HT.cell 12
    have c1 := HT.cell 13
    have c2 := HT.cell 14
    have c3 := HT.cell 15
    simp only [cells, List.getElem?_toArray, List.getElem?_cons_succ, List.getElem?_cons_zero] at c0 c1 c2 c3
    go_enter Tryd.func68, Tryd.ntmps68
    go_wp2_with fail
    have a0 : (w.alloc (.cells #[.int .i64 3, .string p, .string b, .int .i64 m, .bool o] 32)).cell? ⟨w.heap.size, 0, none⟩ = some (.int .i64 3) := by go_simp
    have a1 : (w.alloc (.cells #[.int .i64 3, .string p, .string b, .int .i64 m, .bool o] 32)).cell? ⟨w.heap.size, 1, none⟩ = some (.string p) := by go_simp
    have a2 : (w.alloc (.cells #[.int .i64 3, .string p, .string b, .int .i64 m, .bool o] 32)).cell? ⟨w.heap.size, 2, none⟩ = some (.string b) := by go_simp
    have a3 : (w.alloc (.cells #[.int .i64 3, .string p, .string b, .int .i64 m, .bool o] 32)).cell? ⟨w.heap.size, 3, none⟩ = some (.int .i64 m) := by go_simp
    have a4 : (w.alloc (.cells #[.int .i64 3, .string p, .string b, .int .i64 m, .bool o] 32)).cell? ⟨w.heap.size, 4, none⟩ = some (.bool o) := by go_simp
    have hb0 : Below w.heap.size w (w.alloc (.cells #[.int .i64 3, .string p, .string b, .int .i64 m, .bool o] 32)) := (Below.refl _ _).alloc (Nat.le_refl _) _
    generalize w.alloc (.cells #[.int .i64 3, .string p, .string b, .int .i64 m, .bool o] 32) = W at *
    go_still_tail 6, (by kernel_rfl)
    change wpList _ _ _ _ _ W.drew
    have hb0' : Below w.heap.size w W.drew := hb0.drew
    clear hb0
    generalize W.drew = W2 at *
    go_wp2_with fail
    refine (fault_any 3 m p b o false false true true _ hp).mono ?_
    rintro e w1 ⟨rfl, hb1⟩
    go_wp2_with fail
    go_ret
    exact ⟨rfl, hb0'.trans (hb1.mono hb0'.size)⟩
  · rw [← rule4]
    have c0 := HT.cell 16
    have c1 := HT.cell 17
    have c2 := HT.cell 18
    have c3 := HT.cell 19
    simp only [cells, List.getElem?_toArray, List.getElem?_cons_succ, List.getElem?_cons_zero] at c0 c1 c2 c3
    go_enter Tryd.func68, Tryd.ntmps68
    go_wp2_with fail
    have a0 : (w.alloc (.cells #[.int .i64 4, .string p, .string b, .int .i64 m, .bool o] 32)).cell? ⟨w.heap.size, 0, none⟩ = some (.int .i64 4) := by go_simp
    have a1 : (w.alloc (.cells #[.int .i64 4, .string p, .string b, .int .i64 m, .bool o] 32)).cell? ⟨w.heap.size, 1, none⟩ = some (.string p) := by go_simp
    have a2 : (w.alloc (.cells #[.int .i64 4, .string p, .string b, .int .i64 m, .bool o] 32)).cell? ⟨w.heap.size, 2, none⟩ = some (.string b) := by go_simp
    have a3 : (w.alloc (.cells #[.int .i64 4, .string p, .string b, .int .i64 m, .bool o] 32)).cell? ⟨w.heap.size, 3, none⟩ = some (.int .i64 m) := by go_simp
    have a4 : (w.alloc (.cells #[.int .i64 4, .string p, .string b, .int .i64 m, .bool o] 32)).cell? ⟨w.heap.size, 4, none⟩ = some (.bool o) := by go_simp
    have hb0 : Below w.heap.size w (w.alloc (.cells #[.int .i64 4, .string p, .string b, .int .i64 m, .bool o] 32)) := (Below.refl _ _).alloc (Nat.le_refl _) _
    generalize w.alloc (.cells #[.int .i64 4, .string p, .string b, .int .i64 m, .bool o] 32) = W at *
    go_still_tail 6, (by kernel_rfl)
    change wpList _ _ _ _ _ W.drew
    have hb0' : Below w.heap.size w W.drew := hb0.drew
    clear hb0
    generalize W.drew = W2 at *
    go_wp2_with fail
    refine (fault_any 4 m p b o false false false false _ hp).mono ?_
    rintro e w1 ⟨rfl, hb1⟩
    go_wp2_with fail
    go_ret
    exact ⟨rfl, hb0'.trans (hb1.mono hb0'.size)⟩

theorem l02In_kind {k : Int} (h : ¬ (k < 1 ∨ 4 < k)) : inB k 1 4 = true := inB_true (by omega)
end Go.Proofs.YtbgejefmchnhcaaDoor.Recs
