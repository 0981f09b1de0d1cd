/- Records: what RecordFault of the model answers. -/
import Derived.Test.YtbgejefmchnhcaaDoorRec3
namespace Go.Proofs.YtbgejefmchnhcaaDoor.Recs
open Go.RowKit Paths

def kindOk (k : Int) : Prop := k = 1 ∨ k = 2 ∨ k = 3 ∨ k = 4
theorem in1 : inB 1 1 4 = true := by decide
theorem in2 : inB 2 1 4 = true := by decide
theorem in3 : inB 3 1 4 = true := by decide
theorem in4 : inB 4 1 4 = true := by decide

set_option maxHeartbeats 1000000 in
theorem l02Fault_bad (k m : Int) (p b : ByteArray) (o : Bool) (w : World) (h0 : ¬ kindOk k) :
    Calls Tryd.prog 49 #[.agg #[.int .i64 k, .string p, .string b, .int .i64 m, .bool o]] w fun e w' => e = .returned (.int .i64 (faultI k p.data.toList b.size m o)) ∧ Below w.heap.size w w' := by
  have h0' : k < 1 ∨ 4 < k := by unfold kindOk at h0; omega
  have HR := Lib.hid (show faultI k p.data.toList b.size m o = 9 by unfold faultI; rw [if_pos h0'])
  have hin : inB k 1 4 = false := inB_false (by omega)
  have hd : (k == 3) = false := by simp; omega
  clear h0 h0'
  go_enter Tryd.func49, Tryd.ntmps49
  go_wp2_with (go_at_call 67; refine (l01In_any _ _ _ _).mono ?_; rintro e w' ⟨rfl, rfl⟩)
  go_ret
  exact ⟨ret_int HR.out.symm, (Below.refl _ _).alloc (Nat.le_refl _) _⟩

set_option maxHeartbeats 1000000 in
theorem l02Fault_name (k m : Int) (p b : ByteArray) (o : Bool) (w : World) (h0 : kindOk k) (h1 : pathB p.data.toList = false) :
    Calls Tryd.prog 49 #[.agg #[.int .i64 k, .string p, .string b, .int .i64 m, .bool o]] w fun e w' => e = .returned (.int .i64 (faultI k p.data.toList b.size m o)) ∧ Below w.heap.size w w' := by
  have HR := Lib.hid (show faultI k p.data.toList b.size m o = 10 by unfold faultI kindOk at *; rw [if_neg (by omega), if_pos h1])
  have i1 := in1
  have i2 := in2
  have i3 := in3
  have i4 := in4
  rcases h0 with rfl | rfl | rfl | rfl
  all_goals
    go_enter Tryd.func49, Tryd.ntmps49
    go_wp2_with (go_at_call 67; refine (l01In_any _ _ _ _).mono ?_; rintro e w' ⟨rfl, rfl⟩)
    refine (l01OK_any _ _).mono ?_
    rintro e w1 ⟨rfl, hb1⟩
    go_wp2_with fail
    go_ret
    exact ⟨ret_int HR.out.symm, ((Below.refl _ _).alloc (Nat.le_refl _) _).trans (hb1.mono (by simp))⟩

theorem tail_eq {k m : Int} {p : List UInt8} {z : Nat} {o : Bool} (h0 : kindOk k) (h1 : pathB p = true) : faultI k p z m o = if 20 < z ∨ k = 2 ∧ z = 0 then 8
  else if z ≠ 0 ∧ (k = 3 ∨ k = 4) ∨ o = true ∧ k ≠ 3 then 3 else if m < 0 ∨ 511 < m ∨ m ≠ 0 ∧ (k = 4 ∨ k = 2) then 4 else 0 := by
  unfold faultI kindOk at *
  rw [if_neg (by omega), if_neg (by rw [h1]; decide)]

set_option maxHeartbeats 4000000 in
theorem l02Fault_rest (k m : Int) (p b : ByteArray) (o : Bool) (w : World) (h0 : kindOk k) (h1 : pathB p.data.toList = true) :
    Calls Tryd.prog 49 #[.agg #[.int .i64 k, .string p, .string b, .int .i64 m, .bool o]] w fun e w' => e = .returned (.int .i64 (faultI k p.data.toList b.size m o)) ∧ Below w.heap.size w w' := by
  have HT := Lib.hid (tail_eq (z := b.size) (o := o) (m := m) h0 h1)
  have i1 := in1
  have i2 := in2
  have i3 := in3
  have i4 := in4
  by_cases h2 : 20 < b.size
  · have he := isEmpty_false (by omega : 0 < b.size)
    have HR := Lib.hid (show faultI k p.data.toList b.size m o = 8 by rw [HT.out, if_pos (.inl h2)])
    rcases h0 with rfl | rfl | rfl | rfl
    all_goals
      go_enter Tryd.func49, Tryd.ntmps49
      go_wp2_with (go_at_call 67; refine (l01In_any _ _ _ _).mono ?_; rintro e w' ⟨rfl, rfl⟩)
      refine (l01OK_any _ _).mono ?_
      rintro e w1 ⟨rfl, hb1⟩
      obtain ⟨hc1, hf1⟩ := bcell hb1
      go_wp2_with fail
      go_ret
      exact ⟨ret_int HR.out.symm, ((Below.refl _ _).alloc (Nat.le_refl _) _).trans (hb1.mono (by simp))⟩
  have hd2 : decide ((20 : Int) < (b.size : Int)) = false := by simp; omega
  by_cases h3 : b.size = 0
  · have he := isEmpty_true h3
    rw [h3] at HT
    rcases h0 with rfl | rfl | rfl | rfl
    all_goals
      cases o
      all_goals
        go_enter Tryd.func49, Tryd.ntmps49
        go_wp2_with (go_at_call 67; refine (l01In_any _ _ _ _).mono ?_; rintro e w' ⟨rfl, rfl⟩)
        refine (l01OK_any _ _).mono ?_
        rintro e w1 ⟨rfl, hb1⟩
        obtain ⟨hc1, hf1⟩ := bcell hb1
        go_wp2_with (go_at_call 67; refine (l01In_any _ _ _ _).mono ?_; rintro e w' ⟨rfl, rfl⟩)
        all_goals
          go_ret
          exact ⟨ret_int (by rw [h3, HT.out]; simp_all [inB] <;> omega), ((Below.refl _ _).alloc (Nat.le_refl _) _).trans (hb1.mono (by simp))⟩
  · have he := isEmpty_false (by omega : 0 < b.size)
    have hz : ¬ (b.size = 0) := h3
    rcases h0 with rfl | rfl | rfl | rfl
    all_goals
      cases o
      all_goals
        go_enter Tryd.func49, Tryd.ntmps49
        go_wp2_with (go_at_call 67; refine (l01In_any _ _ _ _).mono ?_; rintro e w' ⟨rfl, rfl⟩)
        refine (l01OK_any _ _).mono ?_
        rintro e w1 ⟨rfl, hb1⟩
        obtain ⟨hc1, hf1⟩ := bcell hb1
        go_wp2_with (go_at_call 67; refine (l01In_any _ _ _ _).mono ?_; rintro e w' ⟨rfl, rfl⟩)
        all_goals
          go_ret
          exact ⟨ret_int (by rw [HT.out]; simp_all [inB] <;> omega), ((Below.refl _ _).alloc (Nat.le_refl _) _).trans (hb1.mono (by simp))⟩

theorem l02Fault_any (k m : Int) (p b : ByteArray) (o : Bool) (w : World) :
    Calls Tryd.prog 49 #[.agg #[.int .i64 k, .string p, .string b, .int .i64 m, .bool o]] w fun e w' => e = .returned (.int .i64 (faultI k p.data.toList b.size m o)) ∧ Below w.heap.size w w' := by
  by_cases h0 : kindOk k
  · rcases Bool.eq_false_or_eq_true (pathB p.data.toList) with h1 | h1
    · exact l02Fault_rest k m p b o w h0 h1
    · exact l02Fault_name k m p b o w h0 h1
  · exact l02Fault_bad k m p b o w h0
end Go.Proofs.YtbgejefmchnhcaaDoor.Recs
