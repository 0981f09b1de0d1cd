/- Records: RecordOK, and what makes a record, of the program and of its model. Condition (of the program's): its table of kinds holds what its own initialiser lays. -/
import Derived.Test.YtgoenokkaagdeaaDoorRec4
namespace Go.Proofs.YtgoenokkaagdeaaDoor.Recs
open Go.RowKit Paths

theorem recordOK_impl (k m : Int) (p b : ByteArray) (o : Bool) (w : World) (hp : p.size ≤ maxLen) (ht : Tab w) :
    Calls Tryd.prog 22 #[.agg #[.int .i64 k, .string p, .string b, .int .i64 m, .bool o]] w fun e w' => e = .returned (.bool (faultI k p.data.toList b.size m o == 0)) ∧ Below w.heap.size w w' := by
  go_enter Tryd.func22, Tryd.ntmps22
  go_wp2_with fail
  refine (recordFault_impl k m p b o _ hp (ht.below ((Below.refl _ _).alloc (Nat.le_refl _) _) (Nat.le_refl _))).mono ?_
  rintro e w1 ⟨rfl, hb1⟩
  go_wp2_with fail
  go_ret
  exact ⟨rfl, ((Below.refl _ _).alloc (Nat.le_refl _) _).trans (hb1.mono (by simp <;> omega))⟩

theorem l02OK_any (k m : Int) (p b : ByteArray) (o : Bool) (w : World) :
    Calls Tryd.prog 36 #[.agg #[.int .i64 k, .string p, .string b, .int .i64 m, .bool o]] w fun e w' => e = .returned (.bool (faultI k p.data.toList b.size m o == 0)) ∧ Below w.heap.size w w' := by
  go_enter Tryd.func36, Tryd.ntmps36
  go_wp2_with fail
  refine (l02Fault_any k m p b o _).mono ?_
  rintro e w1 ⟨rfl, hb1⟩
  go_wp2_with fail
  go_ret
  exact ⟨rfl, ((Below.refl _ _).alloc (Nat.le_refl _) _).trans (hb1.mono (by simp <;> omega))⟩

theorem recordOK_spec (k m : Int) (p b : ByteArray) (o : Bool) (w : World) :
    Calls Tryd.prog 25 #[.agg #[.int .i64 k, .string p, .string b, .int .i64 m, .bool o]] w fun e w' => e = .returned (.bool (faultI k p.data.toList b.size m o == 0)) ∧ Below w.heap.size w w' := by
  go_enter Tryd.func25, Tryd.ntmps25
  go_wp2_with fail
  refine (l02OK_any k m p b o _).mono ?_
  rintro e w1 ⟨rfl, hb1⟩
  go_wp2_with fail
  go_ret
  exact ⟨rfl, ((Below.refl _ _).alloc (Nat.le_refl _) _).trans (hb1.mono (by simp <;> omega))⟩

theorem recordFault_spec (k m : Int) (p b : ByteArray) (o : Bool) (w : World) :
    Calls Tryd.prog 23 #[.agg #[.int .i64 k, .string p, .string b, .int .i64 m, .bool o]] w fun e w' => e = .returned (.int .i64 (faultI k p.data.toList b.size m o)) ∧ Below w.heap.size w w' := by
  go_enter Tryd.func23, Tryd.ntmps23
  go_wp2_with fail
  refine (l02Fault_any k m p b o _).mono ?_
  rintro e w1 ⟨rfl, hb1⟩
  go_wp2_with fail
  go_ret
  exact ⟨rfl, ((Below.refl _ _).alloc (Nat.le_refl _) _).trans (hb1.mono (by simp <;> omega))⟩

/-! ### Making a record -/
def zI (c k : Int) : Int := if c = 0 then k else 0
def zS (c : Int) (s : ByteArray) : ByteArray := if c = 0 then s else ⟨#[]⟩
def zB (c : Int) (o : Bool) : Bool := if c = 0 then o else false
theorem zI_no {c : Int} (h : c ≠ 0) (k : Int) : zI c k = 0 := if_neg h
theorem zS_no {c : Int} (h : c ≠ 0) (s : ByteArray) : zS c s = ⟨#[]⟩ := if_neg h
theorem zB_no {c : Int} (h : c ≠ 0) (o : Bool) : zB c o = false := if_neg h
theorem zI_yes {c : Int} (h : c = 0) (k : Int) : zI c k = k := if_pos h
theorem zS_yes {c : Int} (h : c = 0) (s : ByteArray) : zS c s = s := if_pos h
theorem zB_yes {c : Int} (h : c = 0) (o : Bool) : zB c o = o := if_pos h
def makeC (k m : Int) (p b : ByteArray) (o : Bool) : Int := if 65536 < p.size ∨ 65536 < b.size then 2 else faultI k p.data.toList b.size m o
def madeV (c k m : Int) (p b : ByteArray) (o : Bool) : Value := .tuple #[.agg #[.int .i64 (zI c k), .string (zS c p), .string (zS c b), .int .i64 (zI c m), .bool (zB c o)], .int .i64 c]
theorem madeV_no {c k m : Int} {p b : ByteArray} {o : Bool} (h : c ≠ 0) : madeV c k m p b o = .tuple #[.agg #[.int .i64 0, .string ⟨#[]⟩, .string ⟨#[]⟩, .int .i64 0, .bool false], .int .i64 c] := by
  unfold madeV; rw [zI_no h, zI_no h, zS_no h, zS_no h, zB_no h]
theorem madeV_yes {k m : Int} {p b : ByteArray} {o : Bool} : madeV 0 k m p b o = .tuple #[.agg #[.int .i64 k, .string p, .string b, .int .i64 m, .bool o], .int .i64 0] := by
  unfold madeV; rw [zI_yes rfl, zI_yes rfl, zS_yes rfl, zS_yes rfl, zB_yes rfl]
theorem ret_val {a b : Value} (h : a = b) : Ending.returned a = .returned b := by rw [h]

set_option maxHeartbeats 400000 in
theorem makeRecord_any (k m : Int) (p b : ByteArray) (o : Bool) (w : World) (hp : p.size ≤ maxLen) (ht : Tab w) :
    Calls Tryd.prog 32 #[.agg #[.int .i64 k, .string p, .string b, .int .i64 m, .bool o]] w fun e w' => e = .returned (madeV (makeC k m p b o) k m p b o) ∧ Below w.heap.size w w' := by
  by_cases h1 : 65536 < p.size
  · have HR := Lib.hid (show makeC k m p b o = 2 from if_pos (.inl h1))
    have hd : decide ((65536 : Int) < (p.size : Int)) = true := by simp; omega
    go_enter Tryd.func32, Tryd.ntmps32
    go_wp2_with (go_at_call 42; refine (longText_any _ _).mono ?_; rintro e w1 ⟨rfl, rfl⟩)
    refine bodyPost_ret (v := .tuple #[.agg #[.int .i64 0, .string ⟨#[]⟩, .string ⟨#[]⟩, .int .i64 0, .bool false], .int .i64 2]) (by simp [results, Tryd.results32, go_sem]) rfl ⟨?_, ((Below.refl _ _).alloc (Nat.le_refl _) _).alloc (by simp) _⟩
    rw [HR.out, madeV_no (by decide)]
  have hd1 : decide ((65536 : Int) < (p.size : Int)) = false := by simp; omega
  by_cases h2 : 65536 < b.size
  · have HR := Lib.hid (show makeC k m p b o = 2 from if_pos (.inr h2))
    have hd : decide ((65536 : Int) < (b.size : Int)) = true := by simp; omega
    go_enter Tryd.func32, Tryd.ntmps32
    go_wp2_with (go_at_call 42; refine (longText_any _ _).mono ?_; rintro e w1 ⟨rfl, rfl⟩)
    refine bodyPost_ret (v := .tuple #[.agg #[.int .i64 0, .string ⟨#[]⟩, .string ⟨#[]⟩, .int .i64 0, .bool false], .int .i64 2]) (by simp [results, Tryd.results32, go_sem]) rfl ⟨?_, ((Below.refl _ _).alloc (Nat.le_refl _) _).alloc (by simp) _⟩
    rw [HR.out, madeV_no (by decide)]
  have hd2 : decide ((65536 : Int) < (b.size : Int)) = false := by simp; omega
  have HR := Lib.hid (show makeC k m p b o = faultI k p.data.toList b.size m o from if_neg (by omega))
  by_cases h3 : faultI k p.data.toList b.size m o = 0
  · have H3 := Lib.hid h3
    have hd3 : (faultI k p.data.toList b.size m o == 0) = true := by simpa using h3
    have hd4 : (faultI k p.data.toList b.size m o != 0) = false := by simpa using h3
    clear h3
    go_enter Tryd.func32, Tryd.ntmps32
    go_wp2_with (go_at_call 42; refine (longText_any _ _).mono ?_; rintro e w1 ⟨rfl, rfl⟩)
    refine (recordFault_impl k m p b o _ hp (ht.below (((Below.refl _ _).alloc (Nat.le_refl _) _).alloc (by simp) _) (Nat.le_refl _))).mono ?_
    rintro e w1 ⟨rfl, hb1⟩
    obtain ⟨hc, hf⟩ := bcell hb1
    have hz : w.heap.size + 1 < w1.heap.size := by have := hb1.size; simp at this; omega
    go_wp2_with fail
    refine bodyPost_ret (v := .tuple #[.agg #[.int .i64 k, .string p, .string b, .int .i64 m, .bool o], .int .i64 0]) (by simp [results, Tryd.results32, go_sem, hc]) rfl ⟨?_, ?_⟩
    · rw [HR.out, H3.out, madeV_yes]
    · repeat (refine Below.setCell ?_ (by simp) _)
      exact (((Below.refl _ _).alloc (Nat.le_refl _) _).alloc (by simp) _).trans (hb1.mono (by simp <;> omega))
  · have hd3 : (faultI k p.data.toList b.size m o == 0) = false := by simpa using h3
    have hd4 : (faultI k p.data.toList b.size m o != 0) = true := by simpa using h3
    have H3 := Lib.hid h3
    clear h3
    go_enter Tryd.func32, Tryd.ntmps32
    go_wp2_with (go_at_call 42; refine (longText_any _ _).mono ?_; rintro e w1 ⟨rfl, rfl⟩)
    refine (recordFault_impl k m p b o _ hp (ht.below (((Below.refl _ _).alloc (Nat.le_refl _) _).alloc (by simp) _) (Nat.le_refl _))).mono ?_
    rintro e w1 ⟨rfl, hb1⟩
    obtain ⟨hc, hf⟩ := bcell hb1
    have hz : w.heap.size + 1 < w1.heap.size := by have := hb1.size; simp at this; omega
    go_wp2_with fail
    refine bodyPost_ret (v := .tuple #[.agg #[.int .i64 0, .string ⟨#[]⟩, .string ⟨#[]⟩, .int .i64 0, .bool false], .int .i64 (faultI k p.data.toList b.size m o)]) (by simp [results, Tryd.results32, go_sem, hc]) rfl ⟨?_, ?_⟩
    · rw [HR.out, madeV_no H3.out]
    · repeat (refine Below.setCell ?_ (by simp) _)
      exact (((Below.refl _ _).alloc (Nat.le_refl _) _).alloc (by simp) _).trans (hb1.mono (by simp <;> omega))

set_option maxHeartbeats 400000 in
theorem l02Made_any (k m : Int) (p b : ByteArray) (o : Bool) (w : World) :
    Calls Tryd.prog 33 #[.agg #[.int .i64 k, .string p, .string b, .int .i64 m, .bool o]] w fun e w' => e = .returned (madeV (faultI k p.data.toList b.size m o) k m p b o) ∧ Below w.heap.size w w' := by
  by_cases h3 : faultI k p.data.toList b.size m o = 0
  · have H3 := Lib.hid h3
    have hd3 : (faultI k p.data.toList b.size m o == 0) = true := by simpa using h3
    have hd4 : (faultI k p.data.toList b.size m o != 0) = false := by simpa using h3
    clear h3
    go_enter Tryd.func33, Tryd.ntmps33
    go_wp2_with fail
    refine (l02Fault_any k m p b o _).mono ?_
    rintro e w1 ⟨rfl, hb1⟩
    obtain ⟨hc, hf⟩ := bcell hb1
    have hz : w.heap.size + 1 < w1.heap.size := by have := hb1.size; simp at this; omega
    go_wp2_with fail
    refine bodyPost_ret (v := .tuple #[.agg #[.int .i64 k, .string p, .string b, .int .i64 m, .bool o], .int .i64 0]) (by simp [results, Tryd.results33, go_sem, hc]) rfl ⟨?_, ?_⟩
    · rw [H3.out, madeV_yes]
    · repeat (refine Below.setCell ?_ (by simp) _)
      exact (((Below.refl _ _).alloc (Nat.le_refl _) _).alloc (by simp) _).trans (hb1.mono (by simp <;> omega))
  · have hd3 : (faultI k p.data.toList b.size m o == 0) = false := by simpa using h3
    have hd4 : (faultI k p.data.toList b.size m o != 0) = true := by simpa using h3
    have H3 := Lib.hid h3
    clear h3
    go_enter Tryd.func33, Tryd.ntmps33
    go_wp2_with fail
    refine (l02Fault_any k m p b o _).mono ?_
    rintro e w1 ⟨rfl, hb1⟩
    obtain ⟨hc, hf⟩ := bcell hb1
    have hz : w.heap.size + 1 < w1.heap.size := by have := hb1.size; simp at this; omega
    go_wp2_with fail
    refine bodyPost_ret (v := .tuple #[.agg #[.int .i64 0, .string ⟨#[]⟩, .string ⟨#[]⟩, .int .i64 0, .bool false], .int .i64 (faultI k p.data.toList b.size m o)]) (by simp [results, Tryd.results33, go_sem, hc]) rfl ⟨?_, ?_⟩
    · rw [madeV_no H3.out]
    · repeat (refine Below.setCell ?_ (by simp) _)
      exact (((Below.refl _ _).alloc (Nat.le_refl _) _).alloc (by simp) _).trans (hb1.mono (by simp <;> omega))
end Go.Proofs.YtgoenokkaagdeaaDoor.Recs
