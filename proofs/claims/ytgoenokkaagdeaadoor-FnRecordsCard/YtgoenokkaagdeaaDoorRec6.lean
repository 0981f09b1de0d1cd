/- Records: MakeFile, MakeDir, MakeWhite, MakeLink, of the program and of its model. Condition (of the program's): its table of kinds holds what its own initialiser lays. -/
import Derived.Test.YtgoenokkaagdeaaDoorRec5
namespace Go.Proofs.YtgoenokkaagdeaaDoor.Recs
open Go.RowKit Paths

theorem makeC_short {k m : Int} {p b : ByteArray} {o : Bool} (h1 : ¬ 65536 < p.size) (h2 : ¬ 65536 < b.size) : makeC k m p b o = faultI k p.data.toList b.size m o := if_neg (by omega)
theorem empty_short : ¬ 65536 < (⟨#[]⟩ : ByteArray).size := by decide

set_option maxHeartbeats 400000 in
theorem makeFile_impl (m : Int) (p b : ByteArray) (w : World) (hp : p.size ≤ maxLen) (ht : Tab w) :
    Calls Tryd.prog 13 #[.string p, .string b, .int .i64 m] w fun e w' => e = .returned (madeV (makeC 1 m p b false) 1 m p b false) ∧ Below w.heap.size w w' := by
  go_enter Tryd.func13, Tryd.ntmps13
  go_wp2_with fail
  refine (makeRecord_any 1 m p b false _ hp (ht.below ((Below.refl _ _).alloc (Nat.le_refl _) _) (Nat.le_refl _))).mono ?_
  rintro e w1 ⟨rfl, hb1⟩
  unfold madeV
  obtain ⟨hc, hf⟩ := bcell hb1
  have hz : w.heap.size < w1.heap.size := by have := hb1.size; simp at this; omega
  go_wp2_with fail
  refine bodyPost_ret (v := .tuple #[.agg #[.int .i64 (zI (makeC 1 m p b false) 1), .string (zS (makeC 1 m p b false) p), .string (zS (makeC 1 m p b false) b), .int .i64 (zI (makeC 1 m p b false) m), .bool (zB (makeC 1 m p b false) false)], .int .i64 (makeC 1 m p b false)]) (by simp [results, Tryd.results13, go_sem, hc]) rfl ⟨?_, ?_⟩
  · rfl
  · repeat (refine Below.setCell ?_ (by simp) _)
    exact ((Below.refl _ _).alloc (Nat.le_refl _) _).trans (hb1.mono (by simp <;> omega))

set_option maxHeartbeats 400000 in
theorem makeFile_spec (m : Int) (p b : ByteArray) (w : World) :
    Calls Tryd.prog 14 #[.string p, .string b, .int .i64 m] w fun e w' => e = .returned (madeV (makeC 1 m p b false) 1 m p b false) ∧ Below w.heap.size w w' := by
  by_cases hp : 65536 < p.size
  · have HR := Lib.hid (show makeC 1 m p b false = 2 from if_pos (.inl hp))
    have hd : decide ((65536 : Int) < (p.size : Int)) = true := by simp; omega
    go_enter Tryd.func14, Tryd.ntmps14
    go_wp2_with fail
    refine bodyPost_ret (v := .tuple #[.agg #[.int .i64 0, .string ⟨#[]⟩, .string ⟨#[]⟩, .int .i64 0, .bool false], .int .i64 2]) (by simp [results, Tryd.results14, go_sem]) rfl ⟨?_, (Below.refl _ _).alloc (Nat.le_refl _) _⟩
    rw [HR.out, madeV_no (by decide)]
  have hdp : decide ((65536 : Int) < (p.size : Int)) = false := by simp; omega
  by_cases hb : 65536 < b.size
  · have HR := Lib.hid (show makeC 1 m p b false = 2 from if_pos (.inr hb))
    have hd : decide ((65536 : Int) < (b.size : Int)) = true := by simp; omega
    go_enter Tryd.func14, Tryd.ntmps14
    go_wp2_with fail
    refine bodyPost_ret (v := .tuple #[.agg #[.int .i64 0, .string ⟨#[]⟩, .string ⟨#[]⟩, .int .i64 0, .bool false], .int .i64 2]) (by simp [results, Tryd.results14, go_sem]) rfl ⟨?_, (Below.refl _ _).alloc (Nat.le_refl _) _⟩
    rw [HR.out, madeV_no (by decide)]
  have hdb : decide ((65536 : Int) < (b.size : Int)) = false := by simp; omega
  rw [makeC_short hp hb]
  go_enter Tryd.func14, Tryd.ntmps14
  go_wp2_with fail
  refine (l02Made_any 1 m p b false _).mono ?_
  rintro e w1 ⟨rfl, hb1⟩
  unfold madeV
  obtain ⟨hc, hf⟩ := bcell hb1
  have hz : w.heap.size < w1.heap.size := by have := hb1.size; simp at this; omega
  go_wp2_with fail
  refine bodyPost_ret (v := .tuple #[.agg #[.int .i64 (zI (faultI 1 p.data.toList b.size m false) 1), .string (zS (faultI 1 p.data.toList b.size m false) p), .string (zS (faultI 1 p.data.toList b.size m false) b), .int .i64 (zI (faultI 1 p.data.toList b.size m false) m), .bool (zB (faultI 1 p.data.toList b.size m false) false)], .int .i64 (faultI 1 p.data.toList b.size m false)]) (by simp [results, Tryd.results14, go_sem, hc]) rfl ⟨?_, ?_⟩
  · rfl
  · repeat (refine Below.setCell ?_ (by simp) _)
    exact ((Below.refl _ _).alloc (Nat.le_refl _) _).trans (hb1.mono (by simp <;> omega))

set_option maxHeartbeats 400000 in
theorem makeDir_impl (m : Int) (p : ByteArray) (o : Bool) (w : World) (hp : p.size ≤ maxLen) (ht : Tab w) :
    Calls Tryd.prog 15 #[.string p, .int .i64 m, .bool o] w fun e w' => e = .returned (madeV (makeC 3 m p ⟨#[]⟩ o) 3 m p ⟨#[]⟩ o) ∧ Below w.heap.size w w' := by
  go_enter Tryd.func15, Tryd.ntmps15
  go_wp2_with fail
  refine (makeRecord_any 3 m p ⟨#[]⟩ o _ hp (ht.below ((Below.refl _ _).alloc (Nat.le_refl _) _) (Nat.le_refl _))).mono ?_
  rintro e w1 ⟨rfl, hb1⟩
  unfold madeV
  obtain ⟨hc, hf⟩ := bcell hb1
  have hz : w.heap.size < w1.heap.size := by have := hb1.size; simp at this; omega
  go_wp2_with fail
  refine bodyPost_ret (v := .tuple #[.agg #[.int .i64 (zI (makeC 3 m p ⟨#[]⟩ o) 3), .string (zS (makeC 3 m p ⟨#[]⟩ o) p), .string (zS (makeC 3 m p ⟨#[]⟩ o) ⟨#[]⟩), .int .i64 (zI (makeC 3 m p ⟨#[]⟩ o) m), .bool (zB (makeC 3 m p ⟨#[]⟩ o) o)], .int .i64 (makeC 3 m p ⟨#[]⟩ o)]) (by simp [results, Tryd.results15, go_sem, hc]) rfl ⟨?_, ?_⟩
  · rfl
  · repeat (refine Below.setCell ?_ (by simp) _)
    exact ((Below.refl _ _).alloc (Nat.le_refl _) _).trans (hb1.mono (by simp <;> omega))

set_option maxHeartbeats 400000 in
theorem makeDir_spec (m : Int) (p : ByteArray) (o : Bool) (w : World) :
    Calls Tryd.prog 16 #[.string p, .int .i64 m, .bool o] w fun e w' => e = .returned (madeV (makeC 3 m p ⟨#[]⟩ o) 3 m p ⟨#[]⟩ o) ∧ Below w.heap.size w w' := by
  by_cases hp : 65536 < p.size
  · have HR := Lib.hid (show makeC 3 m p ⟨#[]⟩ o = 2 from if_pos (.inl hp))
    have hd : decide ((65536 : Int) < (p.size : Int)) = true := by simp; omega
    go_enter Tryd.func16, Tryd.ntmps16
    go_wp2_with fail
    refine bodyPost_ret (v := .tuple #[.agg #[.int .i64 0, .string ⟨#[]⟩, .string ⟨#[]⟩, .int .i64 0, .bool false], .int .i64 2]) (by simp [results, Tryd.results16, go_sem]) rfl ⟨?_, (Below.refl _ _).alloc (Nat.le_refl _) _⟩
    rw [HR.out, madeV_no (by decide)]
  have hdp : decide ((65536 : Int) < (p.size : Int)) = false := by simp; omega
  rw [makeC_short hp empty_short]
  go_enter Tryd.func16, Tryd.ntmps16
  go_wp2_with fail
  refine (l02Made_any 3 m p ⟨#[]⟩ o _).mono ?_
  rintro e w1 ⟨rfl, hb1⟩
  unfold madeV
  obtain ⟨hc, hf⟩ := bcell hb1
  have hz : w.heap.size < w1.heap.size := by have := hb1.size; simp at this; omega
  go_wp2_with fail
  refine bodyPost_ret (v := .tuple #[.agg #[.int .i64 (zI (faultI 3 p.data.toList (⟨#[]⟩ : ByteArray).size m o) 3), .string (zS (faultI 3 p.data.toList (⟨#[]⟩ : ByteArray).size m o) p), .string (zS (faultI 3 p.data.toList (⟨#[]⟩ : ByteArray).size m o) ⟨#[]⟩), .int .i64 (zI (faultI 3 p.data.toList (⟨#[]⟩ : ByteArray).size m o) m), .bool (zB (faultI 3 p.data.toList (⟨#[]⟩ : ByteArray).size m o) o)], .int .i64 (faultI 3 p.data.toList (⟨#[]⟩ : ByteArray).size m o)]) (by simp [results, Tryd.results16, go_sem, hc]) rfl ⟨?_, ?_⟩
  · rfl
  · repeat (refine Below.setCell ?_ (by simp) _)
    exact ((Below.refl _ _).alloc (Nat.le_refl _) _).trans (hb1.mono (by simp <;> omega))

set_option maxHeartbeats 400000 in
theorem makeWhite_impl (p : ByteArray) (w : World) (hp : p.size ≤ maxLen) (ht : Tab w) :
    Calls Tryd.prog 19 #[.string p] w fun e w' => e = .returned (madeV (makeC 4 0 p ⟨#[]⟩ false) 4 0 p ⟨#[]⟩ false) ∧ Below w.heap.size w w' := by
  go_enter Tryd.func19, Tryd.ntmps19
  go_wp2_with fail
  refine (makeRecord_any 4 0 p ⟨#[]⟩ false _ hp (ht.below ((Below.refl _ _).alloc (Nat.le_refl _) _) (Nat.le_refl _))).mono ?_
  rintro e w1 ⟨rfl, hb1⟩
  unfold madeV
  obtain ⟨hc, hf⟩ := bcell hb1
  have hz : w.heap.size < w1.heap.size := by have := hb1.size; simp at this; omega
  go_wp2_with fail
  refine bodyPost_ret (v := .tuple #[.agg #[.int .i64 (zI (makeC 4 0 p ⟨#[]⟩ false) 4), .string (zS (makeC 4 0 p ⟨#[]⟩ false) p), .string (zS (makeC 4 0 p ⟨#[]⟩ false) ⟨#[]⟩), .int .i64 (zI (makeC 4 0 p ⟨#[]⟩ false) 0), .bool (zB (makeC 4 0 p ⟨#[]⟩ false) false)], .int .i64 (makeC 4 0 p ⟨#[]⟩ false)]) (by simp [results, Tryd.results19, go_sem, hc]) rfl ⟨?_, ?_⟩
  · rfl
  · repeat (refine Below.setCell ?_ (by simp) _)
    exact ((Below.refl _ _).alloc (Nat.le_refl _) _).trans (hb1.mono (by simp <;> omega))

set_option maxHeartbeats 400000 in
theorem makeWhite_spec (p : ByteArray) (w : World) :
    Calls Tryd.prog 20 #[.string p] w fun e w' => e = .returned (madeV (makeC 4 0 p ⟨#[]⟩ false) 4 0 p ⟨#[]⟩ false) ∧ Below w.heap.size w w' := by
  by_cases hp : 65536 < p.size
  · have HR := Lib.hid (show makeC 4 0 p ⟨#[]⟩ false = 2 from if_pos (.inl hp))
    have hd : decide ((65536 : Int) < (p.size : Int)) = true := by simp; omega
    go_enter Tryd.func20, Tryd.ntmps20
    go_wp2_with fail
    refine bodyPost_ret (v := .tuple #[.agg #[.int .i64 0, .string ⟨#[]⟩, .string ⟨#[]⟩, .int .i64 0, .bool false], .int .i64 2]) (by simp [results, Tryd.results20, go_sem]) rfl ⟨?_, (Below.refl _ _).alloc (Nat.le_refl _) _⟩
    rw [HR.out, madeV_no (by decide)]
  have hdp : decide ((65536 : Int) < (p.size : Int)) = false := by simp; omega
  rw [makeC_short hp empty_short]
  go_enter Tryd.func20, Tryd.ntmps20
  go_wp2_with fail
  refine (l02Made_any 4 0 p ⟨#[]⟩ false _).mono ?_
  rintro e w1 ⟨rfl, hb1⟩
  unfold madeV
  obtain ⟨hc, hf⟩ := bcell hb1
  have hz : w.heap.size < w1.heap.size := by have := hb1.size; simp at this; omega
  go_wp2_with fail
  refine bodyPost_ret (v := .tuple #[.agg #[.int .i64 (zI (faultI 4 p.data.toList (⟨#[]⟩ : ByteArray).size 0 false) 4), .string (zS (faultI 4 p.data.toList (⟨#[]⟩ : ByteArray).size 0 false) p), .string (zS (faultI 4 p.data.toList (⟨#[]⟩ : ByteArray).size 0 false) ⟨#[]⟩), .int .i64 (zI (faultI 4 p.data.toList (⟨#[]⟩ : ByteArray).size 0 false) 0), .bool (zB (faultI 4 p.data.toList (⟨#[]⟩ : ByteArray).size 0 false) false)], .int .i64 (faultI 4 p.data.toList (⟨#[]⟩ : ByteArray).size 0 false)]) (by simp [results, Tryd.results20, go_sem, hc]) rfl ⟨?_, ?_⟩
  · rfl
  · repeat (refine Below.setCell ?_ (by simp) _)
    exact ((Below.refl _ _).alloc (Nat.le_refl _) _).trans (hb1.mono (by simp <;> omega))

set_option maxHeartbeats 400000 in
theorem makeLink_impl (p b : ByteArray) (w : World) (hp : p.size ≤ maxLen) (ht : Tab w) :
    Calls Tryd.prog 17 #[.string p, .string b] w fun e w' => e = .returned (madeV (makeC 2 0 p b false) 2 0 p b false) ∧ Below w.heap.size w w' := by
  go_enter Tryd.func17, Tryd.ntmps17
  go_wp2_with fail
  refine (makeRecord_any 2 0 p b false _ hp (ht.below ((Below.refl _ _).alloc (Nat.le_refl _) _) (Nat.le_refl _))).mono ?_
  rintro e w1 ⟨rfl, hb1⟩
  unfold madeV
  obtain ⟨hc, hf⟩ := bcell hb1
  have hz : w.heap.size < w1.heap.size := by have := hb1.size; simp at this; omega
  go_wp2_with fail
  refine bodyPost_ret (v := .tuple #[.agg #[.int .i64 (zI (makeC 2 0 p b false) 2), .string (zS (makeC 2 0 p b false) p), .string (zS (makeC 2 0 p b false) b), .int .i64 (zI (makeC 2 0 p b false) 0), .bool (zB (makeC 2 0 p b false) false)], .int .i64 (makeC 2 0 p b false)]) (by simp [results, Tryd.results17, go_sem, hc]) rfl ⟨?_, ?_⟩
  · rfl
  · repeat (refine Below.setCell ?_ (by simp) _)
    exact ((Below.refl _ _).alloc (Nat.le_refl _) _).trans (hb1.mono (by simp <;> omega))

set_option maxHeartbeats 400000 in
theorem makeLink_spec (p b : ByteArray) (w : World) :
    Calls Tryd.prog 18 #[.string p, .string b] w fun e w' => e = .returned (madeV (makeC 2 0 p b false) 2 0 p b false) ∧ Below w.heap.size w w' := by
  by_cases hp : 65536 < p.size
  · have HR := Lib.hid (show makeC 2 0 p b false = 2 from if_pos (.inl hp))
    have hd : decide ((65536 : Int) < (p.size : Int)) = true := by simp; omega
    go_enter Tryd.func18, Tryd.ntmps18
    go_wp2_with fail
    refine bodyPost_ret (v := .tuple #[.agg #[.int .i64 0, .string ⟨#[]⟩, .string ⟨#[]⟩, .int .i64 0, .bool false], .int .i64 2]) (by simp [results, Tryd.results18, go_sem]) rfl ⟨?_, (Below.refl _ _).alloc (Nat.le_refl _) _⟩
    rw [HR.out, madeV_no (by decide)]
  have hdp : decide ((65536 : Int) < (p.size : Int)) = false := by simp; omega
  by_cases hb : 65536 < b.size
  · have HR := Lib.hid (show makeC 2 0 p b false = 2 from if_pos (.inr hb))
    have hd : decide ((65536 : Int) < (b.size : Int)) = true := by simp; omega
    go_enter Tryd.func18, Tryd.ntmps18
    go_wp2_with fail
    refine bodyPost_ret (v := .tuple #[.agg #[.int .i64 0, .string ⟨#[]⟩, .string ⟨#[]⟩, .int .i64 0, .bool false], .int .i64 2]) (by simp [results, Tryd.results18, go_sem]) rfl ⟨?_, (Below.refl _ _).alloc (Nat.le_refl _) _⟩
    rw [HR.out, madeV_no (by decide)]
  have hdb : decide ((65536 : Int) < (b.size : Int)) = false := by simp; omega
  rw [makeC_short hp hb]
  go_enter Tryd.func18, Tryd.ntmps18
  go_wp2_with fail
  refine (l02Made_any 2 0 p b false _).mono ?_
  rintro e w1 ⟨rfl, hb1⟩
  unfold madeV
  obtain ⟨hc, hf⟩ := bcell hb1
  have hz : w.heap.size < w1.heap.size := by have := hb1.size; simp at this; omega
  go_wp2_with fail
  refine bodyPost_ret (v := .tuple #[.agg #[.int .i64 (zI (faultI 2 p.data.toList b.size 0 false) 2), .string (zS (faultI 2 p.data.toList b.size 0 false) p), .string (zS (faultI 2 p.data.toList b.size 0 false) b), .int .i64 (zI (faultI 2 p.data.toList b.size 0 false) 0), .bool (zB (faultI 2 p.data.toList b.size 0 false) false)], .int .i64 (faultI 2 p.data.toList b.size 0 false)]) (by simp [results, Tryd.results18, go_sem, hc]) rfl ⟨?_, ?_⟩
  · rfl
  · repeat (refine Below.setCell ?_ (by simp) _)
    exact ((Below.refl _ _).alloc (Nat.le_refl _) _).trans (hb1.mono (by simp <;> omega))
end Go.Proofs.YtgoenokkaagdeaaDoor.Recs
