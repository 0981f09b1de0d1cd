/- Layers: SameLayer, of the program and of its model. -/
import Derived.Test.YtbgejefmchnhcaaDoorLay8
namespace Go.Proofs.YtbgejefmchnhcaaDoor.Recs
set_option maxRecDepth 100000
open Go.RowKit Paths Errs

def okL (l : List R) : Bool := decide (l.length ≤ 4096) && layerOK l
def sameC (A B : List R) : Bool := okL A && (okL B && decide (A = B))

set_option maxHeartbeats 800000 in
theorem sameLayer_impl (v1 v2 : Value) (A B : List R) (x : Addr) (w : World) (h1 : RecSl w v1 A) (h2 : RecSl w v2 B) (hl1 : A.length ≤ 1048576) (hl2 : B.length ≤ 1048576)
    (hr1 : ∀ r ∈ A, r.p.size ≤ maxLen) (hr2 : ∀ r ∈ B, r.p.size ≤ maxLen) (ht : Tab w) (hx : w.cell? ⟨0, 0, none⟩ = some (errV x)) :
    Calls Tryd.prog 27 #[v1, v2] w fun e w' => e = .returned (.bool (sameC A B)) ∧ Below w.heap.size w w' := by
  have HA : Calls Tryd.prog 16 #[v1] w fun e w' => e = .returned (.bool (okL A)) ∧ Below w.heap.size w w' := layerOK_impl v1 A x w h1 hl1 hr1 ht hx
  have hxl := World.block_lt_of_cell? w _ hx
  have HB : ∀ w', Below w.heap.size w w' → Calls Tryd.prog 16 #[v2] w' fun e w'' => e = .returned (.bool (okL B)) ∧ Below w'.heap.size w' w'' := fun w' hb =>
    layerOK_impl v2 B x w' (h2.below hb) hl2 hr2 (ht.below hb (Nat.le_refl _)) ((hb.cell (p := ⟨0, 0, none⟩) hxl).trans hx)
  have HE : ∀ w', Below w.heap.size w w' → Calls Tryd.prog 44 #[v1, v2] w' fun e w'' => e = .returned (.bool (decide (A = B))) ∧ ∃ n, w'' = w'.drewN n := fun w' hb => equalR_any v1 v2 A B w' (h1.below hb) (h2.below hb) hl1
  have HBh := Lib.hid HB
  have HEh := Lib.hid HE
  clear HB HE
  rcases Bool.eq_false_or_eq_true (okL A) with ha | ha
  case inr =>
    have HF : Hid (sameC A B = false) := by show _ = _; unfold sameC; rw [ha]; rfl
    rw [ha] at HA
    go_enter Tryd.func27, Tryd.ntmps27
    go_wp2_with fail
    refine HA.mono ?_
    rintro e w1 ⟨rfl, hb1⟩
    go_wp2_with fail
    go_ret
    exact ⟨ret_bool HF.out.symm, hb1⟩
  rw [ha] at HA
  rcases Bool.eq_false_or_eq_true (okL B) with hb | hb
  case inr =>
    have HF : Hid (sameC A B = false) := by show _ = _; unfold sameC; rw [ha, hb]; rfl
    rw [hb] at HBh
    go_enter Tryd.func27, Tryd.ntmps27
    go_wp2_with fail
    refine HA.mono ?_
    rintro e w1 ⟨rfl, hb1⟩
    go_wp2_with fail
    refine (HBh.out _ hb1).mono ?_
    rintro e w2 ⟨rfl, hb2⟩
    go_wp2_with fail
    go_ret
    exact ⟨ret_bool HF.out.symm, hb1.trans (hb2.mono hb1.size)⟩
  have HF : Hid (sameC A B = decide (A = B)) := by show _ = _; unfold sameC; rw [ha, hb]; rfl
  rw [hb] at HBh
  go_enter Tryd.func27, Tryd.ntmps27
  go_wp2_with fail
  refine HA.mono ?_
  rintro e w1 ⟨rfl, hb1⟩
  go_wp2_with fail
  refine (HBh.out _ hb1).mono ?_
  rintro e w2 ⟨rfl, hb2⟩
  have c2 := hb1.trans (hb2.mono hb1.size)
  go_wp2_with fail
  refine (HEh.out _ c2).mono ?_
  rintro e w3 ⟨rfl, n3, rfl⟩
  go_wp2_with fail
  go_ret
  exact ⟨ret_bool HF.out.symm, below_drewN c2 n3⟩

set_option maxHeartbeats 800000 in
theorem sameLayer_spec (v1 v2 : Value) (A B : List R) (w : World) (h1 : RecSl w v1 A) (h2 : RecSl w v2 B) (hl1 : A.length ≤ 1048576) (hl2 : B.length ≤ 1048576) :
    Calls Tryd.prog 26 #[v1, v2] w fun e w' => e = .returned (.bool (sameC A B)) ∧ Below w.heap.size w w' := by
  have HA := l03OK_any v1 A w h1 hl1
  have HB : ∀ w', Below w.heap.size w w' → Calls Tryd.prog 36 #[v2] w' fun e w'' => e = .returned (.bool (layerOK B)) ∧ Below w'.heap.size w' w'' := fun w' hb => l03OK_any v2 B w' (h2.below hb) hl2
  have HE : ∀ w', Below w.heap.size w w' → Calls Tryd.prog 43 #[v1, v2] w' fun e w'' => e = .returned (.bool (decide (A = B))) ∧ ∃ n, w'' = w'.drewN n := fun w' hb => l03Same_any v1 v2 A B w' (h1.below hb) (h2.below hb) hl1
  have HBh := Lib.hid HB
  have HEh := Lib.hid HE
  clear HB HE
  obtain ⟨a1, cap1, rfl, _, _⟩ := h1
  obtain ⟨a2, cap2, rfl, _, _⟩ := h2
  by_cases h4 : 4096 < A.length
  · have HF : Hid (sameC A B = false) := by show _ = _; unfold sameC okL; rw [decide_eq_false (by omega)]; rfl
    have hd : decide ((4096 : Int) < (A.length : Int)) = true := by simp; omega
    go_enter Tryd.func26, Tryd.ntmps26
    go_wp2_with fail
    go_ret
    exact ⟨ret_bool HF.out.symm, Below.refl _ _⟩
  have hd4 : decide ((4096 : Int) < (A.length : Int)) = false := by simp; omega
  have HOA : Hid (okL A = layerOK A) := by show _ = _; unfold okL; rw [decide_eq_true (by omega)]; rfl
  by_cases h5 : 4096 < B.length
  · have HF : Hid (sameC A B = false) := by show _ = _; unfold sameC; rw [show okL B = false by unfold okL; rw [decide_eq_false (by omega)]; rfl]; simp
    have hd : decide ((4096 : Int) < (B.length : Int)) = true := by simp; omega
    go_enter Tryd.func26, Tryd.ntmps26
    go_wp2_with fail
    go_ret
    exact ⟨ret_bool HF.out.symm, Below.refl _ _⟩
  have hd5 : decide ((4096 : Int) < (B.length : Int)) = false := by simp; omega
  have HOB : Hid (okL B = layerOK B) := by show _ = _; unfold okL; rw [decide_eq_true (by omega)]; rfl
  rcases Bool.eq_false_or_eq_true (layerOK A) with ha | ha
  case inr =>
    have HF : Hid (sameC A B = false) := by show _ = _; unfold sameC; rw [HOA.out, ha]; rfl
    rw [ha] at HA
    go_enter Tryd.func26, Tryd.ntmps26
    go_wp2_with fail
    refine HA.mono ?_
    rintro e w1 ⟨rfl, hb1⟩
    go_wp2_with fail
    go_ret
    exact ⟨ret_bool HF.out.symm, hb1⟩
  rw [ha] at HA
  rcases Bool.eq_false_or_eq_true (layerOK B) with hb | hb
  case inr =>
    have HF : Hid (sameC A B = false) := by show _ = _; unfold sameC; rw [HOA.out, HOB.out, ha, hb]; rfl
    rw [hb] at HBh
    go_enter Tryd.func26, Tryd.ntmps26
    go_wp2_with fail
    refine HA.mono ?_
    rintro e w1 ⟨rfl, hb1⟩
    go_wp2_with fail
    refine (HBh.out _ hb1).mono ?_
    rintro e w2 ⟨rfl, hb2⟩
    go_wp2_with fail
    go_ret
    exact ⟨ret_bool HF.out.symm, hb1.trans (hb2.mono hb1.size)⟩
  have HF : Hid (sameC A B = decide (A = B)) := by show _ = _; unfold sameC; rw [HOA.out, HOB.out, ha, hb]; rfl
  rw [hb] at HBh
  go_enter Tryd.func26, Tryd.ntmps26
  go_wp2_with fail
  refine HA.mono ?_
  rintro e w1 ⟨rfl, hb1⟩
  go_wp2_with fail
  refine (HBh.out _ hb1).mono ?_
  rintro e w2 ⟨rfl, hb2⟩
  have c2 := hb1.trans (hb2.mono hb1.size)
  go_wp2_with fail
  refine (HEh.out _ c2).mono ?_
  rintro e w3 ⟨rfl, n3, rfl⟩
  go_wp2_with fail
  go_ret
  exact ⟨ret_bool HF.out.symm, below_drewN c2 n3⟩
end Go.Proofs.YtbgejefmchnhcaaDoor.Recs
