/- Layers: LayerFault of the program. Conditions: the table of kinds, the two sentinels, the handle of the type error. -/
import Derived.Test.YtbgejefmchnhcaaDoorLay11
import Derived.Test.YtbgejefmchnhcaaDoorErrs4
namespace Go.Proofs.YtbgejefmchnhcaaDoor.Recs
set_option maxRecDepth 100000
open Go.RowKit Paths Errs

theorem fault_zero (l : List R) : ∀ (n i : Nat), l.length - i = n → (faultFrom l i).2 = 0 → faultFrom l i = (0, 0) := by
  intro n
  induction n with
  | zero => intro i hi _; exact faultFrom_end (by omega)
  | succ n ih =>
    intro i hi h0
    have hlt : i < l.length := by omega
    by_cases hc : codeAt l i l[i] = 0
    · rw [faultFrom_good hlt hc] at h0 ⊢
      exact ih (i + 1) (by omega) h0
    · rw [faultFrom_bad hlt hc] at h0
      exact absurd h0 hc
def faultV (l : List R) : Value := if 4096 < l.length then .tuple #[.int .i64 0, .int .i64 2] else .tuple #[.int .i64 (layerFaultL l).1, .int .i64 (layerFaultL l).2]
theorem fault_fine {l : List R} (h : checkK l = .fine) : faultV l = .tuple #[.int .i64 0, .int .i64 0] := by
  unfold checkK at h
  unfold faultV
  split at h
  · cases h
  · rename_i h4
    rw [if_neg h4]
    split at h
    · cases h
    · rename_i h0
      have e := fault_zero l _ 0 rfl (show (layerFaultL l).2 = 0 by simpa using h0)
      have e2 : layerFaultL l = (0, 0) := e
      rw [e2]
theorem fault_long {l : List R} (h : checkK l = .long) : faultV l = .tuple #[.int .i64 0, .int .i64 2] := by
  unfold checkK at h
  unfold faultV
  split at h
  · rw [if_pos (by assumption)]
  · split at h <;> cases h
theorem fault_bad {l : List R} {i c : Int} (h : checkK l = .bad i c) : faultV l = .tuple #[.int .i64 i, .int .i64 c] := by
  unfold checkK at h
  unfold faultV
  split at h
  · cases h
  · rename_i h4
    rw [if_neg h4]
    split at h
    · cases h; rfl
    · cases h

set_option maxHeartbeats 1600000 in
theorem layerFault_impl (v : Value) (l : List R) (x y : Addr) (w : World) (h : RecSl w v l) (hl : l.length ≤ 1048576) (hr : ∀ r ∈ l, r.p.size ≤ maxLen) (hT : Three w x y) (hE : w.cell? ⟨1, 0, none⟩ = some (rty 47)) :
    Calls Tryd.prog 13 #[v] w fun e w' => e = .returned (faultV l) ∧ Below w.heap.size w w' := by
  have HC := checkLayer_any v l x _ h hl hr hT.tab hT.long
  rw [← checkK_val] at HC
  have hel := World.block_lt_of_cell? w _ hE
  obtain ⟨A, cap, rfl, hcap, h⟩ := h
  cases hk : checkK l with
  | fine =>
    have HF := Lib.hid (fault_fine hk)
    rw [hk] at HC
    unfold EK.val at HC
    go_enter Tryd.func13, Tryd.ntmps13
    go_wp2_with fail
    refine HC.mono ?_
    rintro e w1 ⟨rfl, hb1⟩
    have hE1 : (w1.alloc (.cells #[.int .i64 0, .int .i64 0] 50)).cell? ⟨1, 0, none⟩ = some (rty 47) := cell?_alloc_old _ ((hb1.cell (p := ⟨1, 0, none⟩) hel).trans hE)
    have hbA : Below w.heap.size w (w1.alloc (.cells #[.int .i64 0, .int .i64 0] 50)) := hb1.alloc hb1.size _
    have HN := as_nil ⟨w1.heap.size, 0, none⟩ (w1.alloc (.cells #[.int .i64 0, .int .i64 0] 50))
    have HA := arg1_any .fine x y _ (hT.below hbA (Nat.le_refl _))
    have hsz : (w1.alloc (.cells #[.int .i64 0, .int .i64 0] 50)).heap.size = w1.heap.size + 1 := by simp
    rw [hsz] at HA
    unfold EK.val at HA
    go_wp2_with fail
    refine HN.mono ?_
    rintro e w2 ⟨rfl, rfl⟩
    go_wp2_with fail
    refine HA.mono ?_
    rintro e w3 ⟨rfl, hb3⟩
    have hcode : argFrom [.fine] 0 = 0 := rfl
    rw [hcode]
    go_wp2_with fail
    go_ret2
    exact ⟨ret_eq HF.out.symm, hbA.trans (hb3.mono (by have := hb1.size; omega))⟩
  | long =>
    have HF := Lib.hid (fault_long hk)
    rw [hk] at HC
    unfold EK.val errV at HC
    go_enter Tryd.func13, Tryd.ntmps13
    go_wp2_with fail
    refine HC.mono ?_
    rintro e w1 ⟨rfl, hb1⟩
    have hE1 : (w1.alloc (.cells #[.int .i64 0, .int .i64 0] 50)).cell? ⟨1, 0, none⟩ = some (rty 47) := cell?_alloc_old _ ((hb1.cell (p := ⟨1, 0, none⟩) hel).trans hE)
    have hbA : Below w.heap.size w (w1.alloc (.cells #[.int .i64 0, .int .i64 0] 50)) := hb1.alloc hb1.size _
    have HN := as_long x ⟨w1.heap.size, 0, none⟩ (w1.alloc (.cells #[.int .i64 0, .int .i64 0] 50)) hE1
    unfold errV at HN
    go_wp2_with fail
    refine HN.mono ?_
    rintro e w2 ⟨rfl, hb2⟩
    have c2 := hbA.trans (hb2.mono hbA.size)
    have HA := arg1_any .long x y _ (hT.below c2 (Nat.le_refl _))
    unfold EK.val errV at HA
    go_wp2_with fail
    refine HA.mono ?_
    rintro e w3 ⟨rfl, hb3⟩
    have hcode : argFrom [.long] 0 = 2 := rfl
    rw [hcode]
    go_wp2_with fail
    go_ret2
    exact ⟨ret_eq HF.out.symm, c2.trans (hb3.mono c2.size)⟩
  | bad i c =>
    have HF := Lib.hid (fault_bad hk)
    rw [hk] at HC
    unfold EK.val recV at HC
    go_enter Tryd.func13, Tryd.ntmps13
    go_wp2_with fail
    refine HC.mono ?_
    rintro e w1 ⟨rfl, hb1⟩
    have hE1 : (w1.alloc (.cells #[.int .i64 0, .int .i64 0] 50)).cell? ⟨1, 0, none⟩ = some (rty 47) := cell?_alloc_old _ ((hb1.cell (p := ⟨1, 0, none⟩) hel).trans hE)
    have HN := as_rec i c w1.heap.size (.int .i64 0) (.int .i64 0) (w1.alloc (.cells #[.int .i64 0, .int .i64 0] 50)) hE1 (new0 _ _ _ _) (new1 _ _ _ _) (by go_simp) (by go_simp)
    unfold recV at HN
    go_wp2_with fail
    refine HN.mono ?_
    rintro e w2 ⟨rfl, W, rfl, hbW⟩
    have n0 : W.cell? ⟨w1.heap.size, 0, none⟩ = some (.int .i64 0) := (hbW.cell (p := ⟨w1.heap.size, 0, none⟩) (by simp)).trans (new0 _ _ _ _)
    have n1 : W.cell? ⟨w1.heap.size, 1, none⟩ = some (.int .i64 0) := (hbW.cell (p := ⟨w1.heap.size, 1, none⟩) (by simp)).trans (new1 _ _ _ _)
    have hbA : Below w.heap.size w (w1.alloc (.cells #[.int .i64 0, .int .i64 0] 50)) := hb1.alloc hb1.size _
    have c2 := hbA.trans (hbW.mono hbA.size)
    have r0 : ((W.setCell ⟨w1.heap.size, 0, none⟩ (.int .i64 i)).setCell ⟨w1.heap.size, 1, none⟩ (.int .i64 c)).cell? ⟨w1.heap.size, 0, none⟩ = some (.int .i64 i) := by
      rw [World.cell?_setCell_other (h := by simp)]
      exact World.cell?_setCell_same _ _ _ n0
    have n1' : (W.setCell ⟨w1.heap.size, 0, none⟩ (.int .i64 i)).cell? ⟨w1.heap.size, 1, none⟩ = some (.int .i64 0) := by
      rw [World.cell?_setCell_other (h := by simp)]
      exact n1
    have r1 : ((W.setCell ⟨w1.heap.size, 0, none⟩ (.int .i64 i)).setCell ⟨w1.heap.size, 1, none⟩ (.int .i64 c)).cell? ⟨w1.heap.size, 1, none⟩ = some (.int .i64 c) := World.cell?_setCell_same _ _ _ n1'
    have cW : Below w.heap.size w ((W.setCell ⟨w1.heap.size, 0, none⟩ (.int .i64 i)).setCell ⟨w1.heap.size, 1, none⟩ (.int .i64 c)) := (c2.setCell hb1.size _).setCell hb1.size _
    generalize (W.setCell ⟨w1.heap.size, 0, none⟩ (.int .i64 i)).setCell ⟨w1.heap.size, 1, none⟩ (.int .i64 c) = W2 at *
    go_wp2_with fail
    go_quiet (fail)
    go_wp2_with fail
    go_ret2
    exact ⟨ret_eq HF.out.symm, below_drewN cW _⟩
end Go.Proofs.YtbgejefmchnhcaaDoor.Recs
