/- Errors: errors.As at the program's own error: the target is written. Conditions: as it states. -/
import Derived.Test.YtbgejefmchnhcaaDoorErrs3
namespace Go.Proofs.YtbgejefmchnhcaaDoor.Errs
set_option maxRecDepth 100000
open Go.RowKit Go.Extern

theorem new0 (w : World) (a b : Value) (t : TypeId) : (w.alloc (.cells #[a, b] t)).cell? ⟨w.heap.size, 0, none⟩ = some a := by go_simp
theorem new1 (w : World) (a b : Value) (t : TypeId) : (w.alloc (.cells #[a, b] t)).cell? ⟨w.heap.size, 1, none⟩ = some b := by go_simp
set_option maxHeartbeats 800000 in
theorem as_rec (i c : Int) (fb : Nat) (u0 u1 : Value) (w : World) (hE : w.cell? ⟨1, 0, none⟩ = some (rty 47))
    (k0 : w.cell? ⟨fb, 0, none⟩ = some u0) (k1 : w.cell? ⟨fb, 1, none⟩ = some u1) (f0 : w.frozen? ⟨fb, 0, none⟩ = false) (f1 : w.frozen? ⟨fb, 1, none⟩ = false) :
    Calls Tryd.prog 34 #[recV i c, .iface 52 (.pointer (some ⟨fb, 0, none⟩))] w fun e w' => e = .returned (.bool true) ∧
      ∃ W, w' = (W.setCell ⟨fb, 0, none⟩ (.int .i64 i)).setCell ⟨fb, 1, none⟩ (.int .i64 c) ∧ Below w.heap.size w W := by
  unfold recV
  have hlt : fb < w.heap.size := World.block_lt_of_cell? w _ k0
  have hc0 : (w.alloc (.cells #[.pointer (some ⟨fb, 0, none⟩)] 52)).cell? ⟨w.heap.size, 0, none⟩ = some (.pointer (some ⟨fb, 0, none⟩)) := by go_simp
  have hE2 : ((w.alloc (.cells #[.pointer (some ⟨fb, 0, none⟩)] 52)).alloc (.cells #[hnd 52, .pointer (some ⟨w.heap.size, 0, none⟩), .int .u64 150] 67)).cell? ⟨1, 0, none⟩ = some (rty 47) := cell?_alloc_old _ (cell?_alloc_old _ hE)
  have q1 := cValueOf ⟨fb, 0, none⟩ w
  have q2 := cType
  have q3 := mKind
  have q4 := cKindP
  have q5 := cIsNil w.heap.size ⟨fb, 0, none⟩
  have q6 := mElem
  have q7 := cElem
  have q8 := cKindR
  have q9 := mImplements
  have q10 := cImplements
  have q11 := cTypeOfR
  have q12 := mAssignable
  have q13 := cAssignR
  have hc3 : (((w.alloc (.cells #[.pointer (some ⟨fb, 0, none⟩)] 52)).alloc (.cells #[hnd 52, .pointer (some ⟨w.heap.size, 0, none⟩), .int .u64 150] 67)).alloc (.cells #[hnd 52, .pointer (some ⟨w.heap.size, 0, none⟩), .int .u64 150] 67)).cell? ⟨w.heap.size, 0, none⟩ = some (.pointer (some ⟨fb, 0, none⟩)) := cell?_alloc_old _ (cell?_alloc_old _ hc0)
  have hsz3 : (((w.alloc (.cells #[.pointer (some ⟨fb, 0, none⟩)] 52)).alloc (.cells #[hnd 52, .pointer (some ⟨w.heap.size, 0, none⟩), .int .u64 150] 67)).alloc (.cells #[hnd 52, .pointer (some ⟨w.heap.size, 0, none⟩), .int .u64 150] 67)).heap.size = w.heap.size + 1 + 1 + 1 := by simp
  have q14 := cElemV w.heap.size ⟨fb, 0, none⟩ (((w.alloc (.cells #[.pointer (some ⟨fb, 0, none⟩)] 52)).alloc (.cells #[hnd 52, .pointer (some ⟨w.heap.size, 0, none⟩), .int .u64 150] 67)).alloc (.cells #[hnd 52, .pointer (some ⟨w.heap.size, 0, none⟩), .int .u64 150] 67)) hc3
  have q15 := cValueOfR i c (((w.alloc (.cells #[.pointer (some ⟨fb, 0, none⟩)] 52)).alloc (.cells #[hnd 52, .pointer (some ⟨w.heap.size, 0, none⟩), .int .u64 150] 67)).alloc (.cells #[hnd 52, .pointer (some ⟨w.heap.size, 0, none⟩), .int .u64 150] 67))
  have hb3 : Below w.heap.size w (((w.alloc (.cells #[.pointer (some ⟨fb, 0, none⟩)] 52)).alloc (.cells #[hnd 52, .pointer (some ⟨w.heap.size, 0, none⟩), .int .u64 150] 67)).alloc (.cells #[hnd 52, .pointer (some ⟨w.heap.size, 0, none⟩), .int .u64 150] 67)) := (((Below.refl _ _).alloc (Nat.le_refl _) _).alloc (by simp) _).alloc (by simp; omega) _
  have hb4 : Below w.heap.size w ((((w.alloc (.cells #[.pointer (some ⟨fb, 0, none⟩)] 52)).alloc (.cells #[hnd 52, .pointer (some ⟨w.heap.size, 0, none⟩), .int .u64 150] 67)).alloc (.cells #[hnd 52, .pointer (some ⟨w.heap.size, 0, none⟩), .int .u64 150] 67)).alloc (.cells #[.int .i64 i, .int .i64 c] 50)) := hb3.alloc hb3.size _
  have m0 : ((((w.alloc (.cells #[.pointer (some ⟨fb, 0, none⟩)] 52)).alloc (.cells #[hnd 52, .pointer (some ⟨w.heap.size, 0, none⟩), .int .u64 150] 67)).alloc (.cells #[hnd 52, .pointer (some ⟨w.heap.size, 0, none⟩), .int .u64 150] 67)).alloc (.cells #[.int .i64 i, .int .i64 c] 50)).cell? ⟨(((w.alloc (.cells #[.pointer (some ⟨fb, 0, none⟩)] 52)).alloc (.cells #[hnd 52, .pointer (some ⟨w.heap.size, 0, none⟩), .int .u64 150] 67)).alloc (.cells #[hnd 52, .pointer (some ⟨w.heap.size, 0, none⟩), .int .u64 150] 67)).heap.size, 0, none⟩ = some (.int .i64 i) := new0 _ _ _ _
  have m1 : ((((w.alloc (.cells #[.pointer (some ⟨fb, 0, none⟩)] 52)).alloc (.cells #[hnd 52, .pointer (some ⟨w.heap.size, 0, none⟩), .int .u64 150] 67)).alloc (.cells #[hnd 52, .pointer (some ⟨w.heap.size, 0, none⟩), .int .u64 150] 67)).alloc (.cells #[.int .i64 i, .int .i64 c] 50)).cell? ⟨(((w.alloc (.cells #[.pointer (some ⟨fb, 0, none⟩)] 52)).alloc (.cells #[hnd 52, .pointer (some ⟨w.heap.size, 0, none⟩), .int .u64 150] 67)).alloc (.cells #[hnd 52, .pointer (some ⟨w.heap.size, 0, none⟩), .int .u64 150] 67)).heap.size, 1, none⟩ = some (.int .i64 c) := new1 _ _ _ _
  have q16 := cSet fb (((w.alloc (.cells #[.pointer (some ⟨fb, 0, none⟩)] 52)).alloc (.cells #[hnd 52, .pointer (some ⟨w.heap.size, 0, none⟩), .int .u64 150] 67)).alloc (.cells #[hnd 52, .pointer (some ⟨w.heap.size, 0, none⟩), .int .u64 150] 67)).heap.size i c ((((w.alloc (.cells #[.pointer (some ⟨fb, 0, none⟩)] 52)).alloc (.cells #[hnd 52, .pointer (some ⟨w.heap.size, 0, none⟩), .int .u64 150] 67)).alloc (.cells #[hnd 52, .pointer (some ⟨w.heap.size, 0, none⟩), .int .u64 150] 67)).alloc (.cells #[.int .i64 i, .int .i64 c] 50)) m0 m1 (by rw [hb4.cell (p := ⟨fb, 0, none⟩) hlt, k0]; rfl) (by rw [hb4.cell (p := ⟨fb, 1, none⟩) hlt, k1]; rfl) (by rw [hb4.frozen (p := ⟨fb, 0, none⟩) hlt]; exact f0) (by rw [hb4.frozen (p := ⟨fb, 1, none⟩) hlt]; exact f1)
  rw [hsz3] at q15 q16
  go_enter Tryd.func34, Tryd.ntmps34
  go_wp2
  refine wp_loop_rounds 1 ?_
  rw [rounds_succ]
  go_wp2
  go_ret
  exact ⟨rfl, _, rfl, hb4⟩
end Go.Proofs.YtbgejefmchnhcaaDoor.Errs
