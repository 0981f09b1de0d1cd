/- The choice that some bytes make (laws.at), as a plain function of the bytes. -/
import Derived.Test.YtgoenokkaagdeaaDoorDraw
import Derived.IntWalk
namespace Go.Proofs.YtgoenokkaagdeaaDoor.Draw
open Go.RowKit

/-- A slice of bytes that reads as f. -/
def Vals (w : World) (A : Option Addr) (n : Nat) (f : Nat → Nat) : Prop :=
  n ≤ 1048577 ∧ (0 < n → ∃ b off, A = some ⟨b, off, none⟩ ∧ b < w.heap.size ∧ ∀ k, k < n → f k ≤ 255 ∧ w.cell? ⟨b, off + k, none⟩ = some (.int .u8 (f k)))
theorem Vals.byts {w : World} {A : Option Addr} {n : Nat} {f : Nat → Nat} (h : Vals w A n f) : Byts w w.heap.size A n := by
  refine ⟨h.1, fun hn => ?_⟩
  obtain ⟨b, off, e, hb, hc⟩ := h.2 hn
  exact ⟨b, off, e, hb, fun k hk => ⟨f k, hc k hk⟩⟩
theorem Vals.below {w w' : World} {A : Option Addr} {n : Nat} {f : Nat → Nat} (h : Vals w A n f) (hb : Below w.heap.size w w') : Vals w' A n f := by
  refine ⟨h.1, fun hn => ?_⟩
  obtain ⟨b, off, e, hlt, hc⟩ := h.2 hn
  exact ⟨b, off, e, Nat.lt_of_lt_of_le hlt hb.size, fun k hk => ⟨(hc k hk).1, (hb.cell (p := ⟨b, off + k, none⟩) hlt).trans (hc k hk).2⟩⟩

def atN (f : Nat → Nat) (n : Nat) (i k : Int) : Int :=
  if n = 0 then i * 7 % k else ((f (i % n).toNat : Int) * 31 + (f ((i + 1) % n).toNat : Int) + i / n) % k
theorem atN_range {f : Nat → Nat} {n : Nat} {i k : Int} (hk : 2 ≤ k) : 0 ≤ atN f n i k ∧ atN f n i k < k := by
  unfold atN
  split
  · exact ⟨Int.emod_nonneg _ (by omega), Int.emod_lt_of_pos _ (by omega)⟩
  · exact ⟨Int.emod_nonneg _ (by omega), Int.emod_lt_of_pos _ (by omega)⟩
theorem ret_int {a b : Int} (h : a = b) : Ending.returned (.int .i64 a) = .returned (.int .i64 b) := by rw [h]

set_option maxHeartbeats 1000000 in
theorem at_any (w : World) (A : Option Addr) (n cap : Nat) (f : Nat → Nat) (i k : Int) (h : Vals w A n f) (hi : 0 ≤ i ∧ i ≤ 1000) (hk : 2 ≤ k ∧ k ≤ 100000) :
    Calls Tryd.prog 12 #[.slice A n cap, .int .i64 i, .int .i64 k] w fun e w' => e = .returned (.int .i64 (atN f n i k)) ∧ ∃ q, w' = w.drewN q := by
  obtain ⟨hi1, hi2⟩ := hi
  obtain ⟨hk1, hk2⟩ := hk
  have hd1 : decide (k ≤ 1) = false := by simp; omega
  have hk0 : (0 : Int) < k := by omega
  by_cases hn : n = 0
  · subst hn
    have HR := Lib.hid (show atN f 0 i k = i * 7 % k by unfold atN; rw [if_pos rfl])
    clear h
    go_enter Tryd.func12, Tryd.ntmps12
    go_wp2
    go_ret
    exact ⟨ret_int HR.out.symm, 0, rfl⟩
  · have HR := Lib.hid (show atN f n i k = ((f (i % n).toNat : Int) * 31 + (f ((i + 1) % n).toNat : Int) + i / n) % k by unfold atN; rw [if_neg hn])
    obtain ⟨hn1, hx⟩ := h
    obtain ⟨b, off, rfl, hb, hc⟩ := hx (by omega)
    have hz : ((n : Int) == 0) = false := beq_eq_false_iff_ne.2 (by omega)
    have hnp : (0 : Int) < (n : Int) := by omega
    have m1 := Int.emod_nonneg i (show (n : Int) ≠ 0 by omega)
    have m2 := Int.emod_lt_of_pos i hnp
    have m3 := Int.emod_nonneg (i + 1) (show (n : Int) ≠ 0 by omega)
    have m4 := Int.emod_lt_of_pos (i + 1) hnp
    have m5 := Int.ediv_nonneg hi1 (show (0 : Int) ≤ (n : Int) by omega)
    have m6 := Int.ediv_le_self (n : Int) hi1
    obtain ⟨hf1, hc1⟩ := hc (i % n).toNat (by omega)
    obtain ⟨hf2, hc2⟩ := hc ((i + 1) % n).toNat (by omega)
    have HX := Lib.hid hc
    clear hx hc hn
    go_enter Tryd.func12, Tryd.ntmps12
    go_wp2
    go_quiet (fail)
    go_wp2
    go_ret
    exact ⟨ret_int HR.out.symm, nq, rfl⟩
end Go.Proofs.YtgoenokkaagdeaaDoor.Draw
