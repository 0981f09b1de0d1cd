/- The sum of a text, LayerSum: of the program and of its model. No condition. -/
import Derived.Test.YtciflchaepchiaaChecked
import Derived.Test.YtciflchaepchiaaEncP
import Derived.WalkKit
import Derived.WalkSpells
import Derived.WalkSmall
import Derived.WalkLawsBesides
import Derived.Lib.OthersKept
import Derived.Lib.Hide
import Derived.Lib.ConvBytes
import Derived.Below
namespace Go.Proofs.Ytciflchaepchiaa.Recs
set_option maxRecDepth 100000
open Go.RowKit

/-- What LayerSum answers. -/
def smS (s : ByteArray) : Int := if 65536 < s.size then 0 else (sumL s.data.toList : Int)
def smC (s : ByteArray) : Int := if 65536 < s.size then 2 else 0
theorem ret_i64 {a b : Int} (h : a = b) : Ending.returned (.int .i64 a) = .returned (.int .i64 b) := by rw [h]
theorem longT_any (s : ByteArray) (w : World) : Calls Try.prog 7 #[.string s] w fun e w' => e = .returned (.bool (decide ((65536 : Int) < (s.size : Int)))) ∧ w = w' := by
  go_enter Try.func7, Try.ntmps7
  go_wp2
  go_ret
  exact ⟨rfl, rfl⟩
theorem bytes_below (w : World) (e : TypeId) (s : ByteArray) : Below w.heap.size w (Lib.bytesWorld w e s) := by
  refine ⟨rfl, rfl, rfl, ?_, fun j hj => Lib.bytesWorld_at_old w e s j hj⟩
  rw [Lib.bytesWorld_size]
  omega
theorem bytes_cell (w : World) (e : TypeId) (s : ByteArray) {j : Nat} (h : j < s.size) : (Lib.bytesWorld w e s).cell? ⟨w.heap.size, j, none⟩ = some (.int .u8 s[j].toNat) := by
  rw [Lib.bytesWorld_cell w e s j h]
  congr 3
  have hl : j < s.data.toList.length := by rw [← Lib.size_eq]; exact h
  rw [List.getD_eq_getElem?_getD, List.getElem?_eq_getElem hl]
  rfl

set_option maxHeartbeats 800000 in
theorem l09Sum_any (s : ByteArray) (w : World) (hs : s.size ≤ maxLen) :
    Calls Try.prog 6 #[.string s] w fun e w' => e = .returned (.int .i64 (sumL s.data.toList : Int)) ∧ w = w' := by
  unfold maxLen at hs
  go_enter Try.func6, Try.ntmps6
  go_wp2_with fail
  go_loop [3, 4] (fun n i => ∃ k S : Nat, k ≤ s.size ∧ i = .int .i64 k ∧ n = .int .i64 S ∧ Hid (S = sumL (s.data.toList.take k))) (fun _ i => s.size - (intOf i).toNat)
  case atStart => exact ⟨0, 1, by omega, rfl, rfl, rfl⟩
  case round =>
    obtain ⟨k, S, hk, rfl, rfl, HS⟩ := hrel
    have hlt65 : S < 65521 := by rw [HS.out]; exact sum_lt _
    by_cases hlt : k < s.size
    · have hst := sum_step (l := s.data.toList) (k := k) (by rw [← Lib.size_eq]; exact hlt)
      have HN : Hid ((263 * S + s[k].toNat + 1) % 65521 = sumL (s.data.toList.take (k + 1))) := by
        show _ = _
        rw [hst, ← HS.out]
        rfl
      have hb := s[k].toNat_lt
      clear hst
      go_wp2_with fail
      exact ⟨⟨k + 1, (263 * S + s[k].toNat + 1) % 65521, by omega, by go_num, by go_num, HN⟩, by simp [intOf]; omega⟩
    · have HE : Hid (S = sumL s.data.toList) := by show _ = _; rw [HS.out, List.take_of_length_le (by rw [← Lib.size_eq]; omega)]
      go_wp2_with fail
      go_ret
      exact ⟨ret_i64 (by rw [HE.out]), rfl⟩

set_option maxHeartbeats 800000 in
theorem sumOf_any (s : ByteArray) (w : World) (hs : s.size ≤ maxLen) :
    Calls Try.prog 8 #[.string s] w fun e w' => e = .returned (.int .i64 (sumL s.data.toList : Int)) ∧ Below w.heap.size w w' := by
  have kc := fun (w : World) => Lib.run_convert_string_bytes (P := Try.prog) w 9 26 5 s Try.underlying9 Try.underlying26 Try.underlying5
  have hB0 : Below w.heap.size w (Lib.bytesWorld w 5 s) := bytes_below w 5 s
  have HC : Hid (∀ j (h : j < s.size), (Lib.bytesWorld w 5 s).cell? ⟨w.heap.size, j, none⟩ = some (.int .u8 s[j].toNat)) := fun j h => bytes_cell w 5 s h
  generalize hcap : grownCap w s.size 0 5 = cap at *
  clear hcap
  unfold maxLen at hs
  go_enter Try.func8, Try.ntmps8
  go_wp2_with fail
  generalize Lib.bytesWorld w 5 s = W at *
  go_loop [3, 9] (fun n i => ∃ k S : Nat, k ≤ s.size ∧ i = .int .i64 k ∧ n = .int .i64 S ∧ Hid (S = sumL (s.data.toList.take k))) (fun _ i => s.size - (intOf i).toNat)
  case atStart => exact ⟨0, 1, by omega, rfl, rfl, rfl⟩
  case round =>
    obtain ⟨k, S, hk, rfl, rfl, HS⟩ := hrel
    have hlt65 : S < 65521 := by rw [HS.out]; exact sum_lt _
    by_cases hlt : k < s.size
    · have hst := sum_step (l := s.data.toList) (k := k) (by rw [← Lib.size_eq]; exact hlt)
      have HN : Hid ((263 * S + s[k].toNat + 1) % 65521 = sumL (s.data.toList.take (k + 1))) := by
        show _ = _
        rw [hst, ← HS.out]
        rfl
      have hb := s[k].toNat_lt
      have cc := HC.out k hlt
      generalize s[k].toNat = q at *
      have hi1 : (k : Int) < (s.size : Int) := by omega
      have hi0 : (0 : Int) ≤ (k : Int) := by omega
      clear hst
      go_wp2_with fail
      exact ⟨⟨k + 1, (263 * S + q + 1) % 65521, by omega, by go_num, by go_num, HN⟩, by simp [intOf]; omega⟩
    · have HE : Hid (S = sumL s.data.toList) := by show _ = _; rw [HS.out, List.take_of_length_le (by rw [← Lib.size_eq]; omega)]
      go_wp2_with fail
      go_ret
      exact ⟨ret_i64 (by rw [HE.out]), hB0⟩
set_option maxHeartbeats 800000 in
theorem layerSum_impl (s : ByteArray) (w : World) (hs : s.size ≤ maxLen) :
    Calls Try.prog 5 #[.string s] w fun e w' => e = .returned (.tuple #[.int .i64 (smS s), .int .i64 (smC s)]) ∧ Below w.heap.size w w' := by
  have HL := longT_any s w
  by_cases h : 65536 < s.size
  · have hd : decide ((65536 : Int) < (s.size : Int)) = true := by simp; omega
    rw [hd] at HL
    rw [show smS s = 0 from if_pos h, show smC s = 2 from if_pos h]
    go_enter Try.func5, Try.ntmps5
    go_wp2_with fail
    refine HL.mono ?_
    rintro e w1 ⟨rfl, rfl⟩
    go_wp2_with fail
    go_ret2
    exact ⟨rfl, Below.refl _ _⟩
  · have hd : decide ((65536 : Int) < (s.size : Int)) = false := by simp; omega
    rw [hd] at HL
    rw [show smS s = (sumL s.data.toList : Int) from if_neg h, show smC s = 0 from if_neg h]
    go_enter Try.func5, Try.ntmps5
    go_wp2_with fail
    refine HL.mono ?_
    rintro e w1 ⟨rfl, rfl⟩
    go_wp2_with fail
    refine (sumOf_any s _ hs).mono ?_
    rintro e w2 ⟨rfl, hb2⟩
    go_wp2_with fail
    go_ret2
    exact ⟨rfl, hb2⟩
theorem layerSum_spec (s : ByteArray) (w : World) (hs : s.size ≤ maxLen) :
    Calls Try.prog 4 #[.string s] w fun e w' => e = .returned (.tuple #[.int .i64 (smS s), .int .i64 (smC s)]) ∧ Below w.heap.size w w' := by
  by_cases h : 65536 < s.size
  · have hd : decide ((65536 : Int) < (s.size : Int)) = true := by simp; omega
    rw [show smS s = 0 from if_pos h, show smC s = 2 from if_pos h]
    go_enter Try.func4, Try.ntmps4
    go_wp2_with fail
    go_ret2
    exact ⟨rfl, Below.refl _ _⟩
  · have hd : decide ((65536 : Int) < (s.size : Int)) = false := by simp; omega
    rw [show smS s = (sumL s.data.toList : Int) from if_neg h, show smC s = 0 from if_neg h]
    go_enter Try.func4, Try.ntmps4
    go_wp2_with fail
    refine (l09Sum_any s _ hs).mono ?_
    rintro e w2 ⟨rfl, rfl⟩
    go_wp2_with fail
    go_ret2
    exact ⟨rfl, Below.refl _ _⟩
end Go.Proofs.Ytciflchaepchiaa.Recs
