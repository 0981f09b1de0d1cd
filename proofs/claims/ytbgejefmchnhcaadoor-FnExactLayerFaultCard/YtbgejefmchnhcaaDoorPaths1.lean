/- Parts: what PartOK of the program and of its model answer. -/
import Derived.Test.YtbgejefmchnhcaaDoorChecked
import Derived.Test.YtbgejefmchnhcaaDoorPlainB
import Derived.WalkKit
import Derived.WalkSpells
import Derived.WalkSmall
import Derived.Lib.OthersKept
import Derived.Lib.Hide
namespace Go.Proofs.YtbgejefmchnhcaaDoor.Paths
open Go.RowKit

theorem ret_bool {a b : Bool} (h : a = b) : Ending.returned (.bool a) = .returned (.bool b) := by rw [h]

set_option maxHeartbeats 400000 in
theorem partOK_impl (s : ByteArray) (w : World) : Calls Tryd.prog 75 #[.string s] w fun e w' => e = .returned (.bool (partB s.data.toList)) ∧ Below w.heap.size w w' := by
  by_cases h0 : 1 ≤ s.size ∧ s.size ≤ 8
  · have he := isEmpty_false h0.1
    have hd : decide ((8 : Int) < (s.size : Int)) = false := by simp; omega
    rcases Bool.eq_false_or_eq_true (s.toList == [46]) with h1 | h1
    · rw [partB_no_dot h1]
      go_enter Tryd.func75, Tryd.ntmps75
      go_wp2
      go_ret
      exact ⟨rfl, Below.refl _ _⟩
    rcases Bool.eq_false_or_eq_true (s.toList == [46, 46]) with h2 | h2
    · rw [partB_no_dots h2]
      go_enter Tryd.func75, Tryd.ntmps75
      go_wp2
      go_ret
      exact ⟨rfl, Below.refl _ _⟩
    rw [partB_yes h0 h1 h2]
    go_enter Tryd.func75, Tryd.ntmps75
    go_wp2
    go_loopw [] (fun wr => ∃ pos : Nat, wr.heap[w.heap.size]? = some (.stringIter s pos) ∧ Below w.heap.size w wr ∧ Hid (partAll s.data.toList = partAll (s.data.toList.drop pos))) (fun wr => s.size - wr.iterPos w.heap.size)
    case atStart => exact ⟨0, World.iter_heap w s 0, (Below.refl _ _).alloc (Nat.le_refl _) _, rfl⟩
    case round =>
      obtain ⟨pos, hit, hbw, HS⟩ := hrel
      have hpos0 := iterPos_of hit
      by_cases hp : pos < s.size
      · have hnx : ∀ ty, (Instr.next (.pointer (some ⟨w.heap.size, 0, none⟩)) true ty).run Tryd.prog wr = _ := fun ty => Lib.run_next_any_at wr w.heap.size s pos ty hit hp
        have hwd := width_pos s pos hp
        have hit2 := Lib.iterAt_heap wr w.heap.size s pos (pos + (Utf8.decode s pos).2) hit
        have hbw2 := Lib.below_iterAt hbw (k := w.heap.size) (Nat.le_refl _) s (pos + (Utf8.decode s pos).2)
        obtain ⟨W1, hW1⟩ : ∃ W1, W1 = wr.iterAt w.heap.size s (pos + (Utf8.decode s pos).2) := ⟨_, rfl⟩
        rw [← hW1] at hnx hit2 hbw2
        clear hW1
        go_wp2
        · go_ret
          exact ⟨ret_bool (by rw [HS.out]; exact (part_stops s pos hp (by have h3 := ‹(_ ∨ _) ∨ _›; simp only [beq_iff_eq] at h3; omega)).symm), hbw2⟩
        · exact ⟨⟨_, hit2, hbw2, by show _ = _; rw [HS.out]; have h3 := ‹(_ ∧ _) ∧ _›; simp only [beq_eq_false_iff_ne] at h3; exact part_goes s pos hp h3.1.1 h3.1.2 h3.2⟩, by rw [hpos0, iterPos_of hit2]; omega⟩
        · go_ret
          exact ⟨ret_bool (by rw [HS.out]; exact (part_stops s pos hp (.inr (.inl ‹_›))).symm), hbw2⟩
        · go_ret
          exact ⟨ret_bool (by rw [HS.out]; exact (part_stops s pos hp (.inl ‹_›)).symm), hbw2⟩
      · have hnx : ∀ ty, (Instr.next (.pointer (some ⟨w.heap.size, 0, none⟩)) true ty).run Tryd.prog wr = _ := fun ty => Lib.run_next_end_at wr w.heap.size s pos ty hit hp
        have HE : Hid (partAll s.data.toList = true) := by show _ = _; rw [HS.out, drop_end s pos hp]; rfl
        go_wp2
        go_ret
        exact ⟨ret_bool HE.out.symm, hbw⟩
  · rw [partB_no_len h0]
    by_cases h1 : s.size = 0
    · have he := isEmpty_true h1
      go_enter Tryd.func75, Tryd.ntmps75
      go_wp2
      go_ret
      exact ⟨rfl, Below.refl _ _⟩
    · have he := isEmpty_false (by omega : 0 < s.size)
      have hd : decide ((8 : Int) < (s.size : Int)) = true := by simp; omega
      go_enter Tryd.func75, Tryd.ntmps75
      go_wp2
      go_ret
      exact ⟨rfl, Below.refl _ _⟩

theorem l01In_any (n a b : Int) (w : World) : Calls Tryd.prog 67 #[.int .i64 n, .int .i64 a, .int .i64 b] w fun e w' => e = .returned (.bool (inB n a b)) ∧ w = w' := by
  go_enter Tryd.func67, Tryd.ntmps67
  go_wp2
  all_goals (go_ret; exact ⟨ret_bool (by rw [Bool.eq_iff_iff]; simp [inB]; omega), rfl⟩)

set_option maxHeartbeats 400000 in
theorem l01Part_any (s : ByteArray) (w : World) : Calls Tryd.prog 63 #[.string s] w fun e w' => e = .returned (.bool (partB s.data.toList)) ∧ w = w' := by
  by_cases h0 : 1 ≤ s.size ∧ s.size ≤ 8
  · have hin : inB (s.size : Int) 1 8 = true := inB_true (by omega)
    rcases Bool.eq_false_or_eq_true (s.toList == [46]) with h1 | h1
    · rw [partB_no_dot h1]
      go_enter Tryd.func63, Tryd.ntmps63
      go_wp2_with (first | (go_at_call 67; refine (l01In_any _ _ _ _).mono ?_; rintro e w' ⟨rfl, rfl⟩))
      go_ret
      exact ⟨rfl, rfl⟩
    rcases Bool.eq_false_or_eq_true (s.toList == [46, 46]) with h2 | h2
    · rw [partB_no_dots h2]
      go_enter Tryd.func63, Tryd.ntmps63
      go_wp2_with (first | (go_at_call 67; refine (l01In_any _ _ _ _).mono ?_; rintro e w' ⟨rfl, rfl⟩))
      go_ret
      exact ⟨rfl, rfl⟩
    rw [partB_yes h0 h1 h2]
    go_enter Tryd.func63, Tryd.ntmps63
    go_wp2_with (first | (go_at_call 67; refine (l01In_any _ _ _ _).mono ?_; rintro e w' ⟨rfl, rfl⟩))
    go_loop [3] (fun i => ∃ k : Nat, k ≤ s.size ∧ i = .int .i64 k ∧ Hid (partAll s.data.toList = partAll (s.data.toList.drop k))) (fun i => s.size - (intOf i).toNat)
    case atStart => exact ⟨0, by omega, rfl, rfl⟩
    case round =>
      obtain ⟨k, hk2, rfl, HS⟩ := hrel
      by_cases hlt : k < s.size
      · go_wp2
        · go_ret
          exact ⟨ret_bool (by rw [HS.out]; exact (part_stops' s k hlt (by have h3 := ‹(_ ∨ _) ∨ _›; simp only [beq_iff_eq] at h3; omega)).symm), rfl⟩
        · exact ⟨⟨k + 1, by omega, by go_num, by show _ = _; rw [HS.out]; have h3 := ‹(_ ∧ _) ∧ _›; simp only [beq_eq_false_iff_ne] at h3; exact part_goes' s k hlt h3.1.1 h3.1.2 h3.2⟩, by simp [intOf]; omega⟩
        · go_ret
          exact ⟨ret_bool (by rw [HS.out]; exact (part_stops' s k hlt (.inr (.inl ‹_›))).symm), rfl⟩
        · go_ret
          exact ⟨ret_bool (by rw [HS.out]; exact (part_stops' s k hlt (.inl ‹_›)).symm), rfl⟩
      · have HE : Hid (partAll s.data.toList = true) := by show _ = _; rw [HS.out, drop_end s k hlt]; rfl
        go_wp2
        go_ret
        exact ⟨ret_bool HE.out.symm, rfl⟩
  · rw [partB_no_len h0]
    have hin : inB (s.size : Int) 1 8 = false := inB_false (by omega)
    go_enter Tryd.func63, Tryd.ntmps63
    go_wp2_with (first | (go_at_call 67; refine (l01In_any _ _ _ _).mono ?_; rintro e w' ⟨rfl, rfl⟩))
    go_ret
    exact ⟨rfl, rfl⟩

end Go.Proofs.YtbgejefmchnhcaaDoor.Paths
