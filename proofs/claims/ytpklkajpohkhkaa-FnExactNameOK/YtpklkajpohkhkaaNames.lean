/- Names: what NameOK of the program and of its model answer. -/
import Derived.Test.YtpklkajpohkhkaaChecked
import Derived.Test.YtpklkajpohkhkaaPlainA
import Derived.WalkKit
import Derived.WalkSpells
import Derived.WalkSmall
import Derived.Lib.OthersKept
import Derived.Lib.Hide
namespace Go.Proofs.Ytpklkajpohkhkaa
open Go.RowKit

theorem ret_bool {a b : Bool} (h : a = b) : Ending.returned (.bool a) = .returned (.bool b) := by rw [h]

theorem startsName_any (c : Int) (w : World) : Calls Try.prog 51 #[.int .i32 c] w fun e w' => e = .returned (.bool (letterB c)) ∧ w = w' := by
  go_enter Try.func51, Try.ntmps51
  go_wp2
  all_goals (go_ret; exact ⟨ret_bool (by rw [Bool.eq_iff_iff]; simp [letterB]; omega), rfl⟩)

theorem isDigit_any (c : Int) (w : World) : Calls Try.prog 52 #[.int .i32 c] w fun e w' => e = .returned (.bool (digitB c)) ∧ w = w' := by
  go_enter Try.func52, Try.ntmps52
  go_wp2
  all_goals (go_ret; exact ⟨ret_bool (by rw [Bool.eq_iff_iff]; simp [digitB]; omega), rfl⟩)

theorem l00Letter_any (c : Int) (w : World) : Calls Try.prog 63 #[.int .u8 c] w fun e w' => e = .returned (.bool (letterB c)) ∧ w = w' := by
  go_enter Try.func63, Try.ntmps63
  go_wp2
  all_goals (go_ret; exact ⟨ret_bool (by rw [Bool.eq_iff_iff]; simp [letterB]; omega), rfl⟩)

theorem l00Digit_any (c : Int) (w : World) : Calls Try.prog 64 #[.int .u8 c] w fun e w' => e = .returned (.bool (digitB c)) ∧ w = w' := by
  go_enter Try.func64, Try.ntmps64
  go_wp2
  all_goals (go_ret; exact ⟨ret_bool (by rw [Bool.eq_iff_iff]; simp [digitB]; omega), rfl⟩)

set_option maxHeartbeats 400000 in
theorem nameOK_impl (s : ByteArray) (w : World) : Calls Try.prog 30 #[.string s] w fun e w' => e = .returned (.bool (nameB s.data.toList)) ∧ Below w.heap.size w w' := by
  by_cases h0 : 1 ≤ s.size ∧ s.size ≤ 12
  · rw [nameB_yes h0]
    obtain ⟨h1, h2⟩ := h0
    have he := isEmpty_false h1
    have hd : decide ((12 : Int) < (s.size : Int)) = false := by simp; omega
    go_enter Try.func30, Try.ntmps30
    go_wp2
    go_loopw [] (fun wr => ∃ pos : Nat, wr.heap[w.heap.size]? = some (.stringIter s pos) ∧ Below w.heap.size w wr ∧ Hid (nameFrom true s.data.toList = nameFrom (pos == 0) (s.data.toList.drop pos))) (fun wr => s.size - wr.iterPos w.heap.size)
    case atStart => exact ⟨0, World.iter_heap w s 0, (Below.refl _ _).alloc (Nat.le_refl _) _, rfl⟩
    case round =>
      obtain ⟨pos, hit, hbw, HS⟩ := hrel
      have hpos0 := iterPos_of hit
      by_cases hp : pos < s.size
      · have hnx : ∀ ty, (Instr.next (.pointer (some ⟨w.heap.size, 0, none⟩)) true ty).run Try.prog wr = _ := fun ty => Lib.run_next_any_at wr w.heap.size s pos ty hit hp
        have hwd := width_pos s pos hp
        have hit2 := Lib.iterAt_heap wr w.heap.size s pos (pos + (Utf8.decode s pos).2) hit
        have hbw2 := Lib.below_iterAt hbw (k := w.heap.size) (Nat.le_refl _) s (pos + (Utf8.decode s pos).2)
        obtain ⟨W1, hW1⟩ : ∃ W1, W1 = wr.iterAt w.heap.size s (pos + (Utf8.decode s pos).2) := ⟨_, rfl⟩
        rw [← hW1] at hnx hit2 hbw2
        clear hW1
        go_wp2_with (first | (go_at_call 51; refine (startsName_any _ _).mono ?_; rintro e w' ⟨rfl, rfl⟩) | (go_at_call 52; refine (isDigit_any _ _).mono ?_; rintro e w' ⟨rfl, rfl⟩))
        · exact ⟨⟨_, hit2, hbw2, by show _ = _; rw [HS.out]; exact name_goes s pos hp (.inl ‹_›)⟩, by rw [hpos0, iterPos_of hit2]; omega⟩
        · go_ret
          exact ⟨ret_bool (by rw [HS.out]; exact (name_stops s pos hp (by simpa using ‹¬ letterB _ = true›) (.inl ‹_›)).symm), hbw2⟩
        · go_ret
          exact ⟨ret_bool (by rw [HS.out]; exact (name_stops s pos hp (by simpa using ‹¬ letterB _ = true›) (.inr (or_not ‹¬ pos = 0› ‹_ ∨ _›))).symm), hbw2⟩
        · exact ⟨⟨_, hit2, hbw2, by show _ = _; rw [HS.out]; exact name_goes s pos hp (.inr ⟨‹_›, by simpa using (‹_ ∧ _› : _ ∧ (!digitB _) = false).2⟩)⟩, by rw [hpos0, iterPos_of hit2]; omega⟩
      · have hnx : ∀ ty, (Instr.next (.pointer (some ⟨w.heap.size, 0, none⟩)) true ty).run Try.prog wr = _ := fun ty => Lib.run_next_end_at wr w.heap.size s pos ty hit hp
        have HE : Hid (nameFrom true s.data.toList = true) := by show _ = _; rw [HS.out, drop_end s pos hp]; rfl
        go_wp2
        go_ret
        exact ⟨ret_bool HE.out.symm, hbw⟩
  · rw [nameB_no h0]
    by_cases h1 : s.size = 0
    · have he := isEmpty_true h1
      go_enter Try.func30, Try.ntmps30
      go_wp2
      go_ret
      exact ⟨rfl, Below.refl _ _⟩
    · have he := isEmpty_false (by omega : 0 < s.size)
      have hd : decide ((12 : Int) < (s.size : Int)) = true := by simp; omega
      go_enter Try.func30, Try.ntmps30
      go_wp2
      go_ret
      exact ⟨rfl, Below.refl _ _⟩

set_option maxHeartbeats 400000 in
theorem l00Word_any (s : ByteArray) (w : World) : Calls Try.prog 50 #[.string s] w fun e w' => e = .returned (.bool (nameB s.data.toList)) ∧ w = w' := by
  by_cases h0 : 1 ≤ s.size ∧ s.size ≤ 12
  · rw [nameB_yes h0]
    obtain ⟨h1, h2⟩ := h0
    have hd0 : decide ((s.size : Int) < 1) = false := by simp; omega
    have hd : decide ((12 : Int) < (s.size : Int)) = false := by simp; omega
    have hi : (0 : Int) < (s.size : Int) := by omega
    have hL : letterB (s[0].toNat : Int) = true ∨ letterB (s[0].toNat : Int) = false := by cases letterB (s[0].toNat : Int) <;> simp
    have H0 := Lib.hid (nameFrom_at true s 0 h1)
    simp only [List.drop_zero] at H0
    rcases hL with hL | hL
    · go_enter Try.func50, Try.ntmps50
      go_wp2_with (first | (go_at_call 63; refine (l00Letter_any _ _).mono ?_; rintro e w' ⟨rfl, rfl⟩))
      go_loop [3] (fun i => ∃ k : Nat, 1 ≤ k ∧ k ≤ s.size ∧ i = .int .i64 k ∧ Hid (nameFrom true s.data.toList = nameFrom false (s.data.toList.drop k))) (fun i => s.size - (intOf i).toNat)
      case atStart => exact ⟨1, by omega, by omega, rfl, by show _ = _; rw [H0.out, hL]; rfl⟩
      case round =>
        obtain ⟨k, hk1, hk2, rfl, HS⟩ := hrel
        by_cases hlt : k < s.size
        · have HA := Lib.hid (nameFrom_at false s k hlt)
          go_wp2_with (first | (go_at_call 63; refine (l00Letter_any _ _).mono ?_; rintro e w' ⟨rfl, rfl⟩) | (go_at_call 64; refine (l00Digit_any _ _).mono ?_; rintro e w' ⟨rfl, rfl⟩))
          · exact ⟨⟨k + 1, by omega, by omega, by go_num, by show _ = _; rw [HS.out, HA.out]; simp [‹letterB _ = true›]⟩, by simp [intOf]; omega⟩
          · go_ret
            exact ⟨ret_bool (by rw [HS.out, HA.out]; simp_all), rfl⟩
          · exact ⟨⟨k + 1, by omega, by omega, by go_num, by show _ = _; rw [HS.out, HA.out]; simp_all⟩, by simp [intOf]; omega⟩
        · have HE : Hid (nameFrom true s.data.toList = true) := by show _ = _; rw [HS.out, drop_end s k hlt]; rfl
          go_wp2
          go_ret
          exact ⟨ret_bool HE.out.symm, rfl⟩
    · have HE : Hid (nameFrom true s.data.toList = false) := by show _ = _; rw [H0.out, hL]; rfl
      go_enter Try.func50, Try.ntmps50
      go_wp2_with (first | (go_at_call 63; refine (l00Letter_any _ _).mono ?_; rintro e w' ⟨rfl, rfl⟩))
      go_ret
      exact ⟨ret_bool HE.out.symm, rfl⟩
  · rw [nameB_no h0]
    by_cases h1 : s.size = 0
    · have hd0 : decide ((s.size : Int) < 1) = true := by simp; omega
      go_enter Try.func50, Try.ntmps50
      go_wp2
      go_ret
      exact ⟨rfl, rfl⟩
    · have hd0 : decide ((s.size : Int) < 1) = false := by simp; omega
      have hd : decide ((12 : Int) < (s.size : Int)) = true := by simp; omega
      go_enter Try.func50, Try.ntmps50
      go_wp2
      go_ret
      exact ⟨rfl, rfl⟩

theorem nameOK_spec (s : ByteArray) (w : World) : Calls Try.prog 29 #[.string s] w fun e w' => e = .returned (.bool (nameB s.data.toList)) ∧ w = w' := by
  go_enter Try.func29, Try.ntmps29
  go_wp2_with (first | (go_at_call 50; refine (l00Word_any _ _).mono ?_; rintro e w' ⟨rfl, rfl⟩))
  go_ret
  exact ⟨rfl, rfl⟩
end Go.Proofs.Ytpklkajpohkhkaa
