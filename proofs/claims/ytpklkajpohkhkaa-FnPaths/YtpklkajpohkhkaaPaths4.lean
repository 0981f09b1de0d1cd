/- Paths: PathOK and PartsOf, of the program and of its model. -/
import Derived.Test.YtpklkajpohkhkaaPaths3
namespace Go.Proofs.Ytpklkajpohkhkaa.Paths
open Go.RowKit

theorem own_mono {w : World} {base base' : Nat} {e : TypeId} {size : Nat} {v : Value} {n : Nat} {xs : List Value} (h : w.ownsRow base e size v n xs) (hb : base' ≤ base) : w.ownsRow base' e size v n xs := by
  obtain ⟨h1, h2⟩ := h
  refine ⟨h1, ?_⟩
  rcases h2 with h2 | ⟨g, cap', cur, a, b, c, d⟩
  · exact .inl h2
  · exact .inr ⟨g, cap', cur, a, Nat.le_trans hb b, c, d⟩

theorem split_nil {l : List UInt8} {w w' : World} {v : Value} (h : SplitPost l w w' v) : ∃ A cap, v = .slice A (partsOf l).length cap ∧ A.isNone = !pathB l := by
  obtain ⟨hb, hown, h1, h2⟩ := h
  rcases hown.2 with ⟨rfl, hn⟩ | ⟨g, cap, cur, rfl, _⟩
  · refine ⟨none, 0, by rw [hn], ?_⟩
    rcases Bool.eq_false_or_eq_true (pathB l) with h | h
    · exact absurd rfl (h2 h)
    · rw [h]; rfl
  · refine ⟨_, cap, rfl, ?_⟩
    rcases Bool.eq_false_or_eq_true (pathB l) with h | h
    · rw [h]; rfl
    · have := h1 h; cases this

theorem pathOK_impl (s : ByteArray) (w : World) (hs : s.size ≤ maxLen) : Calls Try.prog 18 #[.string s] w fun e w' => e = .returned (.bool (pathB s.data.toList)) ∧ Below w.heap.size w w' := by
  have hq := fun (w : World) (a : Option Addr) (n c n' c' : Nat) => run_neq_slice_nil_any (P := Try.prog) w 24 9 a n c n' c' Try.underlying24
  go_enter Try.func18, Try.ntmps18
  go_wp2_with fail
  refine (splitPath_any s _ hs).mono ?_
  rintro e w1 ⟨v, rfl, hp⟩
  obtain ⟨A, cap, rfl, hA⟩ := split_nil hp
  go_wp2_with fail
  go_ret
  exact ⟨ret_bool (by simp), hp.1⟩

theorem pathOK_spec (s : ByteArray) (w : World) : Calls Try.prog 26 #[.string s] w fun e w' => e = .returned (.bool (pathB s.data.toList)) ∧ Below w.heap.size w w' := by
  by_cases h : s.size ≤ 65536
  · have hd : decide ((65536 : Int) < (s.size : Int)) = false := by simp; omega
    go_enter Try.func26, Try.ntmps26
    go_wp2_with fail
    refine (l01OK_any s _).mono ?_
    rintro e w1 ⟨rfl, hb⟩
    go_wp2_with fail
    go_ret
    exact ⟨rfl, hb⟩
  · rw [pathB_long (by omega)]
    have hd : decide ((65536 : Int) < (s.size : Int)) = true := by simp; omega
    go_enter Try.func26, Try.ntmps26
    go_wp2_with fail
    go_ret
    exact ⟨rfl, Below.refl _ _⟩

/-- The code that asks whether a string is a path. -/
def askC (s : ByteArray) : Int := if 65536 < s.size then 2 else if pathB s.data.toList then 0 else 10
theorem askC_long {s : ByteArray} (h : ¬ s.size ≤ 65536) : askC s = 2 := by unfold askC; rw [if_pos (by omega)]
theorem askC_yes {s : ByteArray} (h : s.size ≤ 65536) (hp : pathB s.data.toList = true) : askC s = 0 := by unfold askC; rw [if_neg (by omega), if_pos hp]
theorem askC_no {s : ByteArray} (h : s.size ≤ 65536) (hp : pathB s.data.toList = false) : askC s = 10 := by unfold askC; rw [if_neg (by omega), hp]; rfl
theorem ret_int {a b : Int} (h : a = b) : Ending.returned (.int .i64 a) = .returned (.int .i64 b) := by rw [h]

theorem l01Ask_any (s : ByteArray) (w : World) : Calls Try.prog 39 #[.string s] w fun e w' => e = .returned (.int .i64 (askC s)) ∧ Below w.heap.size w w' := by
  by_cases h : s.size ≤ 65536
  · have hd : decide ((65536 : Int) < (s.size : Int)) = false := by simp; omega
    rcases Bool.eq_false_or_eq_true (pathB s.data.toList) with hp | hp
    · rw [askC_yes h hp]
      go_enter Try.func39, Try.ntmps39
      go_wp2_with fail
      refine (l01OK_any s _).mono ?_
      rintro e w1 ⟨rfl, hb⟩
      go_wp2_with fail
      go_ret
      exact ⟨rfl, hb⟩
    · rw [askC_no h hp]
      go_enter Try.func39, Try.ntmps39
      go_wp2_with fail
      refine (l01OK_any s _).mono ?_
      rintro e w1 ⟨rfl, hb⟩
      go_wp2_with fail
      go_ret
      exact ⟨rfl, hb⟩
  · rw [askC_long h]
    have hd : decide ((65536 : Int) < (s.size : Int)) = true := by simp; omega
    go_enter Try.func39, Try.ntmps39
    go_wp2_with fail
    go_ret
    exact ⟨rfl, Below.refl _ _⟩

/-- What PartsOf answers: the parts in a row of its own, and the code. -/
def PartsPost (s : ByteArray) (w : World) (e : Ending) (w' : World) : Prop :=
  ∃ v, e = .returned (.tuple #[v, .int .i64 (askC s)]) ∧ Below w.heap.size w w' ∧ w'.ownsRow w.heap.size 9 1 v (partsOf s.data.toList).length ((partsOf s.data.toList).map strV)

theorem partsOf_no {l : List UInt8} (h : pathB l = false) : partsOf l = [] := by unfold partsOf; rw [h]; rfl
theorem partsOf_yes {l : List UInt8} (h : pathB l = true) : partsOf l = cutAt 47 l := by unfold partsOf; rw [h]; rfl

theorem longText_any (s : ByteArray) (w : World) : Calls Try.prog 37 #[.string s] w fun e w' => e = .returned (.bool (decide ((65536 : Int) < (s.size : Int)))) ∧ w = w' := by
  go_enter Try.func37, Try.ntmps37
  go_wp2_with fail
  go_ret
  exact ⟨rfl, rfl⟩

theorem partsOf_impl (s : ByteArray) (w : World) (hs : s.size ≤ maxLen) : Calls Try.prog 13 #[.string s] w (PartsPost s w) := by
  have hq := fun (w : World) (a : Option Addr) (n c n' c' : Nat) => Lib.run_eql_slice_nil (P := Try.prog) w 24 9 a n c n' c' Try.underlying24
  by_cases h : s.size ≤ 65536
  · have hd : decide ((65536 : Int) < (s.size : Int)) = false := by simp; omega
    go_enter Try.func13, Try.ntmps13
    go_wp2_with fail
    refine (longText_any s _).mono ?_
    rintro e w1 ⟨rfl, rfl⟩
    go_wp2_with fail
    refine (splitPath_any s _ hs).mono ?_
    rintro e w1 ⟨v, rfl, hp⟩
    obtain ⟨A, cap, rfl, hA⟩ := split_nil hp
    rcases Bool.eq_false_or_eq_true (pathB s.data.toList) with hB | hB
    · have HP := Lib.hid hp
      have HA : Hid (askC s = 0) := askC_yes h hB
      clear hp
      rw [hB] at hA
      go_wp2_with fail
      go_ret2
      exact ⟨_, by rw [HA.out]; rfl, HP.out.1, HP.out.2.1⟩
    · have HP := Lib.hid hp
      have HA : Hid (askC s = 10) := askC_no h hB
      have HN : Hid (partsOf s.data.toList = []) := partsOf_no hB
      clear hp
      rw [hB] at hA
      go_wp2_with fail
      go_ret2
      exact ⟨_, by rw [HA.out]; rfl, HP.out.1, by rw [HN.out]; exact World.ownsRow_nil _ _ _ _⟩
  · have hd : decide ((65536 : Int) < (s.size : Int)) = true := by simp; omega
    have HA : Hid (askC s = 2) := askC_long h
    have HN : Hid (partsOf s.data.toList = []) := partsOf_no (pathB_long (by omega))
    go_enter Try.func13, Try.ntmps13
    go_wp2_with fail
    refine (longText_any s _).mono ?_
    rintro e w1 ⟨rfl, rfl⟩
    go_wp2_with fail
    go_ret2
    exact ⟨_, by rw [HA.out]; rfl, Below.refl _ _, by rw [HN.out]; exact World.ownsRow_nil _ _ _ _⟩

theorem partsOf_spec (s : ByteArray) (w : World) : Calls Try.prog 14 #[.string s] w (PartsPost s w) := by
  by_cases h : s.size ≤ 65536
  · have hd : decide ((65536 : Int) < (s.size : Int)) = false := by simp; omega
    rcases Bool.eq_false_or_eq_true (pathB s.data.toList) with hB | hB
    · have hA : askC s = 0 := askC_yes h hB
      have HA := Lib.hid hA
      have HN : Hid (partsOf s.data.toList = cutAt 47 s.data.toList) := partsOf_yes hB
      go_enter Try.func14, Try.ntmps14
      go_wp2_with fail
      refine (l01Ask_any s _).mono ?_
      rintro e w1 ⟨rfl, hb1⟩
      rw [hA]
      clear hA
      go_wp2_with fail
      refine (l00Cut_any s 47 47 rfl _ (by omega)).mono ?_
      rintro e w2 ⟨v, rfl, hb2, hown⟩
      go_wp2_with fail
      go_ret2
      exact ⟨_, by rw [HA.out]; rfl, hb1.trans (hb2.mono hb1.size), by rw [HN.out]; exact own_mono hown hb1.size⟩
    · have hA : askC s = 10 := askC_no h hB
      have HA := Lib.hid hA
      have HN : Hid (partsOf s.data.toList = []) := partsOf_no hB
      go_enter Try.func14, Try.ntmps14
      go_wp2_with fail
      refine (l01Ask_any s _).mono ?_
      rintro e w1 ⟨rfl, hb1⟩
      rw [hA]
      clear hA
      go_wp2_with fail
      go_ret2
      exact ⟨_, by rw [HA.out]; rfl, hb1.alloc hb1.size _, by rw [HN.out]; exact World.ownsRow_made _ _ 0 hb1.size (by simp [maxLen]) (by simp)⟩
  · have hd : decide ((65536 : Int) < (s.size : Int)) = true := by simp; omega
    have HA : Hid (askC s = 2) := askC_long h
    have HN : Hid (partsOf s.data.toList = []) := partsOf_no (pathB_long (by omega))
    go_enter Try.func14, Try.ntmps14
    go_wp2_with fail
    go_ret2
    exact ⟨_, by rw [HA.out]; rfl, (Below.refl _ _).alloc (Nat.le_refl _) _, by rw [HN.out]; exact World.ownsRow_made _ _ 0 (Nat.le_refl _) (by simp [maxLen]) (by simp)⟩

end Go.Proofs.Ytpklkajpohkhkaa.Paths
