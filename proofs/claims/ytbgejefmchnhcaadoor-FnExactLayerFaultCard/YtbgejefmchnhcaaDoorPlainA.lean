/- Plain facts on lists of bytes: names. Nothing of the program is in it. -/
import Derived.WalkKit
import Derived.Lib.Strings
namespace Go.Proofs.YtbgejefmchnhcaaDoor

/-- A byte or a rune that may begin a name. -/
def letterB (c : Int) : Bool := decide (97 ≤ c ∧ c ≤ 122 ∨ 65 ≤ c ∧ c ≤ 90 ∨ c = 95)
def digitB (c : Int) : Bool := decide (48 ≤ c ∧ c ≤ 57)

/-- From a place on (the first place of all, if 'first'): letters, and digits behind the first place. -/
def nameFrom : Bool → List UInt8 → Bool
  | _, [] => true
  | first, c :: r => (letterB c.toNat || (!first && digitB c.toNat)) && nameFrom false r

def nameB (l : List UInt8) : Bool := decide (1 ≤ l.length ∧ l.length ≤ 12) && nameFrom true l

theorem letterB_high {c : Int} (h : 128 ≤ c) : letterB c = false := by unfold letterB; simp; omega
theorem digitB_high {c : Int} (h : 128 ≤ c) : digitB c = false := by unfold digitB; simp; omega

theorem drop_cons (s : ByteArray) (k : Nat) (h : k < s.size) : s.data.toList.drop k = s[k] :: s.data.toList.drop (k + 1) := by
  have : s.data.toList.drop k = s.data.toList[k]'(by simpa using h) :: s.data.toList.drop (k + 1) := List.drop_eq_getElem_cons (by simpa using h)
  rw [this]
  rfl
theorem drop_end (s : ByteArray) (k : Nat) (h : ¬ k < s.size) : s.data.toList.drop k = [] := by
  simp
  omega

theorem width_pos (s : ByteArray) (pos : Nat) (h : pos < s.size) : 1 ≤ (Utf8.decode s pos).2 := by
  by_cases ha : (s[pos]'h).toNat < 128
  · rw [decode_ascii s pos h ha]
    exact Nat.le_refl _
  · exact (decode_high s pos h (by omega)).2

theorem isEmpty_false {s : ByteArray} (h : 0 < s.size) : s.toList.isEmpty = false := by
  rw [Lib.toList_data]
  have := Lib.size_eq s
  cases hl : s.data.toList with
  | nil => rw [hl] at this; rw [this] at h; simp at h
  | cons => rfl
theorem isEmpty_true {s : ByteArray} (h : s.size = 0) : s.toList.isEmpty = true := by
  rw [Lib.toList_data]
  have := Lib.size_eq s
  cases hl : s.data.toList with
  | nil => rfl
  | cons => rw [hl] at this; rw [this] at h; simp at h

theorem nameB_no {s : ByteArray} (h : ¬ (1 ≤ s.size ∧ s.size ≤ 12)) : nameB s.data.toList = false := by
  have := Lib.size_eq s
  unfold nameB
  rw [← this, decide_eq_false h]
  rfl
theorem nameB_yes {s : ByteArray} (h : 1 ≤ s.size ∧ s.size ≤ 12) : nameB s.data.toList = nameFrom true s.data.toList := by
  have := Lib.size_eq s
  unfold nameB
  rw [← this, decide_eq_true h]
  rfl

theorem nameFrom_end (f : Bool) : nameFrom f [] = true := rfl
theorem nameFrom_at (f : Bool) (s : ByteArray) (k : Nat) (h : k < s.size) :
    nameFrom f (s.data.toList.drop k) = ((letterB s[k].toNat || (!f && digitB s[k].toNat)) && nameFrom false (s.data.toList.drop (k + 1))) := by
  rw [drop_cons s k h]
  rfl

/-- A rune below 128 is the byte at its place, and it is one byte long; any other rune stands at a byte from 128 on. -/
theorem decode_cases (s : ByteArray) (k : Nat) (h : k < s.size) :
    (s[k].toNat < 128 ∧ Utf8.decode s k = (s[k].toNat, 1)) ∨ (128 ≤ s[k].toNat ∧ 128 ≤ (Utf8.decode s k).1) := by
  by_cases ha : s[k].toNat < 128
  · exact .inl ⟨ha, decode_ascii s k h ha⟩
  · exact .inr ⟨by omega, (decode_high s k h (by omega)).1⟩

theorem letterB_rune (s : ByteArray) (k : Nat) (h : k < s.size) : letterB ((Utf8.decode s k).1 : Int) = letterB (s[k].toNat : Int) := by
  rcases decode_cases s k h with ⟨_, e⟩ | ⟨a, b⟩
  · rw [e]
  · rw [letterB_high (by omega), letterB_high (by omega)]
theorem digitB_rune (s : ByteArray) (k : Nat) (h : k < s.size) : digitB ((Utf8.decode s k).1 : Int) = digitB (s[k].toNat : Int) := by
  rcases decode_cases s k h with ⟨_, e⟩ | ⟨a, b⟩
  · rw [e]
  · rw [digitB_high (by omega), digitB_high (by omega)]

theorem name_goes (s : ByteArray) (k : Nat) (h : k < s.size) (hl : letterB ((Utf8.decode s k).1 : Int) = true ∨ k ≠ 0 ∧ digitB ((Utf8.decode s k).1 : Int) = true) :
    nameFrom (k == 0) (s.data.toList.drop k) = nameFrom (k + (Utf8.decode s k).2 == 0) (s.data.toList.drop (k + (Utf8.decode s k).2)) := by
  have e : (Utf8.decode s k).2 = 1 := by
    rcases decode_cases s k h with ⟨_, e⟩ | ⟨a, b⟩
    · rw [e]
    · rw [letterB_high (by omega), digitB_high (by omega)] at hl; simp at hl
  rw [letterB_rune s k h, digitB_rune s k h] at hl
  rw [nameFrom_at _ s k h, e]
  rcases hl with hl | ⟨h0, hl⟩
  · simp [hl]
  · simp [hl, h0]
theorem name_stops (s : ByteArray) (k : Nat) (h : k < s.size) (hl : letterB ((Utf8.decode s k).1 : Int) = false) (hd : k = 0 ∨ digitB ((Utf8.decode s k).1 : Int) = false) :
    nameFrom (k == 0) (s.data.toList.drop k) = false := by
  rw [letterB_rune s k h] at hl
  rw [digitB_rune s k h] at hd
  rw [nameFrom_at _ s k h, hl]
  rcases hd with rfl | hd
  · simp
  · simp [hd]

theorem or_not {pos : Nat} {b : Bool} (h0 : ¬ pos = 0) (h : ((pos : Int) == 0) = true ∨ (!b) = true) : b = false := by
  rcases h with h | h
  · simp at h; omega
  · simpa using h

end Go.Proofs.YtbgejefmchnhcaaDoor
