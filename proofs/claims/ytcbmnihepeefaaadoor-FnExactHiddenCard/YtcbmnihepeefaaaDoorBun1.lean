/- Several texts of mine in one file (each begins with its own remark). -/
import Derived.Test.YtcbmnihepeefaaaDoorChecked
import Derived.WalkKit
import Derived.Lib.Strings
import Derived.WalkSpells
import Derived.WalkSmall
import Derived.Lib.OthersKept
import Derived.Lib.Hide
import Derived.Deep.Draws
import Derived.Deep.LoopGhost
import Derived.Lib.Join
import Derived.BigQuiet
import Derived.Laws.BytesArg
import Derived.Deep.QuietTactic
import Derived.Deep.RegionHeld3
/- Plain facts on lists of bytes: names. Nothing of the program is in it. -/

namespace Go.Proofs.YtcbmnihepeefaaaDoor

/-- A byte or a rune that may begin a name. -/
def letterB (c : Int) : Bool := decide (97 ≤ c ∧ c ≤ 122 ∨ 65 ≤ c ∧ c ≤ 90 ∨ c = 95)
def digitB (c : Int) : Bool := decide (48 ≤ c ∧ c ≤ 57)

/-- From a place on (the first place of all, if 'first'): letters, and digits behind the first place. -/
def nameFrom : Bool → List UInt8 → Bool
  | _, [] => true
  | first, c :: r => (letterB c.toNat || (!first && digitB c.toNat)) && nameFrom false r

def nameB (l : List UInt8) : Bool := decide (1 ≤ l.length ∧ l.length ≤ 12) && nameFrom true l

theorem letterB_high {c : Int} (h : 128 ≤ c) : letterB c = false := by unfold letterB; simp; omega
theorem digitB_high {c : Int} (h : 128 ≤ c) : digitB c = false := by unfold digitB; simp; omega

theorem drop_cons (s : ByteArray) (k : Nat) (h : k < s.size) : s.data.toList.drop k = s[k] :: s.data.toList.drop (k + 1) := by
  have : s.data.toList.drop k = s.data.toList[k]'(by simpa using h) :: s.data.toList.drop (k + 1) := List.drop_eq_getElem_cons (by simpa using h)
  rw [this]
  rfl
theorem drop_end (s : ByteArray) (k : Nat) (h : ¬ k < s.size) : s.data.toList.drop k = [] := by
  simp
  omega

theorem width_pos (s : ByteArray) (pos : Nat) (h : pos < s.size) : 1 ≤ (Utf8.decode s pos).2 := by
  by_cases ha : (s[pos]'h).toNat < 128
  · rw [decode_ascii s pos h ha]
    exact Nat.le_refl _
  · exact (decode_high s pos h (by omega)).2

theorem isEmpty_false {s : ByteArray} (h : 0 < s.size) : s.toList.isEmpty = false := by
  rw [Lib.toList_data]
  have := Lib.size_eq s
  cases hl : s.data.toList with
  | nil => rw [hl] at this; rw [this] at h; simp at h
  | cons => rfl
theorem isEmpty_true {s : ByteArray} (h : s.size = 0) : s.toList.isEmpty = true := by
  rw [Lib.toList_data]
  have := Lib.size_eq s
  cases hl : s.data.toList with
  | nil => rfl
  | cons => rw [hl] at this; rw [this] at h; simp at h

theorem nameB_no {s : ByteArray} (h : ¬ (1 ≤ s.size ∧ s.size ≤ 12)) : nameB s.data.toList = false := by
  have := Lib.size_eq s
  unfold nameB
  rw [← this, decide_eq_false h]
  rfl
theorem nameB_yes {s : ByteArray} (h : 1 ≤ s.size ∧ s.size ≤ 12) : nameB s.data.toList = nameFrom true s.data.toList := by
  have := Lib.size_eq s
  unfold nameB
  rw [← this, decide_eq_true h]
  rfl

theorem nameFrom_end (f : Bool) : nameFrom f [] = true := rfl
theorem nameFrom_at (f : Bool) (s : ByteArray) (k : Nat) (h : k < s.size) :
    nameFrom f (s.data.toList.drop k) = ((letterB s[k].toNat || (!f && digitB s[k].toNat)) && nameFrom false (s.data.toList.drop (k + 1))) := by
  rw [drop_cons s k h]
  rfl

/-- A rune below 128 is the byte at its place, and it is one byte long; any other rune stands at a byte from 128 on. -/
theorem decode_cases (s : ByteArray) (k : Nat) (h : k < s.size) :
    (s[k].toNat < 128 ∧ Utf8.decode s k = (s[k].toNat, 1)) ∨ (128 ≤ s[k].toNat ∧ 128 ≤ (Utf8.decode s k).1) := by
  by_cases ha : s[k].toNat < 128
  · exact .inl ⟨ha, decode_ascii s k h ha⟩
  · exact .inr ⟨by omega, (decode_high s k h (by omega)).1⟩

theorem letterB_rune (s : ByteArray) (k : Nat) (h : k < s.size) : letterB ((Utf8.decode s k).1 : Int) = letterB (s[k].toNat : Int) := by
  rcases decode_cases s k h with ⟨_, e⟩ | ⟨a, b⟩
  · rw [e]
  · rw [letterB_high (by omega), letterB_high (by omega)]
theorem digitB_rune (s : ByteArray) (k : Nat) (h : k < s.size) : digitB ((Utf8.decode s k).1 : Int) = digitB (s[k].toNat : Int) := by
  rcases decode_cases s k h with ⟨_, e⟩ | ⟨a, b⟩
  · rw [e]
  · rw [digitB_high (by omega), digitB_high (by omega)]

theorem name_goes (s : ByteArray) (k : Nat) (h : k < s.size) (hl : letterB ((Utf8.decode s k).1 : Int) = true ∨ k ≠ 0 ∧ digitB ((Utf8.decode s k).1 : Int) = true) :
    nameFrom (k == 0) (s.data.toList.drop k) = nameFrom (k + (Utf8.decode s k).2 == 0) (s.data.toList.drop (k + (Utf8.decode s k).2)) := by
  have e : (Utf8.decode s k).2 = 1 := by
    rcases decode_cases s k h with ⟨_, e⟩ | ⟨a, b⟩
    · rw [e]
    · rw [letterB_high (by omega), digitB_high (by omega)] at hl; simp at hl
  rw [letterB_rune s k h, digitB_rune s k h] at hl
  rw [nameFrom_at _ s k h, e]
  rcases hl with hl | ⟨h0, hl⟩
  · simp [hl]
  · simp [hl, h0]
theorem name_stops (s : ByteArray) (k : Nat) (h : k < s.size) (hl : letterB ((Utf8.decode s k).1 : Int) = false) (hd : k = 0 ∨ digitB ((Utf8.decode s k).1 : Int) = false) :
    nameFrom (k == 0) (s.data.toList.drop k) = false := by
  rw [letterB_rune s k h] at hl
  rw [digitB_rune s k h] at hd
  rw [nameFrom_at _ s k h, hl]
  rcases hd with rfl | hd
  · simp
  · simp [hd]

theorem or_not {pos : Nat} {b : Bool} (h0 : ¬ pos = 0) (h : ((pos : Int) == 0) = true ∨ (!b) = true) : b = false := by
  rcases h with h | h
  · simp at h; omega
  · simpa using h

end Go.Proofs.YtcbmnihepeefaaaDoor

/- Plain facts on lists of bytes: parts and paths. Nothing of the program is in it. -/

namespace Go.Proofs.YtcbmnihepeefaaaDoor

/-- A byte or a rune that may stand in a part. -/
def partChar (c : Int) : Bool := decide (33 ≤ c ∧ c ≤ 126 ∧ c ≠ 47)
def partAll (l : List UInt8) : Bool := l.all fun c => partChar c.toNat
def partB (l : List UInt8) : Bool := decide (1 ≤ l.length ∧ l.length ≤ 8) && (!(l == [46]) && !(l == [46, 46])) && partAll l

/-- A list parted at each x. -/
def cutAt (x : UInt8) : List UInt8 → List (List UInt8)
  | [] => [[]]
  | c :: r => if c = x then [] :: cutAt x r else
    match cutAt x r with
    | [] => [[c]]
    | h :: t => (c :: h) :: t

def pathB (l : List UInt8) : Bool := decide ((cutAt 47 l).length ≤ 4) && (cutAt 47 l).all partB

theorem cutAt_ne (x : UInt8) (l : List UInt8) : cutAt x l ≠ [] := by
  cases l with
  | nil => simp [cutAt]
  | cons c r =>
    simp only [cutAt]
    split
    · simp
    · split <;> simp
theorem cutAt_pos (x : UInt8) (l : List UInt8) : 1 ≤ (cutAt x l).length := by
  have := cutAt_ne x l
  cases h : cutAt x l with
  | nil => exact absurd h this
  | cons => simp
theorem cutAt_clean {x : UInt8} {l : List UInt8} (h : ∀ c ∈ l, c ≠ x) : cutAt x l = [l] := by
  induction l with
  | nil => rfl
  | cons c r ih =>
    have h1 : c ≠ x := h c (by simp)
    simp [cutAt, h1, ih (fun d hd => h d (by simp [hd]))]
theorem cutAt_at {x : UInt8} {a : List UInt8} (b : List UInt8) (h : ∀ c ∈ a, c ≠ x) : cutAt x (a ++ x :: b) = a :: cutAt x b := by
  induction a with
  | nil => simp [cutAt]
  | cons c r ih =>
    have h1 : c ≠ x := h c (by simp)
    simp [cutAt, h1, ih (fun d hd => h d (by simp [hd]))]
theorem cutAt_length_le (x : UInt8) (l : List UInt8) : (cutAt x l).length ≤ l.length + 1 := by
  induction l with
  | nil => simp [cutAt]
  | cons c r ih =>
    simp only [cutAt]
    split
    · simp; omega
    · split
      · simp
      · rename_i h; rw [h] at ih; simp at ih ⊢; omega

theorem partChar_high {c : Int} (h : 127 ≤ c) : partChar c = false := by unfold partChar; simp; omega
theorem partChar_rune (s : ByteArray) (k : Nat) (h : k < s.size) : partChar ((Utf8.decode s k).1 : Int) = partChar (s[k].toNat : Int) := by
  rcases decode_cases s k h with ⟨_, e⟩ | ⟨a, b⟩
  · rw [e]
  · rw [partChar_high (by omega), partChar_high (by omega)]
theorem partAll_mem {l : List UInt8} (h : partAll l = true) {c : UInt8} (hc : c ∈ l) : 33 ≤ c.toNat ∧ c.toNat ≤ 126 ∧ c.toNat ≠ 47 := by
  have h1 := List.all_eq_true.1 h c hc
  simp [partChar] at h1
  omega
theorem partB_all {l : List UInt8} (h : partB l = true) : partAll l = true := by
  unfold partB at h
  simp only [Bool.and_eq_true] at h
  exact h.2
theorem partB_len {l : List UInt8} (h : partB l = true) : 1 ≤ l.length ∧ l.length ≤ 8 := by
  unfold partB at h
  simp only [Bool.and_eq_true, decide_eq_true_eq] at h
  exact h.1.1
theorem partB_clean {l : List UInt8} (h : partB l = true) : ∀ c ∈ l, c ≠ 47 := by
  intro c hc e
  have := partAll_mem (partB_all h) hc
  subst e
  exact absurd rfl this.2.2
theorem partB_not_high {l : List UInt8} (h : ∃ c ∈ l, 128 ≤ c.toNat) : partB l = false := by
  obtain ⟨c, hc, hh⟩ := h
  rw [Bool.eq_false_iff]
  intro hp
  have := partAll_mem (partB_all hp) hc
  omega

theorem cut_mem_high {l : List UInt8} (h : ∃ c ∈ l, 128 ≤ c.toNat) : ∃ p ∈ cutAt 47 l, ∃ c ∈ p, 128 ≤ c.toNat := by
  obtain ⟨c, hc, hh⟩ := h
  induction l with
  | nil => cases hc
  | cons d r ih =>
    simp only [cutAt]
    rcases List.mem_cons.1 hc with rfl | hc
    · have h47 : c ≠ 47 := by rintro rfl; exact absurd hh (by decide)
      rw [if_neg h47]
      split
      · exact ⟨[c], by simp, c, by simp, hh⟩
      · exact ⟨_, List.mem_cons_self, c, by simp, hh⟩
    · obtain ⟨p, hp, q⟩ := ih hc
      split
      · exact ⟨p, by simp [hp], q⟩
      · split
        · rename_i he; rw [he] at hp; cases hp
        · rename_i h' t he
          rw [he] at hp
          rcases List.mem_cons.1 hp with rfl | hp
          · obtain ⟨x, hx, q⟩ := q
            exact ⟨_, List.mem_cons_self, x, by simp [hx], q⟩
          · exact ⟨p, by simp [hp], q⟩
theorem cut_not_high {l : List UInt8} (h : ∃ c ∈ l, 128 ≤ c.toNat) : (cutAt 47 l).all partB = false := by
  obtain ⟨p, hp, q⟩ := cut_mem_high h
  rw [Bool.eq_false_iff]
  intro ha
  have := List.all_eq_true.1 ha p hp
  rw [partB_not_high q] at this
  cases this

/-- What a search for the first 47 has met before 'pos': neither 47 nor a byte from 128 on; or some byte from 128 on. -/
def Seen (l : List UInt8) (pos : Nat) : Prop := (∀ c ∈ l.take pos, c ≠ 47 ∧ c.toNat < 128) ∨ ∃ c ∈ l.take pos, 128 ≤ c.toNat
theorem Seen.zero (l : List UInt8) : Seen l 0 := .inl (by simp)

theorem take_succ_at (s : ByteArray) (k : Nat) (h : k < s.size) : s.data.toList.take (k + 1) = s.data.toList.take k ++ [s[k]] := by
  rw [List.take_succ_eq_append_getElem (by simpa using h)]; rfl
theorem take_mono {l : List UInt8} {a b : Nat} (h : a ≤ b) {c : UInt8} (hc : c ∈ l.take a) : c ∈ l.take b := by
  rw [show l.take a = (l.take b).take a by rw [List.take_take, Nat.min_eq_left h]] at hc
  exact List.mem_of_mem_take hc

theorem Seen.next {s : ByteArray} {k : Nat} (hk : k < s.size) (h : Seen s.data.toList k) (hne : ((Utf8.decode s k).1 : Int) ≠ 47) : Seen s.data.toList (k + (Utf8.decode s k).2) := by
  have hw := width_pos s k hk
  have hmem : s[k] ∈ s.data.toList.take (k + 1) := by rw [take_succ_at s k hk]; simp
  rcases decode_cases s k hk with ⟨ha, e⟩ | ⟨ha, hb⟩
  · rw [e] at hne ⊢
    have h47 : s[k] ≠ 47 := by intro e2; rw [e2] at hne; exact hne rfl
    rcases h with h | ⟨c, hc, hh⟩
    · refine .inl fun c hc => ?_
      rw [take_succ_at s k hk] at hc
      rcases List.mem_append.1 hc with hc | hc
      · exact h c hc
      · simp at hc; subst hc; exact ⟨h47, ha⟩
    · exact .inr ⟨c, take_mono (by omega) hc, hh⟩
  · exact .inr ⟨s[k], take_mono (by omega) hmem, ha⟩

theorem split_at (s : ByteArray) (k : Nat) (hk : k < s.size) (h : ((Utf8.decode s k).1 : Int) = 47) : s.data.toList = s.data.toList.take k ++ 47 :: s.data.toList.drop (k + 1) := by
  rcases decode_cases s k hk with ⟨ha, e⟩ | ⟨ha, hb⟩
  · rw [e] at h
    have h47 : s[k] = 47 := by apply UInt8.toNat_inj.1; show s[k].toNat = 47; simp at h; omega
    rw [← h47, ← drop_cons s k hk, List.take_append_drop]
  · omega

/-- The search met a 47 at k: a part ends there. -/
theorem cut_step {s : ByteArray} {k : Nat} (hk : k < s.size) (h : ((Utf8.decode s k).1 : Int) = 47) (hp : partB (s.data.toList.take k) = true) :
    cutAt 47 s.data.toList = s.data.toList.take k :: cutAt 47 (s.data.toList.drop (k + 1)) := by
  have e := split_at s k hk h
  have := cutAt_at (s.data.toList.drop (k + 1)) (partB_clean hp)
  rw [← e] at this
  exact this
theorem cut_step_no {s : ByteArray} {k : Nat} (hk : k < s.size) (hs : Seen s.data.toList k) (h : ((Utf8.decode s k).1 : Int) = 47) (hp : partB (s.data.toList.take k) = false) :
    (cutAt 47 s.data.toList).all partB = false := by
  rcases hs with hs | ⟨c, hc, hh⟩
  · have e := split_at s k hk h
    have := cutAt_at (s.data.toList.drop (k + 1)) (fun c hc => (hs c hc).1)
    rw [← e] at this
    rw [this]
    simp [hp]
  · exact cut_not_high ⟨c, List.mem_of_mem_take hc, hh⟩
theorem cut_last {l : List UInt8} (hp : partB l = true) : cutAt 47 l = [l] := cutAt_clean (partB_clean hp)
theorem cut_last_no {l : List UInt8} {k : Nat} (hk : l.length ≤ k) (hs : Seen l k) (hp : partB l = false) : (cutAt 47 l).all partB = false := by
  unfold Seen at hs
  rw [List.take_of_length_le hk] at hs
  rcases hs with hs | hs
  · rw [cutAt_clean (fun c hc => (hs c hc).1)]
    simp [hp]
  · exact cut_not_high hs

theorem pathB_bad {l : List UInt8} {P : List (List UInt8)} {R : List UInt8} (h : cutAt 47 l = P ++ cutAt 47 R) (hR : (cutAt 47 R).all partB = false) : pathB l = false := by
  unfold pathB
  rw [h, List.all_append, hR]
  simp
theorem pathB_many {l : List UInt8} {P : List (List UInt8)} {R : List UInt8} (h : cutAt 47 l = P ++ cutAt 47 R) (hP : 4 ≤ P.length) : pathB l = false := by
  unfold pathB
  rw [h]
  have := cutAt_pos 47 R
  rw [decide_eq_false (by simp; omega)]
  rfl
theorem pathB_good {l : List UInt8} {P : List (List UInt8)} {R : List UInt8} (h : cutAt 47 l = P ++ cutAt 47 R) (hP : P.length < 4) (ha : P.all partB = true) (hR : partB R = true) : pathB l = true ∧ cutAt 47 l = P ++ [R] := by
  rw [cut_last hR] at h
  refine ⟨?_, h⟩
  unfold pathB
  rw [h, decide_eq_true (by simp; omega)]
  simp [ha, hR]

def inB (n a b : Int) : Bool := decide (a ≤ n ∧ n ≤ b)
theorem inB_true {n a b : Int} (h : a ≤ n ∧ n ≤ b) : inB n a b = true := by unfold inB; rw [decide_eq_true h]
theorem inB_false {n a b : Int} (h : ¬ (a ≤ n ∧ n ≤ b)) : inB n a b = false := by unfold inB; rw [decide_eq_false h]

/-! ### What the walks of PartOK ask -/
theorem partB_no_len {s : ByteArray} (h : ¬ (1 ≤ s.size ∧ s.size ≤ 8)) : partB s.data.toList = false := by
  have := Lib.size_eq s
  unfold partB
  rw [← this, decide_eq_false h]
  rfl
theorem partB_no_dot {s : ByteArray} (h : (s.toList == [46]) = true) : partB s.data.toList = false := by
  rw [Lib.toList_data] at h
  unfold partB
  rw [h]
  simp
theorem partB_no_dots {s : ByteArray} (h : (s.toList == [46, 46]) = true) : partB s.data.toList = false := by
  rw [Lib.toList_data] at h
  unfold partB
  rw [h]
  simp
theorem partB_yes {s : ByteArray} (h : 1 ≤ s.size ∧ s.size ≤ 8) (h1 : (s.toList == [46]) = false) (h2 : (s.toList == [46, 46]) = false) : partB s.data.toList = partAll s.data.toList := by
  have := Lib.size_eq s
  rw [Lib.toList_data] at h1 h2
  unfold partB
  rw [← this, decide_eq_true h, h1, h2]
  rfl
theorem partAll_at (s : ByteArray) (k : Nat) (h : k < s.size) : partAll (s.data.toList.drop k) = (partChar s[k].toNat && partAll (s.data.toList.drop (k + 1))) := by
  rw [drop_cons s k h]
  rfl
theorem part_goes (s : ByteArray) (k : Nat) (h : k < s.size) (hl : 33 ≤ ((Utf8.decode s k).1 : Int)) (hh : ((Utf8.decode s k).1 : Int) ≤ 126) (h47 : ((Utf8.decode s k).1 : Int) ≠ 47) :
    partAll (s.data.toList.drop k) = partAll (s.data.toList.drop (k + (Utf8.decode s k).2)) := by
  have hp : partChar ((Utf8.decode s k).1 : Int) = true := by unfold partChar; simp; omega
  rcases decode_cases s k h with ⟨_, e⟩ | ⟨a, b⟩
  · rw [partAll_at s k h, ← partChar_rune s k h, hp, e]; rfl
  · omega
theorem part_stops (s : ByteArray) (k : Nat) (h : k < s.size) (hl : ((Utf8.decode s k).1 : Int) < 33 ∨ 126 < ((Utf8.decode s k).1 : Int) ∨ ((Utf8.decode s k).1 : Int) = 47) :
    partAll (s.data.toList.drop k) = false := by
  have hp : partChar ((Utf8.decode s k).1 : Int) = false := by unfold partChar; simp; omega
  rw [partAll_at s k h, ← partChar_rune s k h, hp]; rfl

theorem part_goes' (s : ByteArray) (k : Nat) (h : k < s.size) (hl : 33 ≤ (s[k].toNat : Int)) (hh : (s[k].toNat : Int) ≤ 126) (h47 : (s[k].toNat : Int) ≠ 47) :
    partAll (s.data.toList.drop k) = partAll (s.data.toList.drop (k + 1)) := by
  have hp : partChar (s[k].toNat : Int) = true := by unfold partChar; simp; omega
  rw [partAll_at s k h, hp]; rfl
theorem part_stops' (s : ByteArray) (k : Nat) (h : k < s.size) (hl : (s[k].toNat : Int) < 33 ∨ 126 < (s[k].toNat : Int) ∨ (s[k].toNat : Int) = 47) :
    partAll (s.data.toList.drop k) = false := by
  have hp : partChar (s[k].toNat : Int) = false := by unfold partChar; simp; omega
  rw [partAll_at s k h, hp]; rfl

end Go.Proofs.YtcbmnihepeefaaaDoor

/- Plain facts on lists of bytes: a list cut at a sign, step by step. -/

namespace Go.Proofs.YtcbmnihepeefaaaDoor

/-- From place f up to k no byte is c. -/
def Gap (l : List UInt8) (c : UInt8) (f k : Nat) : Prop := ∀ d ∈ (l.drop f).take (k - f), d ≠ c
theorem Gap.refl (l : List UInt8) (c : UInt8) (f : Nat) : Gap l c f f := by unfold Gap; simp

theorem gap_snoc (s : ByteArray) {f k : Nat} (hf : f ≤ k) (hk : k < s.size) : (s.data.toList.drop f).take (k + 1 - f) = (s.data.toList.drop f).take (k - f) ++ [s[k]] := by
  have hl : k < s.data.toList.length := by rw [← Lib.size_eq]; exact hk
  rw [show k + 1 - f = (k - f) + 1 by omega, List.take_succ_eq_append_getElem (by rw [List.length_drop]; omega)]
  congr 2
  rw [List.getElem_drop]
  simp only [show f + (k - f) = k by omega]
  rfl
theorem Gap.next {s : ByteArray} {c : UInt8} {f k : Nat} (h : Gap s.data.toList c f k) (hf : f ≤ k) (hk : k < s.size) (hne : s[k] ≠ c) : Gap s.data.toList c f (k + 1) := by
  unfold Gap
  rw [gap_snoc s hf hk]
  intro d hd
  rcases List.mem_append.1 hd with hd | hd
  · exact h d hd
  · simp at hd; subst hd; exact hne
theorem Gap.cut {s : ByteArray} {c : UInt8} {f k : Nat} (h : Gap s.data.toList c f k) (hf : f ≤ k) (hk : k < s.size) (he : s[k] = c) :
    cutAt c (s.data.toList.drop f) = (s.data.toList.drop f).take (k - f) :: cutAt c (s.data.toList.drop (k + 1)) := by
  have e : s.data.toList.drop f = (s.data.toList.drop f).take (k - f) ++ c :: s.data.toList.drop (k + 1) := by
    conv => lhs; rw [← List.take_append_drop (k - f) (s.data.toList.drop f)]
    rw [List.drop_drop, show f + (k - f) = k by omega, drop_cons s k hk, he]
  have := cutAt_at (s.data.toList.drop (k + 1)) h
  rw [← e] at this
  exact this
theorem Gap.last {s : ByteArray} {c : UInt8} {f k : Nat} (h : Gap s.data.toList c f k) (hk : ¬ k < s.size) : cutAt c (s.data.toList.drop f) = [s.data.toList.drop f] := by
  apply cutAt_clean
  unfold Gap at h
  rw [List.take_of_length_le (by rw [List.length_drop, ← Lib.size_eq]; omega)] at h
  exact h

theorem cutAt_sum (x : UInt8) (l : List UInt8) : ((cutAt x l).map List.length).sum + (cutAt x l).length = l.length + 1 := by
  induction l with
  | nil => rfl
  | cons c r ih =>
    simp only [cutAt]
    split
    · simp; omega
    · split
      · rename_i h; exact absurd h (cutAt_ne x r)
      · rename_i h; rw [h] at ih; simp at ih ⊢; omega
theorem sum_le {L : List (List UInt8)} (h : L.all partB = true) : (L.map List.length).sum ≤ 8 * L.length := by
  induction L with
  | nil => simp
  | cons a r ih =>
    simp only [List.all_cons, Bool.and_eq_true] at h
    have := partB_len h.1
    have := ih h.2
    simp
    omega
/-- A path has at most 35 bytes. -/
theorem pathB_len {l : List UInt8} (h : pathB l = true) : l.length ≤ 35 := by
  unfold pathB at h
  simp only [Bool.and_eq_true, decide_eq_true_eq] at h
  have := cutAt_sum 47 l
  have := sum_le h.2
  omega
theorem pathB_long {s : ByteArray} (h : 36 < s.size) : pathB s.data.toList = false := by
  rw [Bool.eq_false_iff]
  intro hp
  have := pathB_len hp
  rw [← Lib.size_eq] at this
  omega
theorem pathB_ne {l : List UInt8} (h : pathB l = true) : l ≠ [] := by
  rintro rfl
  revert h
  decide

end Go.Proofs.YtcbmnihepeefaaaDoor

/- Parts: what PartOK of the program and of its model answer. -/

namespace Go.Proofs.YtcbmnihepeefaaaDoor.Paths
open Go.RowKit

theorem ret_bool {a b : Bool} (h : a = b) : Ending.returned (.bool a) = .returned (.bool b) := by rw [h]

set_option maxHeartbeats 400000 in
theorem partOK_impl (s : ByteArray) (w : World) : Calls Tryd.prog 73 #[.string s] w fun e w' => e = .returned (.bool (partB s.data.toList)) ∧ Below w.heap.size w w' := by
  by_cases h0 : 1 ≤ s.size ∧ s.size ≤ 8
  · have he := isEmpty_false h0.1
    have hd : decide ((8 : Int) < (s.size : Int)) = false := by simp; omega
    rcases Bool.eq_false_or_eq_true (s.toList == [46]) with h1 | h1
    · rw [partB_no_dot h1]
      go_enter Tryd.func73, Tryd.ntmps73
      go_wp2
      go_ret
      exact ⟨rfl, Below.refl _ _⟩
    rcases Bool.eq_false_or_eq_true (s.toList == [46, 46]) with h2 | h2
    · rw [partB_no_dots h2]
      go_enter Tryd.func73, Tryd.ntmps73
      go_wp2
      go_ret
      exact ⟨rfl, Below.refl _ _⟩
    rw [partB_yes h0 h1 h2]
    go_enter Tryd.func73, Tryd.ntmps73
    go_wp2
    go_loopw [] (fun wr => ∃ pos : Nat, wr.heap[w.heap.size]? = some (.stringIter s pos) ∧ Below w.heap.size w wr ∧ Hid (partAll s.data.toList = partAll (s.data.toList.drop pos))) (fun wr => s.size - wr.iterPos w.heap.size)
    case atStart => exact ⟨0, World.iter_heap w s 0, (Below.refl _ _).alloc (Nat.le_refl _) _, rfl⟩
    case round =>
      obtain ⟨pos, hit, hbw, HS⟩ := hrel
      have hpos0 := iterPos_of hit
      by_cases hp : pos < s.size
      · have hnx : ∀ ty, (Instr.next (.pointer (some ⟨w.heap.size, 0, none⟩)) true ty).run Tryd.prog wr = _ := fun ty => Lib.run_next_any_at wr w.heap.size s pos ty hit hp
        have hwd := width_pos s pos hp
        have hit2 := Lib.iterAt_heap wr w.heap.size s pos (pos + (Utf8.decode s pos).2) hit
        have hbw2 := Lib.below_iterAt hbw (k := w.heap.size) (Nat.le_refl _) s (pos + (Utf8.decode s pos).2)
        obtain ⟨W1, hW1⟩ : ∃ W1, W1 = wr.iterAt w.heap.size s (pos + (Utf8.decode s pos).2) := ⟨_, rfl⟩
        rw [← hW1] at hnx hit2 hbw2
        clear hW1
        go_wp2
        · go_ret
          exact ⟨ret_bool (by rw [HS.out]; exact (part_stops s pos hp (by have h3 := ‹(_ ∨ _) ∨ _›; simp only [beq_iff_eq] at h3; omega)).symm), hbw2⟩
        · exact ⟨⟨_, hit2, hbw2, by show _ = _; rw [HS.out]; have h3 := ‹(_ ∧ _) ∧ _›; simp only [beq_eq_false_iff_ne] at h3; exact part_goes s pos hp h3.1.1 h3.1.2 h3.2⟩, by rw [hpos0, iterPos_of hit2]; omega⟩
        · go_ret
          exact ⟨ret_bool (by rw [HS.out]; exact (part_stops s pos hp (.inr (.inl ‹_›))).symm), hbw2⟩
        · go_ret
          exact ⟨ret_bool (by rw [HS.out]; exact (part_stops s pos hp (.inl ‹_›)).symm), hbw2⟩
      · have hnx : ∀ ty, (Instr.next (.pointer (some ⟨w.heap.size, 0, none⟩)) true ty).run Tryd.prog wr = _ := fun ty => Lib.run_next_end_at wr w.heap.size s pos ty hit hp
        have HE : Hid (partAll s.data.toList = true) := by show _ = _; rw [HS.out, drop_end s pos hp]; rfl
        go_wp2
        go_ret
        exact ⟨ret_bool HE.out.symm, hbw⟩
  · rw [partB_no_len h0]
    by_cases h1 : s.size = 0
    · have he := isEmpty_true h1
      go_enter Tryd.func73, Tryd.ntmps73
      go_wp2
      go_ret
      exact ⟨rfl, Below.refl _ _⟩
    · have he := isEmpty_false (by omega : 0 < s.size)
      have hd : decide ((8 : Int) < (s.size : Int)) = true := by simp; omega
      go_enter Tryd.func73, Tryd.ntmps73
      go_wp2
      go_ret
      exact ⟨rfl, Below.refl _ _⟩

theorem l01In_any (n a b : Int) (w : World) : Calls Tryd.prog 72 #[.int .i64 n, .int .i64 a, .int .i64 b] w fun e w' => e = .returned (.bool (inB n a b)) ∧ w = w' := by
  go_enter Tryd.func72, Tryd.ntmps72
  go_wp2
  all_goals (go_ret; exact ⟨ret_bool (by rw [Bool.eq_iff_iff]; simp [inB]; omega), rfl⟩)

set_option maxHeartbeats 400000 in
theorem l01Part_any (s : ByteArray) (w : World) : Calls Tryd.prog 58 #[.string s] w fun e w' => e = .returned (.bool (partB s.data.toList)) ∧ w = w' := by
  by_cases h0 : 1 ≤ s.size ∧ s.size ≤ 8
  · have hin : inB (s.size : Int) 1 8 = true := inB_true (by omega)
    rcases Bool.eq_false_or_eq_true (s.toList == [46]) with h1 | h1
    · rw [partB_no_dot h1]
      go_enter Tryd.func58, Tryd.ntmps58
      go_wp2_with (first | (go_at_call 72; refine (l01In_any _ _ _ _).mono ?_; rintro e w' ⟨rfl, rfl⟩))
      go_ret
      exact ⟨rfl, rfl⟩
    rcases Bool.eq_false_or_eq_true (s.toList == [46, 46]) with h2 | h2
    · rw [partB_no_dots h2]
      go_enter Tryd.func58, Tryd.ntmps58
      go_wp2_with (first | (go_at_call 72; refine (l01In_any _ _ _ _).mono ?_; rintro e w' ⟨rfl, rfl⟩))
      go_ret
      exact ⟨rfl, rfl⟩
    rw [partB_yes h0 h1 h2]
    go_enter Tryd.func58, Tryd.ntmps58
    go_wp2_with (first | (go_at_call 72; refine (l01In_any _ _ _ _).mono ?_; rintro e w' ⟨rfl, rfl⟩))
    go_loop [3] (fun i => ∃ k : Nat, k ≤ s.size ∧ i = .int .i64 k ∧ Hid (partAll s.data.toList = partAll (s.data.toList.drop k))) (fun i => s.size - (intOf i).toNat)
    case atStart => exact ⟨0, by omega, rfl, rfl⟩
    case round =>
      obtain ⟨k, hk2, rfl, HS⟩ := hrel
      by_cases hlt : k < s.size
      · go_wp2
        · go_ret
          exact ⟨ret_bool (by rw [HS.out]; exact (part_stops' s k hlt (by have h3 := ‹(_ ∨ _) ∨ _›; simp only [beq_iff_eq] at h3; omega)).symm), rfl⟩
        · exact ⟨⟨k + 1, by omega, by go_num, by show _ = _; rw [HS.out]; have h3 := ‹(_ ∧ _) ∧ _›; simp only [beq_eq_false_iff_ne] at h3; exact part_goes' s k hlt h3.1.1 h3.1.2 h3.2⟩, by simp [intOf]; omega⟩
        · go_ret
          exact ⟨ret_bool (by rw [HS.out]; exact (part_stops' s k hlt (.inr (.inl ‹_›))).symm), rfl⟩
        · go_ret
          exact ⟨ret_bool (by rw [HS.out]; exact (part_stops' s k hlt (.inl ‹_›)).symm), rfl⟩
      · have HE : Hid (partAll s.data.toList = true) := by show _ = _; rw [HS.out, drop_end s k hlt]; rfl
        go_wp2
        go_ret
        exact ⟨ret_bool HE.out.symm, rfl⟩
  · rw [partB_no_len h0]
    have hin : inB (s.size : Int) 1 8 = false := inB_false (by omega)
    go_enter Tryd.func58, Tryd.ntmps58
    go_wp2_with (first | (go_at_call 72; refine (l01In_any _ _ _ _).mono ?_; rintro e w' ⟨rfl, rfl⟩))
    go_ret
    exact ⟨rfl, rfl⟩

end Go.Proofs.YtcbmnihepeefaaaDoor.Paths

/- Paths: what splitPath of the program answers. -/

namespace Go.Proofs.YtcbmnihepeefaaaDoor.Paths
open Go.RowKit

theorem strInfo : (Tryd.prog.info? 9).map (fun i => (i.zero, i.size, i.bytes)) = some (some (.string ByteArray.empty), 1, 16) := by kernel_rfl

def strV (l : List UInt8) : Value := .string ⟨l.toArray⟩
theorem strV_data (s : ByteArray) : strV s.data.toList = .string s := rfl
theorem strV_take (s : ByteArray) (k : Nat) : .string (s.extract 0 k) = strV (s.data.toList.take k) := by
  unfold strV
  rw [Lib.extract_eq]
  simp
theorem extract_take (s : ByteArray) (k : Nat) : (s.extract 0 k).data.toList = s.data.toList.take k := by
  rw [Lib.extract_data]; simp
theorem extract_drop (s : ByteArray) (k : Nat) : (s.extract k s.size).data.toList = s.data.toList.drop k := by
  rw [Lib.extract_data, List.take_of_length_le]
  rw [List.length_drop, ← Lib.size_eq]
  exact Nat.le_refl _
def partsOf (l : List UInt8) : List (List UInt8) := if pathB l then cutAt 47 l else []

/-- What splitPath leaves: its parts in a row of its own, nil where there are none. -/
def SplitPost (l : List UInt8) (w w' : World) (v : Value) : Prop :=
  Below w.heap.size w w' ∧ w'.ownsRow w.heap.size 9 1 v (partsOf l).length ((partsOf l).map strV) ∧ (pathB l = false → v = .slice none 0 0) ∧ (pathB l = true → v ≠ .slice none 0 0)

theorem SplitPost.bad {l : List UInt8} {w w' : World} (h : pathB l = false) (hb : Below w.heap.size w w') : SplitPost l w w' (.slice none 0 0) := by
  refine ⟨hb, ?_, fun _ => rfl, fun h2 => by rw [h] at h2; cases h2⟩
  simp [partsOf, h]
  exact World.ownsRow_nil _ _ _ _

theorem own_form {w : World} {base : Nat} {e : TypeId} {size : Nat} {v : Value} {n : Nat} {xs : List Value} (h : w.ownsRow base e size v n xs) : ∃ A cap, v = .slice A n cap := by
  rcases h.2 with ⟨rfl, rfl⟩ | ⟨g, cap, cur, rfl, _⟩
  · exact ⟨none, 0, rfl⟩
  · exact ⟨_, _, rfl⟩

theorem own_below {w w' : World} {base : Nat} {e : TypeId} {size : Nat} {v : Value} {n : Nat} {xs : List Value} (h : w.ownsRow base e size v n xs) (hb : Below w.heap.size w w') : w'.ownsRow base e size v n xs := by
  obtain ⟨h1, h2⟩ := h
  refine ⟨h1, ?_⟩
  rcases h2 with h2 | ⟨g, cap', cur, a, b, c, d⟩
  · exact .inl h2
  · exact .inr ⟨g, cap', cur, a, b, by rw [hb.block g (Array.getElem?_eq_some_iff.1 c).1]; exact c, d⟩

theorem split_more {l : List UInt8} {P : List (List UInt8)} {R : ByteArray} {pos : Nat} (h : cutAt 47 l = P ++ cutAt 47 R.data.toList) (hp : pos < R.size)
    (h47 : ((Utf8.decode R pos).1 : Int) = 47) (hB : partB (R.data.toList.take pos) = true) : cutAt 47 l = (P ++ [R.data.toList.take pos]) ++ cutAt 47 (R.extract (pos + 1) R.size).data.toList := by
  rw [extract_drop, h, cut_step hp h47 hB]
  simp
theorem split_more_no {l : List UInt8} {P : List (List UInt8)} {R : ByteArray} {pos : Nat} (h : cutAt 47 l = P ++ cutAt 47 R.data.toList) (hp : pos < R.size) (hs : Seen R.data.toList pos)
    (h47 : ((Utf8.decode R pos).1 : Int) = 47) (hB : partB (R.data.toList.take pos) = false) : pathB l = false := by
  exact pathB_bad h (cut_step_no hp hs h47 hB)
theorem split_end_no {l : List UInt8} {P : List (List UInt8)} {R : ByteArray} {pos : Nat} (h : cutAt 47 l = P ++ cutAt 47 R.data.toList) (hp : ¬ pos < R.size) (hs : Seen R.data.toList pos)
    (hB : partB R.data.toList = false) : pathB l = false :=
  pathB_bad h (cut_last_no (k := pos) (by rw [← Lib.size_eq]; omega) hs hB)
theorem SplitPost.good {l : List UInt8} {P : List (List UInt8)} {R : ByteArray} {w w' : World} {v : Value} (h : cutAt 47 l = P ++ cutAt 47 R.data.toList) (hP : P.length < 4) (ha : P.all partB = true) (hB : partB R.data.toList = true)
    (hb : Below w.heap.size w w') (hown : w'.ownsRow w.heap.size 9 1 v (P.length + 1) (P.map strV ++ [.string R])) (hn : v ≠ .slice none 0 0) : SplitPost l w w' v := by
  obtain ⟨h1, h2⟩ := pathB_good h hP ha hB
  refine ⟨hb, ?_, fun h3 => (by rw [h1] at h3; cases h3), fun _ => hn⟩
  unfold partsOf
  rw [if_pos h1, h2]
  simpa [strV_data] using hown

theorem own_iterAt {w : World} {base : Nat} {e : TypeId} {size : Nat} {A : Option Addr} {n cap : Nat} {xs : List Value} (h : w.ownsRow base e size (.slice A n cap) n xs) {k : Nat} (hk : A.map Addr.block ≠ some k) (s : ByteArray) (p : Nat) :
    (w.iterAt k s p).ownsRow base e size (.slice A n cap) n xs := by
  obtain ⟨h1, h2⟩ := h
  refine ⟨h1, ?_⟩
  rcases h2 with h2 | ⟨g, cap', cur, a, b, c, d⟩
  · exact .inl h2
  · refine .inr ⟨g, cap', cur, a, b, ?_, d⟩
    cases a
    rw [Lib.iterAt_other _ _ _ _ _ (fun e => hk (by simp [e]))]
    exact c

set_option maxRecDepth 100000 in
set_option maxHeartbeats 1000000 in
theorem splitPath_any (s : ByteArray) (w : World) (hs : s.size ≤ maxLen) : Calls Tryd.prog 60 #[.string s] w fun e w' => ∃ v, e = .returned v ∧ SplitPost s.data.toList w w' v := by
  obtain ⟨i0, hi, hz0, hz1, hz2⟩ := info_parts strInfo
  unfold maxLen at hs
  go_enter Tryd.func60, Tryd.ntmps60
  go_wp2
  go_step3
  go_wp2
  go_step3
  go_wp2
  go_loopg [3, 4] 4 (fun g v r wr => ∃ (P : List (List UInt8)) (R : ByteArray), r = .string R ∧ P.length + g = 4 ∧ P.all partB = true ∧ Hid (cutAt 47 s.data.toList = P ++ cutAt 47 R.data.toList) ∧ wr.ownsRow w.heap.size 9 1 v P.length (P.map strV) ∧ Below w.heap.size w wr ∧ R.size ≤ s.size)
  case atStart => exact ⟨[], s, rfl, rfl, rfl, rfl, World.ownsRow_nil _ _ _ _, Below.refl _ _, Nat.le_refl _⟩
  case round =>
    obtain ⟨P, R, rfl, hP4, hPa, HC, hown, hbw, hRs⟩ := hrel
    obtain ⟨A, cap, rfl⟩ := own_form hown
    cases gk with
    | zero =>
      have hd : decide ((P.length : Int) < 4) = false := by simp; omega
      have HB : Hid (pathB s.data.toList = false) := pathB_many HC.out (by omega)
      go_wp2
      rw [Exit.noGoto_ret]
      go_ret
      exact ⟨_, rfl, SplitPost.bad HB.out hbw⟩
    | succ g =>
      have hd : decide ((P.length : Int) < 4) = true := by simp; omega
      generalize hwo : wr = wo at *
      clear hwo wr
      have hwl := hbw.size
      go_wp2
      go_loopw [3, 4] (fun v3 v4 wx => v3 = .slice A P.length cap ∧ v4 = .string R ∧ ∃ pos : Nat, wx.heap[wo.heap.size]? = some (.stringIter R pos) ∧ Below w.heap.size w wx ∧ wx.ownsRow w.heap.size 9 1 (.slice A P.length cap) P.length (P.map strV) ∧ Seen R.data.toList pos ∧ Hid (A.map Addr.block ≠ some wo.heap.size)) (fun _ _ wx => R.size - wx.iterPos wo.heap.size)
      case atStart => exact ⟨rfl, rfl, 0, World.iter_heap wo R 0, hbw.alloc hbw.size _, hown.alloc _, Seen.zero _, fun h => by have := (hown.lt wo.heap.size (by cases A <;> simp_all [Value.ownBlock])).2; omega⟩
      case round =>
        obtain ⟨rfl, rfl, pos, hit, hbx, hownx, hseen, HA⟩ := hrel
        have hpos0 := iterPos_of hit
        by_cases hp : pos < R.size
        · have hnx : ∀ ty, (Instr.next (.pointer (some ⟨wo.heap.size, 0, none⟩)) true ty).run Tryd.prog wr = _ := fun ty => Lib.run_next_any_at wr wo.heap.size R pos ty hit hp
          have hwd := width_pos R pos hp
          have hit2 := Lib.iterAt_heap wr wo.heap.size R pos (pos + (Utf8.decode R pos).2) hit
          have hbw2 := Lib.below_iterAt hbx (k := wo.heap.size) hwl R (pos + (Utf8.decode R pos).2)
          have hown2 : (wr.iterAt wo.heap.size R (pos + (Utf8.decode R pos).2)).ownsRow w.heap.size 9 1 (.slice A P.length cap) P.length (P.map strV) := own_iterAt hownx HA.out R _
          obtain ⟨W1, hW1⟩ : ∃ W1, W1 = wr.iterAt wo.heap.size R (pos + (Utf8.decode R pos).2) := ⟨_, rfl⟩
          rw [← hW1] at hnx hit2 hbw2 hown2
          clear hW1 hbw hown
          rcases Bool.eq_false_or_eq_true (((Utf8.decode R pos).1 : Int) != 47) with h47 | h47
          · have Hs := Lib.hid (hseen.next hp (by simpa using h47))
            clear hseen
            go_wp2
            go_roundw
            case rel => exact ⟨rfl, rfl, _, hit2, hbw2, hown2, Hs.out, HA⟩
            case measure => rw [hpos0, iterPos_of hit2]; omega
          · have H47 : Hid (((Utf8.decode R pos).1 : Int) = 47) := by show _ = _; simpa using h47
            rcases Bool.eq_false_or_eq_true (partB (R.data.toList.take pos)) with hB | hB
            · have HM := Lib.hid (split_more HC.out hp H47.out hB)
              have HB := Lib.hid hB
              clear hseen
              go_wp2_with fail
              refine (partOK_impl _ _).mono ?_
              rintro e w2 ⟨rfl, hb2⟩
              have hown3 := own_below hown2 hb2
              have hbw3 := hbw2.trans (hb2.mono hbw2.size)
              have hs3 := hbw3.size
              go_wp2_with (first
                | (at_builtin; refine wpList_append_own _ rfl _ _ 31 rfl w.heap.size 9 i0 (.string ByteArray.empty) 1 16 Tryd.underlying31 hi hz0 hz1 hz2 rfl (by decide) _ _ _ rfl (hown3.alloc _) ⟨w2.heap.size, 0, none⟩ 1 1 [.string (R.extract 0 pos)] rfl rfl (cell_one_new _ _ _) (fun x hx => by simp at hx; subst hx; rfl) (by unfold maxLen; omega) (by omega) (by simp; omega) ?_; intro v' w3 hown' hgrow3 hnil3))
              go_roundg g
              case measure => omega
              case rel =>
                refine ⟨P ++ [R.data.toList.take pos], _, rfl, by simp; omega, by simp [hPa, HB.out], HM.out, ?_, (hbw3.alloc hbw3.size _).grown hgrow3 (by simp; omega) (fun q hq => (hown3.lt q hq).1), by simp; omega⟩
                simpa [strV_take] using hown'
            · have HB := Lib.hid (split_more_no HC.out hp hseen H47.out hB)
              clear hseen
              go_wp2_with fail
              refine (partOK_impl _ _).mono ?_
              rintro e w2 ⟨rfl, hb2⟩
              go_wp2
              rw [Exit.noGoto_ret]
              go_ret
              exact ⟨_, rfl, SplitPost.bad HB.out (hbw2.trans (hb2.mono hbw2.size))⟩
        · have hnx : ∀ ty, (Instr.next (.pointer (some ⟨wo.heap.size, 0, none⟩)) true ty).run Tryd.prog wr = _ := fun ty => Lib.run_next_end_at wr wo.heap.size R pos ty hit hp
          clear hbw hown
          rcases Bool.eq_false_or_eq_true (partB R.data.toList) with hB | hB
          · have HB := Lib.hid hB
            clear hseen
            go_wp2_with fail
            refine (partOK_impl _ _).mono ?_
            rintro e w2 ⟨rfl, hb2⟩
            have hown3 := own_below hownx hb2
            have hbw3 := hbx.trans (hb2.mono hbx.size)
            have hs3 := hbw3.size
            go_wp2_with (first
              | (at_builtin; refine wpList_append_own _ rfl _ _ 31 rfl w.heap.size 9 i0 (.string ByteArray.empty) 1 16 Tryd.underlying31 hi hz0 hz1 hz2 rfl (by decide) _ _ _ rfl (hown3.alloc _) ⟨w2.heap.size, 0, none⟩ 1 1 [.string R] rfl rfl (cell_one_new _ _ _) (fun x hx => by simp at hx; subst hx; rfl) (by unfold maxLen; omega) (by omega) (by simp; omega) ?_; intro v' w3 hown' hgrow3 hnil3))
            rw [Exit.noGoto_ret]
            go_ret
            exact ⟨_, rfl, SplitPost.good HC.out (by omega) hPa HB.out ((hbw3.alloc hbw3.size _).grown hgrow3 (by simp; omega) (fun q hq => (hown3.lt q hq).1)) hown' (fun h => by have := (hnil3.1 h).2; omega)⟩
          · have HB := Lib.hid (split_end_no HC.out hp hseen hB)
            clear hseen
            go_wp2_with fail
            refine (partOK_impl _ _).mono ?_
            rintro e w2 ⟨rfl, hb2⟩
            go_wp2
            rw [Exit.noGoto_ret]
            go_ret
            exact ⟨_, rfl, SplitPost.bad HB.out (hbx.trans (hb2.mono hbx.size))⟩
end Go.Proofs.YtcbmnihepeefaaaDoor.Paths

/- Paths: what the model's l00Cut and l01OK answer. -/

namespace Go.Proofs.YtcbmnihepeefaaaDoor.Paths
open Go.RowKit

/-- What l00Cut leaves: the pieces in a row of its own. -/
def CutPost (c : UInt8) (l : List UInt8) (w w' : World) (v : Value) : Prop :=
  Below w.heap.size w w' ∧ w'.ownsRow w.heap.size 9 1 v (cutAt c l).length ((cutAt c l).map strV)

theorem strV_mid (s : ByteArray) (f k : Nat) : .string (s.extract f k) = strV ((s.data.toList.drop f).take (k - f)) := by
  unfold strV
  rw [Lib.extract_eq]
theorem strV_drop (s : ByteArray) (f : Nat) : .string (s.extract f s.size) = strV (s.data.toList.drop f) := by
  rw [← strV_data, extract_drop]

set_option maxRecDepth 100000 in
set_option maxHeartbeats 1000000 in
theorem l00Cut_any (s : ByteArray) (x : Int) (c : UInt8) (hx : x = (c.toNat : Int)) (w : World) (hs : s.size ≤ 1099511627776) : Calls Tryd.prog 57 #[.string s, .int .u8 x] w fun e w' => ∃ v, e = .returned v ∧ CutPost c s.data.toList w w' v := by
  obtain ⟨i0, hi, hz0, hz1, hz2⟩ := info_parts strInfo
  have HX := Lib.hid hx
  clear hx
  go_enter Tryd.func57, Tryd.ntmps57
  go_wp2
  go_loopw [5, 6, 7] (fun v f i wr => ∃ (P : List (List UInt8)) (fn k : Nat), f = .int .i64 fn ∧ i = .int .i64 k ∧ fn ≤ k ∧ k ≤ s.size ∧ P.length ≤ fn ∧ Hid (cutAt c s.data.toList = P ++ cutAt c (s.data.toList.drop fn)) ∧ Hid (Gap s.data.toList c fn k) ∧ wr.ownsRow w.heap.size 9 1 v P.length (P.map strV) ∧ Below w.heap.size w wr) (fun _ _ i _ => s.size - (intOf i).toNat)
  case atStart =>
    exact ⟨[], 0, 0, rfl, rfl, by omega, by omega, by simp, rfl, Gap.refl _ _ _, World.ownsRow_made _ _ 0 (Nat.le_refl _) (by simp [maxLen]) (by simp), (Below.refl _ _).alloc (Nat.le_refl _) _⟩
  case round =>
    obtain ⟨P, f, k, rfl, rfl, hfk, hks, hPf, HC, HG, hown, hbw⟩ := hrel
    obtain ⟨A, cap, rfl⟩ := own_form hown
    have hsz := hbw.size
    by_cases hlt : k < s.size
    · rcases Bool.eq_false_or_eq_true ((s[k].toNat : Int) == x) with he | he
      · have HE : Hid (s[k] = c) := by show _ = _; simp at he; rw [HX.out] at he; exact UInt8.toNat_inj.1 (by omega)
        have HM : Hid (cutAt c s.data.toList = (P ++ [(s.data.toList.drop f).take (k - f)]) ++ cutAt c (s.data.toList.drop (k + 1))) := by
          show _ = _
          rw [HC.out, HG.out.cut hfk hlt HE.out]
          simp
        go_wp2_with (first
          | (at_builtin; refine wpList_append_own _ rfl _ _ 31 rfl w.heap.size 9 i0 (.string ByteArray.empty) 1 16 Tryd.underlying31 hi hz0 hz1 hz2 rfl (by decide) _ _ _ rfl (hown.alloc _) ⟨wr.heap.size, 0, none⟩ 1 1 [.string (s.extract f k)] rfl rfl (cell_one_new _ _ _) (fun x hx => by simp at hx; subst hx; rfl) (by unfold maxLen; omega) (by omega) (by simp; omega) ?_; intro v' w3 hown' hgrow3 hnil3))
        go_roundw
        case rel =>
          refine ⟨P ++ [(s.data.toList.drop f).take (k - f)], k + 1, k + 1, by go_num, by go_num, by omega, by omega, by simp; omega, HM, Gap.refl _ _ _, ?_, (hbw.alloc hbw.size _).grown hgrow3 (by simp; omega) (fun q hq => (hown.lt q hq).1)⟩
          simpa [strV_mid] using hown'
        case measure => simp [intOf]; omega
      · have HN : Hid (s[k] ≠ c) := fun e => by simp at he; rw [HX.out, e] at he; exact he rfl
        go_wp2
        go_roundw
        case rel => exact ⟨P, f, k + 1, rfl, by go_num, by omega, by omega, hPf, HC, HG.out.next hfk hlt HN.out, hown, hbw⟩
        case measure => simp [intOf]; omega
    · have HM : Hid (cutAt c s.data.toList = P ++ [s.data.toList.drop f]) := by
        show _ = _
        rw [HC.out, HG.out.last hlt]
      go_wp2_with (first
        | (at_builtin; refine wpList_append_own _ rfl _ _ 31 rfl w.heap.size 9 i0 (.string ByteArray.empty) 1 16 Tryd.underlying31 hi hz0 hz1 hz2 rfl (by decide) _ _ _ rfl (hown.alloc _) ⟨wr.heap.size, 0, none⟩ 1 1 [.string (s.extract f s.size)] rfl rfl (cell_one_new _ _ _) (fun x hx => by simp at hx; subst hx; rfl) (by unfold maxLen; omega) (by omega) (by simp; omega) ?_; intro v' w3 hown' hgrow3 hnil3))
      go_ret
      refine ⟨_, rfl, (hbw.alloc hbw.size _).grown hgrow3 (by simp; omega) (fun q hq => (hown.lt q hq).1), ?_⟩
      rw [HM.out]
      simpa [strV_drop] using hown'

/-- A row that is not empty: where it lies. -/
theorem own_slice {w : World} {base : Nat} {e : TypeId} {v : Value} {n : Nat} {xs : List Value} (h : w.ownsRow base e 1 v n xs) (hn : 0 < n) :
    ∃ g cap, v = .slice (some ⟨g, 0, none⟩) n cap ∧ n ≤ cap ∧ base ≤ g ∧ g < w.heap.size ∧ ∀ k u, xs[k]? = some u → w.cell? ⟨g, k, none⟩ = some u := by
  rcases h.2 with ⟨rfl, rfl⟩ | ⟨g, cap, cur, rfl, hb, hg, hc, _⟩
  · omega
  · refine ⟨g, cap, rfl, hc, hb, (Array.getElem?_eq_some_iff.1 hg).1, fun k u hu => ?_⟩
    have := h.cells (g := g) rfl k u hu
    simpa [Addr.add_lit] using this

theorem all_take_snoc {L : List (List UInt8)} {k : Nat} (hk : k < L.length) : (L.take (k + 1)).all partB = ((L.take k).all partB && partB L[k]) := by
  rw [List.take_succ_eq_append_getElem hk, List.all_append]
  simp

set_option maxRecDepth 100000 in
set_option maxHeartbeats 1000000 in
theorem l01OK_any (s : ByteArray) (w : World) : Calls Tryd.prog 36 #[.string s] w fun e w' => e = .returned (.bool (pathB s.data.toList)) ∧ Below w.heap.size w w' := by
  by_cases h36 : s.size ≤ 36
  · have hd : decide ((36 : Int) < (s.size : Int)) = false := by simp; omega
    go_enter Tryd.func36, Tryd.ntmps36
    go_wp2_with fail
    refine (l00Cut_any s 47 47 rfl _ (by omega)).mono ?_
    rintro e w1 ⟨v, rfl, hb1, hown⟩
    have hpos := cutAt_pos 47 s.data.toList
    have hlen := cutAt_length_le 47 s.data.toList
    rw [← Lib.size_eq] at hlen
    generalize hL : cutAt 47 s.data.toList = L at *
    have HL := Lib.hid hL
    clear hL
    obtain ⟨g, cap, rfl, hcap, hg0, hg1, hcell⟩ := own_slice hown (by omega)
    have HC := Lib.hid hcell
    clear hcell
    by_cases h4 : L.length ≤ 4
    · have hd4 : decide ((4 : Int) < (L.length : Int)) = false := by simp; omega
      have HP : Hid (pathB s.data.toList = L.all partB) := by show _ = _; unfold pathB; rw [HL.out, decide_eq_true h4]; simp
      go_wp2_with fail
      go_loop [4] (fun i => ∃ k : Nat, k ≤ L.length ∧ i = .int .i64 k ∧ Hid ((L.take k).all partB = true)) (fun i => L.length - (intOf i).toNat)
      case atStart => exact ⟨0, by omega, rfl, rfl⟩
      case round =>
        obtain ⟨k, hk, rfl, HK⟩ := hrel
        by_cases hlt : k < L.length
        · have hc := HC.out k (strV L[k]) (by simp [hlt])
          unfold strV at hc
          have HS := Lib.hid (all_take_snoc hlt)
          rcases Bool.eq_false_or_eq_true (partB L[k]) with hB | hB
          · go_wp2_with fail
            refine (l01Part_any _ _).mono ?_
            rintro e w2 ⟨rfl, rfl⟩
            go_wp2_with fail
            exact ⟨⟨k + 1, by omega, by go_num, by show _ = _; rw [HS.out, HK.out, hB]; rfl⟩, by simp [intOf]; omega⟩
          · have HF : Hid (L.all partB = false) := by
              show _ = _
              rw [List.all_eq_false]
              exact ⟨L[k], by simp, by simp [hB]⟩
            go_wp2_with fail
            refine (l01Part_any _ _).mono ?_
            rintro e w2 ⟨rfl, rfl⟩
            go_wp2_with fail
            go_ret
            exact ⟨ret_bool (by rw [HP.out, HF.out]), hb1⟩
        · have HE : Hid (L.all partB = true) := by show _ = _; rw [← HK.out, List.take_of_length_le (by omega)]
          go_wp2_with fail
          go_ret
          exact ⟨ret_bool (by rw [HP.out, HE.out]), hb1⟩
    · have hd4 : decide ((4 : Int) < (L.length : Int)) = true := by simp; omega
      have HP : Hid (pathB s.data.toList = false) := by show _ = _; unfold pathB; rw [HL.out, decide_eq_false h4]; rfl
      go_wp2_with fail
      go_ret
      exact ⟨ret_bool HP.out.symm, hb1⟩
  · rw [pathB_long (by omega)]
    have hd : decide ((36 : Int) < (s.size : Int)) = true := by simp; omega
    go_enter Tryd.func36, Tryd.ntmps36
    go_wp2_with fail
    go_ret
    exact ⟨rfl, Below.refl _ _⟩

end Go.Proofs.YtcbmnihepeefaaaDoor.Paths

/- Paths: PathOK and PartsOf, of the program and of its model. -/

namespace Go.Proofs.YtcbmnihepeefaaaDoor.Paths
open Go.RowKit

theorem own_mono {w : World} {base base' : Nat} {e : TypeId} {size : Nat} {v : Value} {n : Nat} {xs : List Value} (h : w.ownsRow base e size v n xs) (hb : base' ≤ base) : w.ownsRow base' e size v n xs := by
  obtain ⟨h1, h2⟩ := h
  refine ⟨h1, ?_⟩
  rcases h2 with h2 | ⟨g, cap', cur, a, b, c, d⟩
  · exact .inl h2
  · exact .inr ⟨g, cap', cur, a, Nat.le_trans hb b, c, d⟩

theorem split_nil {l : List UInt8} {w w' : World} {v : Value} (h : SplitPost l w w' v) : ∃ A cap, v = .slice A (partsOf l).length cap ∧ A.isNone = !pathB l := by
  obtain ⟨hb, hown, h1, h2⟩ := h
  rcases hown.2 with ⟨rfl, hn⟩ | ⟨g, cap, cur, rfl, _⟩
  · refine ⟨none, 0, by rw [hn], ?_⟩
    rcases Bool.eq_false_or_eq_true (pathB l) with h | h
    · exact absurd rfl (h2 h)
    · rw [h]; rfl
  · refine ⟨_, cap, rfl, ?_⟩
    rcases Bool.eq_false_or_eq_true (pathB l) with h | h
    · rw [h]; rfl
    · have := h1 h; cases this

theorem pathOK_impl (s : ByteArray) (w : World) (hs : s.size ≤ maxLen) : Calls Tryd.prog 38 #[.string s] w fun e w' => e = .returned (.bool (pathB s.data.toList)) ∧ Below w.heap.size w w' := by
  have hq := fun (w : World) (a : Option Addr) (n c n' c' : Nat) => run_neq_slice_nil_any (P := Tryd.prog) w 31 9 a n c n' c' Tryd.underlying31
  go_enter Tryd.func38, Tryd.ntmps38
  go_wp2_with fail
  refine (splitPath_any s _ hs).mono ?_
  rintro e w1 ⟨v, rfl, hp⟩
  obtain ⟨A, cap, rfl, hA⟩ := split_nil hp
  go_wp2_with fail
  go_ret
  exact ⟨ret_bool (by simp), hp.1⟩

/-- The code that asks whether a string is a path. -/
def askC (s : ByteArray) : Int := if 65536 < s.size then 2 else if pathB s.data.toList then 0 else 10
theorem askC_long {s : ByteArray} (h : ¬ s.size ≤ 65536) : askC s = 2 := by unfold askC; rw [if_pos (by omega)]
theorem askC_yes {s : ByteArray} (h : s.size ≤ 65536) (hp : pathB s.data.toList = true) : askC s = 0 := by unfold askC; rw [if_neg (by omega), if_pos hp]
theorem askC_no {s : ByteArray} (h : s.size ≤ 65536) (hp : pathB s.data.toList = false) : askC s = 10 := by unfold askC; rw [if_neg (by omega), hp]; rfl
theorem ret_int {a b : Int} (h : a = b) : Ending.returned (.int .i64 a) = .returned (.int .i64 b) := by rw [h]

/-- What PartsOf answers: the parts in a row of its own, and the code. -/
def PartsPost (s : ByteArray) (w : World) (e : Ending) (w' : World) : Prop :=
  ∃ v, e = .returned (.tuple #[v, .int .i64 (askC s)]) ∧ Below w.heap.size w w' ∧ w'.ownsRow w.heap.size 9 1 v (partsOf s.data.toList).length ((partsOf s.data.toList).map strV)

theorem partsOf_no {l : List UInt8} (h : pathB l = false) : partsOf l = [] := by unfold partsOf; rw [h]; rfl
theorem partsOf_yes {l : List UInt8} (h : pathB l = true) : partsOf l = cutAt 47 l := by unfold partsOf; rw [h]; rfl

theorem longText_any (s : ByteArray) (w : World) : Calls Tryd.prog 59 #[.string s] w fun e w' => e = .returned (.bool (decide ((65536 : Int) < (s.size : Int)))) ∧ w = w' := by
  go_enter Tryd.func59, Tryd.ntmps59
  go_wp2_with fail
  go_ret
  exact ⟨rfl, rfl⟩

theorem partsOf_impl (s : ByteArray) (w : World) (hs : s.size ≤ maxLen) : Calls Tryd.prog 84 #[.string s] w (PartsPost s w) := by
  have hq := fun (w : World) (a : Option Addr) (n c n' c' : Nat) => Lib.run_eql_slice_nil (P := Tryd.prog) w 31 9 a n c n' c' Tryd.underlying31
  by_cases h : s.size ≤ 65536
  · have hd : decide ((65536 : Int) < (s.size : Int)) = false := by simp; omega
    go_enter Tryd.func84, Tryd.ntmps84
    go_wp2_with fail
    refine (longText_any s _).mono ?_
    rintro e w1 ⟨rfl, rfl⟩
    go_wp2_with fail
    refine (splitPath_any s _ hs).mono ?_
    rintro e w1 ⟨v, rfl, hp⟩
    obtain ⟨A, cap, rfl, hA⟩ := split_nil hp
    rcases Bool.eq_false_or_eq_true (pathB s.data.toList) with hB | hB
    · have HP := Lib.hid hp
      have HA : Hid (askC s = 0) := askC_yes h hB
      clear hp
      rw [hB] at hA
      go_wp2_with fail
      go_ret2
      exact ⟨_, by rw [HA.out]; rfl, HP.out.1, HP.out.2.1⟩
    · have HP := Lib.hid hp
      have HA : Hid (askC s = 10) := askC_no h hB
      have HN : Hid (partsOf s.data.toList = []) := partsOf_no hB
      clear hp
      rw [hB] at hA
      go_wp2_with fail
      go_ret2
      exact ⟨_, by rw [HA.out]; rfl, HP.out.1, by rw [HN.out]; exact World.ownsRow_nil _ _ _ _⟩
  · have hd : decide ((65536 : Int) < (s.size : Int)) = true := by simp; omega
    have HA : Hid (askC s = 2) := askC_long h
    have HN : Hid (partsOf s.data.toList = []) := partsOf_no (pathB_long (by omega))
    go_enter Tryd.func84, Tryd.ntmps84
    go_wp2_with fail
    refine (longText_any s _).mono ?_
    rintro e w1 ⟨rfl, rfl⟩
    go_wp2_with fail
    go_ret2
    exact ⟨_, by rw [HA.out]; rfl, Below.refl _ _, by rw [HN.out]; exact World.ownsRow_nil _ _ _ _⟩

end Go.Proofs.YtcbmnihepeefaaaDoor.Paths

/- Plain facts on lists of bytes: parents, joined paths, the order of paths, what is below a path. -/

namespace Go.Proofs.YtcbmnihepeefaaaDoor

theorem cutAt_append (x : UInt8) (a b : List UInt8) : cutAt x (a ++ x :: b) = cutAt x a ++ cutAt x b := by
  induction a with
  | nil => simp [cutAt]
  | cons c r ih =>
    simp only [List.cons_append, cutAt, ih]
    split
    · rfl
    · have := cutAt_ne x r
      cases h : cutAt x r with
      | nil => exact absurd h this
      | cons h t => rfl

theorem join_two (x y : List UInt8) (r : List (List UInt8)) : Lib.join (x :: y :: r) [47] = x ++ 47 :: Lib.join (y :: r) [47] := by
  rw [Lib.join_cons, Lib.join_cons]
  simp [Lib.joinTail]
theorem join_cut (l : List UInt8) : Lib.join (cutAt 47 l) [47] = l := by
  induction l with
  | nil => rfl
  | cons c r ih =>
    simp only [cutAt]
    have hne := cutAt_ne 47 r
    cases h : cutAt 47 r with
    | nil => exact absurd h hne
    | cons a t =>
      rw [h] at ih
      split
      · rename_i hc
        rw [join_two, ih, hc]
        rfl
      · show Lib.join ((c :: a) :: t) [47] = c :: r
        rw [Lib.join_cons] at ih ⊢
        rw [List.cons_append, ih]
theorem join_snoc (A : List (List UInt8)) (h : A ≠ []) (b : List UInt8) : Lib.join (A ++ [b]) [47] = Lib.join A [47] ++ 47 :: b := by
  cases A with
  | nil => exact absurd rfl h
  | cons a t =>
    rw [List.cons_append, Lib.join_cons, Lib.join_cons]
    simp [Lib.joinTail]
theorem join_append (A B : List (List UInt8)) (hA : A ≠ []) (hB : B ≠ []) : Lib.join (A ++ B) [47] = Lib.join A [47] ++ 47 :: Lib.join B [47] := by
  cases A with
  | nil => exact absurd rfl hA
  | cons a t =>
    cases B with
    | nil => exact absurd rfl hB
    | cons b s =>
      rw [List.cons_append, Lib.join_cons, Lib.join_cons, Lib.join_cons]
      simp [Lib.joinTail]

/-- A path without its last part. -/
def parentL (l : List UInt8) : List UInt8 := Lib.join (cutAt 47 l).dropLast [47]
theorem parent_at (a b : List UInt8) (hb : ∀ c ∈ b, c ≠ 47) : parentL (a ++ 47 :: b) = a := by
  unfold parentL
  rw [cutAt_append, cutAt_clean hb, List.dropLast_concat, join_cut]
theorem parent_none (l : List UInt8) (h : ∀ c ∈ l, c ≠ 47) : parentL l = [] := by
  unfold parentL
  rw [cutAt_clean h]
  rfl
/-- From place k on no byte is 47. -/
def Clear (l : List UInt8) (k : Nat) : Prop := ∀ c ∈ l.drop k, c ≠ 47
theorem Clear.start (s : ByteArray) : Clear s.data.toList s.size := by
  unfold Clear
  rw [drop_end s s.size (by omega)]
  simp
theorem Clear.down {s : ByteArray} {k : Nat} (hk : k < s.size) (h : Clear s.data.toList (k + 1)) (hne : s[k] ≠ 47) : Clear s.data.toList k := by
  unfold Clear
  rw [drop_cons s k hk]
  intro c hc
  rcases List.mem_cons.1 hc with rfl | hc
  · exact hne
  · exact h c hc
theorem Clear.hit {s : ByteArray} {k : Nat} (hk : k < s.size) (h : Clear s.data.toList (k + 1)) (he : s[k] = 47) : parentL s.data.toList = s.data.toList.take k := by
  have e : s.data.toList = s.data.toList.take k ++ 47 :: s.data.toList.drop (k + 1) := by
    conv => lhs; rw [← List.take_append_drop k s.data.toList]
    rw [drop_cons s k hk, he]
  have := parent_at (s.data.toList.take k) (s.data.toList.drop (k + 1)) h
  rw [← e] at this
  exact this
theorem Clear.none {s : ByteArray} (h : Clear s.data.toList 0) : parentL s.data.toList = [] := parent_none _ (by simpa [Clear] using h)

/-! ### A path and one part more -/
theorem cut_join {d p : List UInt8} (hp : partB p = true) : cutAt 47 (d ++ 47 :: p) = cutAt 47 d ++ [p] := by
  rw [cutAt_append, cut_last hp]
theorem pathB_parts {l : List UInt8} (h : pathB l = true) : (cutAt 47 l).length ≤ 4 ∧ (cutAt 47 l).all partB = true := by
  unfold pathB at h
  simp only [Bool.and_eq_true, decide_eq_true_eq] at h
  exact h
theorem pathB_join {d p : List UInt8} (hd : pathB d = true) (hp : partB p = true) (hl : (cutAt 47 d).length < 4) : pathB (d ++ 47 :: p) = true := by
  unfold pathB
  rw [cut_join hp, decide_eq_true (by simp; omega)]
  simp [(pathB_parts hd).2, hp]
theorem pathB_join_no {d p : List UInt8} (hp : partB p = true) (hl : (cutAt 47 d).length = 4) : pathB (d ++ 47 :: p) = false := by
  unfold pathB
  rw [cut_join hp, decide_eq_false (by simp; omega)]
  rfl
theorem pathB_part {p : List UInt8} (hp : partB p = true) : pathB p = true := by
  unfold pathB
  rw [cut_last hp]
  simp [hp]

/-! ### The order of paths -/
def lessP : List (List UInt8) → List (List UInt8) → Bool
  | [], [] => false
  | [], _ :: _ => true
  | _ :: _, [] => false
  | a :: A, b :: B => if a = b then lessP A B else Op.bytesLess a b
def cmpP : List (List UInt8) → List (List UInt8) → Int
  | [], [] => 0
  | [], _ :: _ => -1
  | _ :: _, [] => 1
  | a :: A, b :: B => if Op.bytesLess a b then -1 else if a = b then cmpP A B else 1
theorem bytesLess_irrefl (a : List UInt8) : Op.bytesLess a a = false := by
  induction a with
  | nil => rfl
  | cons c r ih => simp [Op.bytesLess, ih]
theorem less_cmp : ∀ A B : List (List UInt8), decide (cmpP A B < 0) = lessP A B
  | [], [] => rfl
  | [], _ :: _ => rfl
  | _ :: _, [] => rfl
  | a :: A, b :: B => by
    by_cases h : a = b
    · subst h
      have e1 : cmpP (a :: A) (a :: B) = cmpP A B := by simp [cmpP, bytesLess_irrefl]
      have e2 : lessP (a :: A) (a :: B) = lessP A B := by simp [lessP]
      rw [e1, e2]
      exact less_cmp A B
    · have e2 : lessP (a :: A) (b :: B) = Op.bytesLess a b := by simp [lessP, h]
      have e1 : cmpP (a :: A) (b :: B) = if Op.bytesLess a b then -1 else 1 := by simp [cmpP, h]
      rw [e1, e2]
      cases Op.bytesLess a b <;> rfl
theorem lessP_drop {A B : List (List UInt8)} {k : Nat} (ha : k < A.length) (hb : k < B.length) :
    lessP (A.drop k) (B.drop k) = if A[k] = B[k] then lessP (A.drop (k + 1)) (B.drop (k + 1)) else Op.bytesLess A[k] B[k] := by
  rw [List.drop_eq_getElem_cons ha, List.drop_eq_getElem_cons hb]
  rfl
theorem cmpP_drop {A B : List (List UInt8)} {k : Nat} (ha : k < A.length) (hb : k < B.length) :
    cmpP (A.drop k) (B.drop k) = if Op.bytesLess A[k] B[k] then -1 else if A[k] = B[k] then cmpP (A.drop (k + 1)) (B.drop (k + 1)) else 1 := by
  rw [List.drop_eq_getElem_cons ha, List.drop_eq_getElem_cons hb]
  rfl
theorem lessP_end {A B : List (List UInt8)} {k : Nat} (h : ¬ (k < A.length ∧ k < B.length)) (ha : k ≤ A.length) (hb : k ≤ B.length) : lessP (A.drop k) (B.drop k) = decide (A.length < B.length) := by
  by_cases h1 : k < A.length
  · have : k = B.length := by omega
    rw [List.drop_eq_getElem_cons h1, List.drop_of_length_le (l := B) (by omega), decide_eq_false (by omega)]
    rfl
  · rw [List.drop_of_length_le (l := A) (by omega)]
    by_cases h2 : k < B.length
    · rw [List.drop_eq_getElem_cons h2, decide_eq_true (by omega)]
      rfl
    · rw [List.drop_of_length_le (l := B) (by omega), decide_eq_false (by omega)]
      rfl
theorem cmpP_nilL {A B : List (List UInt8)} {k : Nat} (ha : k = A.length) (hb : k ≤ B.length) : cmpP (A.drop k) (B.drop k) = if A.length < B.length then -1 else 0 := by
  rw [List.drop_of_length_le (l := A) (by omega)]
  by_cases h2 : k < B.length
  · rw [List.drop_eq_getElem_cons h2, if_pos (by omega)]
    rfl
  · rw [List.drop_of_length_le (l := B) (by omega), if_neg (by omega)]
    rfl
theorem cmpP_nilR {A B : List (List UInt8)} {k : Nat} (ha : k < A.length) (hb : B.length ≤ k) : cmpP (A.drop k) (B.drop k) = 1 := by
  rw [List.drop_eq_getElem_cons ha, List.drop_of_length_le (l := B) hb]
  rfl

/-! ### Below a path -/
def belowP (A B : List (List UInt8)) : Bool := decide (B.length < A.length) && (A.take B.length == B)
def belowL (a b : List UInt8) : Bool := decide (b.length < a.length) && (a.take b.length == b) && (a.drop b.length).head? == some 47
theorem below_cut (a b : List UInt8) : belowP (cutAt 47 a) (cutAt 47 b) = belowL a b := by
  rw [Bool.eq_iff_iff]
  unfold belowP belowL
  simp only [Bool.and_eq_true, decide_eq_true_eq, beq_iff_eq]
  constructor
  · rintro ⟨hl, ht⟩
    have e : cutAt 47 a = cutAt 47 b ++ (cutAt 47 a).drop (cutAt 47 b).length := by
      conv => lhs; rw [← List.take_append_drop (cutAt 47 b).length (cutAt 47 a), ht]
    have hC : (cutAt 47 a).drop (cutAt 47 b).length ≠ [] := by
      intro h
      have := congrArg List.length h
      simp at this
      omega
    have e2 := join_append _ _ (cutAt_ne 47 b) hC
    rw [← e, join_cut, join_cut] at e2
    rw [e2]
    simp
  · rintro ⟨⟨hl, ht⟩, hh⟩
    cases hd : a.drop b.length with
    | nil => rw [hd] at hh; cases hh
    | cons c r =>
      rw [hd] at hh
      simp at hh
      subst hh
      have e : a = b ++ 47 :: r := by
        conv => lhs; rw [← List.take_append_drop b.length a, ht, hd]
      have e2 := cutAt_append 47 b r
      rw [← e] at e2
      have := cutAt_pos 47 r
      rw [e2]
      simp
      omega

end Go.Proofs.YtcbmnihepeefaaaDoor

/- Plain facts on paths: a path is its parent and one part; the order of paths is strict and total; what is below a path follows it at once. -/

namespace Go.Proofs.YtcbmnihepeefaaaDoor

theorem bytesLess_cons (c d : UInt8) (a b : List UInt8) : Op.bytesLess (c :: a) (d :: b) = if c = d then Op.bytesLess a b else decide (c < d) := by
  simp only [Op.bytesLess]
  by_cases h : c = d
  · subst h; simp
  · simp [h]
theorem bytesLess_asymm : ∀ a b : List UInt8, Op.bytesLess a b = true → Op.bytesLess b a = false
  | [], [], h => by simp [Op.bytesLess] at h
  | [], _ :: _, _ => by simp [Op.bytesLess]
  | _ :: _, [], h => by simp [Op.bytesLess] at h
  | c :: a, d :: b, h => by
    rw [bytesLess_cons] at h ⊢
    by_cases e : c = d
    · subst e
      simp only [if_true] at h ⊢
      exact bytesLess_asymm a b h
    · rw [if_neg e] at h
      rw [if_neg (fun x => e x.symm)]
      simp at h ⊢
      exact UInt8.le_of_lt h
theorem bytesLess_total : ∀ a b : List UInt8, Op.bytesLess a b = false → Op.bytesLess b a = false → a = b
  | [], [], _, _ => rfl
  | [], _ :: _, h, _ => by simp [Op.bytesLess] at h
  | _ :: _, [], _, h => by simp [Op.bytesLess] at h
  | c :: a, d :: b, h, k => by
    rw [bytesLess_cons] at h k
    by_cases e : c = d
    · subst e
      simp only [if_true] at h k
      rw [bytesLess_total a b h k]
    · rw [if_neg e] at h
      rw [if_neg (fun x => e x.symm)] at k
      simp at h k
      exact absurd (UInt8.le_antisymm k h) e

theorem lessP_asymm : ∀ A B : List (List UInt8), lessP A B = true → lessP B A = false
  | [], [], h => by simp [lessP] at h
  | [], _ :: _, _ => rfl
  | _ :: _, [], h => by simp [lessP] at h
  | a :: A, b :: B, h => by
    simp only [lessP] at h ⊢
    by_cases e : a = b
    · subst e
      simp only [if_true] at h ⊢
      exact lessP_asymm A B h
    · rw [if_neg e] at h
      rw [if_neg (fun x => e x.symm)]
      exact bytesLess_asymm a b h
theorem lessP_total : ∀ A B : List (List UInt8), lessP A B = false → lessP B A = false → A = B
  | [], [], _, _ => rfl
  | [], _ :: _, h, _ => by simp [lessP] at h
  | _ :: _, [], _, h => by simp [lessP] at h
  | a :: A, b :: B, h, k => by
    simp only [lessP] at h k
    by_cases e : a = b
    · subst e
      simp only [if_true] at h k
      rw [lessP_total A B h k]
    · rw [if_neg e] at h
      rw [if_neg (fun x => e x.symm)] at k
      exact absurd (bytesLess_total a b h k) e
theorem lessP_prefix : ∀ (A : List (List UInt8)) (c : List UInt8) (C : List (List UInt8)), lessP A (A ++ c :: C) = true
  | [], _, _ => rfl
  | a :: A, c, C => by
    simp only [List.cons_append, lessP, if_true]
    exact lessP_prefix A c C
theorem lessP_between : ∀ (B A C : List (List UInt8)), lessP B A = true → lessP A (B ++ C) = true → belowP A B = true
  | [], [], _, h, _ => by simp [lessP] at h
  | [], _ :: _, _, _, _ => by simp [belowP]
  | _ :: _, [], _, h, _ => by simp [lessP] at h
  | b :: B, a :: A, C, h, k => by
    simp only [List.cons_append, lessP] at h k
    by_cases e : b = a
    · subst e
      simp only [if_true] at h k
      have := lessP_between B A C h k
      simp [belowP] at this ⊢
      exact this
    · rw [if_neg e] at h
      rw [if_neg (fun x => e x.symm)] at k
      rw [bytesLess_asymm b a h] at k
      cases k
theorem belowP_split {A B : List (List UInt8)} (h : belowP A B = true) : ∃ C, A = B ++ C := by
  unfold belowP at h
  simp only [Bool.and_eq_true, beq_iff_eq] at h
  exact ⟨A.drop B.length, by conv => lhs; rw [← List.take_append_drop B.length A, h.2]⟩

/-! ### A path is its parent and one part -/
theorem cut_parent (l : List UInt8) : cutAt 47 l = (cutAt 47 l).dropLast ++ [(cutAt 47 l).getLast (cutAt_ne 47 l)] := (List.dropLast_concat_getLast (cutAt_ne 47 l)).symm
theorem last_part {l : List UInt8} (h : pathB l = true) : partB ((cutAt 47 l).getLast (cutAt_ne 47 l)) = true :=
  List.all_eq_true.1 (pathB_parts h).2 _ (List.getLast_mem _)
theorem clean_of_all {L : List (List UInt8)} (h : L.all partB = true) (hn : L ≠ []) : cutAt 47 (Lib.join L [47]) = L := by
  induction L with
  | nil => exact absurd rfl hn
  | cons a r ih =>
    simp only [List.all_cons, Bool.and_eq_true] at h
    cases r with
    | nil => rw [Lib.join_one, cut_last h.1]
    | cons b t =>
      rw [join_two, cutAt_append, cut_last h.1, ih h.2 (by simp)]
      rfl
/-- What the parent of a path is: the root, or a path of one part less. -/
theorem parent_cases {l : List UInt8} (h : pathB l = true) :
    (parentL l = [] ∧ cutAt 47 l = [l] ∧ partB l = true) ∨
    (pathB (parentL l) = true ∧ cutAt 47 (parentL l) = (cutAt 47 l).dropLast ∧ parentL l ≠ [] ∧ l = parentL l ++ 47 :: (cutAt 47 l).getLast (cutAt_ne 47 l) ∧ (cutAt 47 l).dropLast ≠ []) := by
  obtain ⟨h4, ha⟩ := pathB_parts h
  have e := cut_parent l
  by_cases hd : (cutAt 47 l).dropLast = []
  · left
    rw [hd] at e
    have e2 := join_cut l
    rw [e, List.nil_append, Lib.join_one] at e2
    have hl := last_part h
    refine ⟨by unfold parentL; rw [hd]; rfl, ?_, by rw [e2] at hl; exact hl⟩
    rw [e, List.nil_append, e2]
  · right
    have hall : (cutAt 47 l).dropLast.all partB = true := by
      rw [List.all_eq_true] at ha ⊢
      exact fun x hx => ha x ((List.dropLast_sublist _).subset hx)
    have hc := clean_of_all hall hd
    have hp : pathB (parentL l) = true := by
      unfold pathB parentL
      rw [hc, hall, decide_eq_true (by rw [List.length_dropLast]; omega)]
      rfl
    refine ⟨hp, hc, pathB_ne hp, ?_, hd⟩
    have e2 := join_cut l
    rw [e, join_snoc _ hd] at e2
    exact e2.symm

end Go.Proofs.YtcbmnihepeefaaaDoor

/- The laws' own marks: markText, and the marks written into a row of strings and read again; eqStringS. -/

namespace Go.Proofs.YtcbmnihepeefaaaDoor.Paths
open Go.RowKit

/-- The digits of k ahead of some bytes (f: at most so many). -/
def digsF : Nat → Nat → List UInt8 → List UInt8
  | 0, _, out => out
  | f + 1, k, out => if k = 0 then out else digsF f (k / 10) (UInt8.ofNat (48 + k % 10) :: out)
def digs (k : Nat) (out : List UInt8) : List UInt8 := digsF k k out
theorem digsF_enough : ∀ (f g k : Nat) (out : List UInt8), k ≤ f → k ≤ g → digsF f k out = digsF g k out
  | 0, 0, _, _, _, _ => rfl
  | 0, g + 1, k, out, h, _ => by obtain rfl : k = 0 := by omega
                                 simp [digsF]
  | f + 1, 0, k, out, _, h => by obtain rfl : k = 0 := by omega
                                 simp [digsF]
  | f + 1, g + 1, k, out, h1, h2 => by
    simp only [digsF]
    split
    · rfl
    · exact digsF_enough f g (k / 10) _ (by omega) (by omega)
theorem digs_zero (out : List UInt8) : digs 0 out = out := rfl
theorem digs_pos {k : Nat} (h : 0 < k) (out : List UInt8) : digs k out = digs (k / 10) (UInt8.ofNat (48 + k % 10) :: out) := by
  obtain ⟨m, rfl⟩ : ∃ m, k = m + 1 := ⟨k - 1, by omega⟩
  unfold digs
  rw [digsF, if_neg (by omega)]
  exact digsF_enough _ _ _ _ (by omega) (by omega)
def markS (k : Int) : ByteArray := if k ≤ 0 then ⟨#[109, 48]⟩ else ⟨(109 :: digs k.toNat []).toArray⟩

def byte1 (x : Int) : ByteArray := ⟨[UInt8.ofNat x.toNat].toArray⟩
theorem byte1_size (x : Int) : (byte1 x).size = 1 := rfl
/-- 'string([]byte{x})' -/
theorem conv_one (x : Int) (w : World) : (convert 71 9 (.slice (some ⟨w.heap.size, 0, none⟩) 1 1)).run Tryd.prog (w.alloc (.cells #[.int .u8 x] 5)) = .ok (.string (byte1 x)) (w.alloc (.cells #[.int .u8 x] 5)) := by
  have := run_convert_bytes_arg (P := Tryd.prog) (w.alloc (.cells #[.int .u8 x] 5)) 71 5 Tryd.underlying71 Tryd.underlying5 w.heap.size 0 1 1 [x] rfl
    (by intro i hi; obtain rfl : i = 0 := by omega
        simp) 9 Tryd.underlying9
  exact this

theorem mark_step {n m : Nat} {O : ByteArray} (h : digs n [] = digs m O.data.toList) (hm : 0 < m) : digs n [] = digs (m / 10) (byte1 (48 + (m : Int) % 10) ++ O).data.toList := by
  rw [h, digs_pos hm]
  have e : (48 + (m : Int) % 10).toNat = 48 + m % 10 := by omega
  have e2 : (byte1 (48 + (m : Int) % 10) ++ O).data.toList = UInt8.ofNat (48 + m % 10) :: O.data.toList := by
    unfold byte1
    rw [e]
    simp
  rw [e2]
theorem mark_end {n : Nat} {O : ByteArray} (h : digs n [] = digs 0 O.data.toList) : (⟨(109 :: digs n []).toArray⟩ : ByteArray) = ⟨#[109]⟩ ++ O := by
  rw [h, digs_zero]
  apply ByteArray.ext
  simp

set_option maxHeartbeats 400000 in
theorem markText_any (k : Int) (w : World) (h0 : 0 ≤ k) (hk : k ≤ 1099511627776) : Calls Tryd.prog 32 #[.int .i64 k] w fun e w' => e = .returned (.string (markS k)) ∧ Below w.heap.size w w' := by
  obtain ⟨n, rfl⟩ := Int.eq_ofNat_of_zero_le h0
  by_cases hz : n = 0
  · subst hz
    go_enter Tryd.func32, Tryd.ntmps32
    go_wp2
    go_ret
    exact ⟨rfl, Below.refl _ _⟩
  · have HM : Hid (markS (n : Int) = ⟨(109 :: digs n []).toArray⟩) := by show _ = _; unfold markS; rw [if_neg (by omega)]; rfl
    have hd : decide ((n : Int) ≤ 0) = false := by simp; omega
    go_enter Tryd.func32, Tryd.ntmps32
    go_wp2
    go_loopw [0, 3] (fun v o wr => ∃ (m : Nat) (O : ByteArray), v = .int .i64 m ∧ o = .string O ∧ O.size + m ≤ n ∧ Hid (digs n [] = digs m O.data.toList) ∧ Below w.heap.size w wr) (fun v _ _ => (intOf v).toNat)
    case atStart => exact ⟨n, ⟨#[]⟩, rfl, rfl, by show 0 + n ≤ n; omega, rfl, Below.refl _ _⟩
    case round =>
      obtain ⟨m, O, rfl, rfl, hO, HD, hbw⟩ := hrel
      by_cases hm : 0 < m
      · have hd2 : decide ((0 : Int) < (m : Int)) = true := by simp; omega
        have HS := Lib.hid (mark_step HD.out hm)
        have hcv := conv_one
        have hb1 := byte1_size (48 + (m : Int) % 10)
        go_wp2
        go_roundw
        case rel => exact ⟨m / 10, _, by go_num, rfl, by simp [byte1_size]; omega, HS, hbw.alloc hbw.size _⟩
        case measure => simp [intOf]; omega
      · obtain rfl : m = 0 := by omega
        have HE := Lib.hid (mark_end HD.out)
        go_wp2
        go_ret
        exact ⟨by rw [HM.out, HE.out]; rfl, hbw⟩

/-- A slice that reads as the strings L, wherever it lies. -/
def Strs (w : World) (v : Value) (L : List (List UInt8)) : Prop :=
  ∃ A cap, v = .slice A L.length cap ∧ L.length ≤ cap ∧ (0 < L.length → ∃ b off, A = some ⟨b, off, none⟩ ∧ b < w.heap.size ∧ ∀ k p, L[k]? = some p → w.cell? ⟨b, off + k, none⟩ = some (strV p))
theorem Strs.own {w : World} {base : Nat} {v : Value} {L : List (List UInt8)} (h : w.ownsRow base 9 1 v L.length (L.map strV)) : Strs w v L := by
  rcases h.2 with ⟨rfl, hn⟩ | ⟨g, cap, cur, rfl, hb, hg, hc, _⟩
  · exact ⟨none, 0, by rw [hn], by omega, fun h => by omega⟩
  · refine ⟨_, cap, rfl, hc, fun _ => ⟨g, 0, rfl, (Array.getElem?_eq_some_iff.1 hg).1, fun k p hk => ?_⟩⟩
    have := h.cells (g := g) rfl k (strV p) (by simp [hk])
    simpa [Addr.add_lit] using this
theorem Strs.below {w w' : World} {v : Value} {L : List (List UInt8)} (h : Strs w v L) (hb : Below w.heap.size w w') : Strs w' v L := by
  obtain ⟨A, cap, rfl, hc, h⟩ := h
  refine ⟨A, cap, rfl, hc, fun hn => ?_⟩
  obtain ⟨b, off, rfl, hlt, hcell⟩ := h hn
  exact ⟨b, off, rfl, Nat.lt_of_lt_of_le hlt hb.size, fun k p hk => (hb.cell (p := ⟨b, off + k, none⟩) hlt).trans (hcell k p hk)⟩

theorem take_snoc_eq {α : Type} [DecidableEq α] {A B : List α} {k : Nat} (ha : k < A.length) (hb : k < B.length) (h : A.take k = B.take k) (he : A[k] = B[k]) : A.take (k + 1) = B.take (k + 1) := by
  rw [List.take_succ_eq_append_getElem ha, List.take_succ_eq_append_getElem hb, h, he]
theorem getElem_of_eq {α : Type} {A B : List α} {k : Nat} (ha : k < A.length) (hb : k < B.length) (h : A = B) : A[k] = B[k] := by subst h; rfl

set_option maxHeartbeats 400000 in
theorem eqStringS_any (v1 v2 : Value) (A B : List (List UInt8)) (w : World) (h1 : Strs w v1 A) (h2 : Strs w v2 B) (hl : A.length ≤ maxLen) : Calls Tryd.prog 16 #[v1, v2] w fun e w' => e = .returned (.bool (decide (A = B))) ∧ ∃ n, w' = w.drewN n := by
  unfold maxLen at hl
  obtain ⟨a1, c1, rfl, hc1, h1⟩ := h1
  obtain ⟨a2, c2, rfl, hc2, h2⟩ := h2
  by_cases hL : A.length = B.length
  · have hne : ((A.length : Int) != (B.length : Int)) = false := by simp [hL]
    have HL := Lib.hid hL
    have H1 := Lib.hid h1
    have H2 := Lib.hid h2
    clear hL h1 h2
    go_enter Tryd.func16, Tryd.ntmps16
    go_wp2
    go_loopw [5] (fun i wr => ∃ k n : Nat, k ≤ A.length ∧ i = .int .i64 k ∧ wr = w.drewN n ∧ Hid (A.take k = B.take k)) (fun i _ => A.length - (intOf i).toNat)
    case atStart => exact ⟨0, 0, by omega, rfl, rfl, rfl⟩
    case round =>
      obtain ⟨k, n, hk, rfl, rfl, HK⟩ := hrel
      by_cases hlt : k < A.length
      · obtain ⟨b1, o1, rfl, hb1, hcell1⟩ := H1.out (by omega)
        have hL2 := HL.out
        have hlt2 : k < B.length := by omega
        obtain ⟨b2, o2, rfl, hb2, hcell2⟩ := H2.out (by omega)
        have hk1 := hcell1 k A[k] (by simp [hlt])
        have hk2 := hcell2 k B[k] (by simp [hlt2])
        unfold strV at hk1 hk2
        clear hcell1 hcell2 hL2 H1 H2
        have hi1 : (k : Int) < (A.length : Int) := by omega
        have hi2 : (k : Int) < (B.length : Int) := by omega
        have hi0 : (0 : Int) ≤ (k : Int) := by omega
        go_wp2
        go_quiet (fail)
        go_wp2
        · have HF : Hid (¬ A = B) := fun e => by
            have h3 : (!A[k] == B[k]) = true := by assumption
            rw [getElem_of_eq hlt hlt2 e] at h3
            simp at h3
          go_ret
          exact ⟨ret_bool (by simp [HF.out]), n + nq, World.drewN_drewN _ _ _⟩
        · have h3 : (!A[k] == B[k]) = false := by assumption
          exact ⟨⟨k + 1, _, by omega, by go_num, rfl, take_snoc_eq hlt hlt2 HK.out (by simpa using h3)⟩, by simp [intOf]; omega⟩
      · have HE : Hid (A = B) := by
          have hL2 := HL.out
          have := HK.out
          rw [List.take_of_length_le (by omega), List.take_of_length_le (by omega)] at this
          exact this
        go_wp2
        go_ret
        exact ⟨ret_bool (by simp [HE.out]), _, rfl⟩
  · have hne : ((A.length : Int) != (B.length : Int)) = true := by simp; omega
    have HE : Hid (¬ A = B) := fun e => hL (by rw [e])
    clear hL
    go_enter Tryd.func16, Tryd.ntmps16
    go_wp2
    go_ret
    exact ⟨ret_bool (by simp [HE.out]), 0, rfl⟩

theorem grown_below {w w' : World} (h : Below w.heap.size w w') (row : Option Nat) : w.grownBy w' row := ⟨h.os, h.tape, h.output, h.size, fun k hk _ => h.block k hk⟩
theorem grown_trans {a b c : World} {row : Option Nat} (h : a.grownBy b row) (k : b.grownBy c row) : a.grownBy c row :=
  ⟨k.os.trans h.os, k.tape.trans h.tape, k.output.trans h.output, Nat.le_trans h.size k.size, fun i hi hne => (k.block i (Nat.lt_of_lt_of_le hi h.size) hne).trans (h.block i hi hne)⟩

/-- n marks from k on. -/
def markRow (k : Int) (n : Nat) : List Value := (List.range n).map fun (i : Nat) => .string (markS (k + (i : Int)))
theorem markRow_at {k : Int} {n j : Nat} (h : j < n) : (markRow k n)[j]? = some (.string (markS (k + j))) := by simp [markRow, h]
theorem markRow_len (k : Int) (n : Nat) : (markRow k n).length = n := by simp [markRow]
theorem markRow_snoc (k : Int) (n : Nat) : markRow k (n + 1) = markRow k n ++ [.string (markS (k + n))] := by simp [markRow, List.range_succ]
theorem mark_set {k : Int} {j : Nat} {xs : List Value} (h : j < xs.length) : (markRow k j ++ xs.drop j).set j (.string (markS (k + j))) = markRow k (j + 1) ++ xs.drop (j + 1) := by
  rw [markRow_snoc, List.set_append_right _ _ (by rw [markRow_len]; exact Nat.le_refl _), markRow_len, Nat.sub_self, List.drop_eq_getElem_cons h, List.set_cons_zero, List.append_assoc]
  rfl

set_option maxHeartbeats 400000 in
theorem markStringS_any (v : Value) (n base : Nat) (xs : List Value) (k : Int) (w : World) (hown : w.ownsRow base 9 1 v n xs) (h0 : 0 ≤ k) (hk : k + n ≤ 1099511627776) :
    Calls Tryd.prog 17 #[v, .int .i64 k] w fun e w' => e = .returned (.int .i64 (k + n)) ∧ w'.ownsRow base 9 1 v n (markRow k n) ∧ w.grownBy w' v.ownBlock := by
  have hxl : xs.length = n := by simpa using hown.1
  have HX := Lib.hid hxl
  clear hxl
  rcases hown.2 with ⟨rfl, rfl⟩ | ⟨g, cap, cur, rfl, hbg, hgg, hnc, hcm, _⟩
  · go_enter Tryd.func17, Tryd.ntmps17
    go_wp2
    refine wp_loop_rounds 1 ?_
    rw [rounds_succ]
    go_wp2
    go_ret
    exact ⟨by simp, World.ownsRow_nil _ _ _ _, World.grownBy.refl _ _⟩
  · unfold maxLen at hcm
    clear hgg
    go_enter Tryd.func17, Tryd.ntmps17
    go_wp2
    go_loopw [1, 5] (fun m i wr => ∃ j : Nat, j ≤ n ∧ i = .int .i64 j ∧ m = .int .i64 (k + j) ∧ wr.ownsRow base 9 1 (.slice (some ⟨g, 0, none⟩) n cap) n (markRow k j ++ xs.drop j) ∧ w.grownBy wr (some g)) (fun _ i _ => n - (intOf i).toNat)
    case atStart => exact ⟨0, by omega, rfl, by simp, by simpa [markRow] using hown, World.grownBy.refl _ _⟩
    case round =>
      obtain ⟨j, hj, rfl, rfl, hownj, hgr⟩ := hrel
      by_cases hlt : j < n
      · go_wp2_with fail
        refine (markText_any _ _ (by omega) (by omega)).mono ?_
        rintro e w1 ⟨rfl, hb1⟩
        have hown1 := own_below hownj hb1
        have hx := HX.out
        obtain ⟨u, hu⟩ : ∃ u, (markRow k j ++ xs.drop j)[j]? = some u := ⟨_, List.getElem?_eq_getElem (by rw [List.length_append, markRow_len, List.length_drop]; omega)⟩
        have hc := (hown1.cellAt j (by omega)).trans hu
        have hf := hown1.frozenAt j
        have HS := Lib.hid (hown1.stored j (.string (markS (k + j))))
        rw [mark_set (by omega)] at HS
        clear hx hu
        go_wp2
        go_roundw
        case rel => exact ⟨j + 1, by omega, by go_num, by go_num, HS.out.1, grown_trans (grown_trans hgr (grown_below hb1 _)) HS.out.2⟩
        case measure => simp [intOf]; omega
      · obtain rfl : j = n := by omega
        go_wp2
        go_ret
        refine ⟨rfl, ?_, hgr⟩
        rw [List.drop_of_length_le (by rw [HX.out]; exact Nat.le_refl _), List.append_nil] at hownj
        exact hownj

theorem bytes_beq_self (s : ByteArray) : (s.toList == s.toList) = true := by simp

set_option maxHeartbeats 800000 in
theorem heldStringS_any (v : Value) (n base : Nat) (k : Int) (w : World) (hown : w.ownsRow base 9 1 v n (markRow k n)) (h0 : 0 ≤ k) (hk : k + n ≤ 1099511627776) :
    Calls Tryd.prog 18 #[v, .int .i64 k] w fun e w' => e = .returned (.int .i64 (k + n)) ∧ Below w.heap.size w w' := by
  rcases hown.2 with ⟨rfl, rfl⟩ | ⟨g, cap, cur, rfl, hbg, hgg, hnc, hcm, _⟩
  · go_enter Tryd.func18, Tryd.ntmps18
    go_wp2
    refine wp_loop_rounds 1 ?_
    rw [rounds_succ]
    go_wp2
    go_ret
    exact ⟨by simp, Below.refl _ _⟩
  · unfold maxLen at hcm
    have hglt : g < w.heap.size := (Array.getElem?_eq_some_iff.1 hgg).1
    clear hgg
    have HC : Hid (∀ j, j < n → w.cell? ⟨g, j, none⟩ = some (.string (markS (k + (j : Int))))) := fun j hj => (hown.cellAt j (by omega)).trans (markRow_at hj)
    clear hown
    go_enter Tryd.func18, Tryd.ntmps18
    go_wp2
    go_loopw [1, 5] (fun m i wr => ∃ j : Nat, j ≤ n ∧ i = .int .i64 j ∧ m = .int .i64 (k + j) ∧ Below w.heap.size w wr) (fun _ i _ => n - (intOf i).toNat)
    case atStart => exact ⟨0, by omega, rfl, by simp, Below.refl _ _⟩
    case round =>
      obtain ⟨j, hj, rfl, rfl, hbw⟩ := hrel
      by_cases hlt : j < n
      · have hc : wr.cell? ⟨g, j, none⟩ = some (.string (markS (k + j))) := (hbw.cell (p := ⟨g, j, none⟩) hglt).trans (HC.out j hlt)
        have hi1 : (j : Int) < (n : Int) := by omega
        have hi0 : (0 : Int) ≤ (j : Int) := by omega
        have hgr : g < wr.heap.size := Nat.lt_of_lt_of_le hglt hbw.size
        go_wp2
        go_region_held3 (fun w' => w'.cell? ⟨g, j, none⟩ = some (.string (markS (k + j)))) (first | exact hc | exact (hb1.cell (p := ⟨g, j, none⟩) hgr).trans hc | go_keep) (first | (go_at_call 32; refine (markText_any _ _ (by omega) (by omega)).mono ?_; rintro e w1 ⟨rfl, hb1⟩))
        go_wp2
        exact ⟨⟨j + 1, by omega, by go_num, by go_num, hbw.drew.trans (hb1.mono hbw.size)⟩, by simp [intOf]; omega⟩
      · obtain rfl : j = n := by omega
        go_wp2
        go_ret
        exact ⟨rfl, hbw⟩

end Go.Proofs.YtcbmnihepeefaaaDoor.Paths
