/- Plain facts on lists of bytes: parts and paths. Nothing of the program is in it. -/
import Derived.Test.YtbgejefmchnhcaaDoorPlainA
namespace Go.Proofs.YtbgejefmchnhcaaDoor

/-- A byte or a rune that may stand in a part. -/
def partChar (c : Int) : Bool := decide (33 ≤ c ∧ c ≤ 126 ∧ c ≠ 47)
def partAll (l : List UInt8) : Bool := l.all fun c => partChar c.toNat
def partB (l : List UInt8) : Bool := decide (1 ≤ l.length ∧ l.length ≤ 8) && (!(l == [46]) && !(l == [46, 46])) && partAll l

/-- A list parted at each x. -/
def cutAt (x : UInt8) : List UInt8 → List (List UInt8)
  | [] => [[]]
  | c :: r => if c = x then [] :: cutAt x r else
    match cutAt x r with
    | [] => [[c]]
    | h :: t => (c :: h) :: t

def pathB (l : List UInt8) : Bool := decide ((cutAt 47 l).length ≤ 4) && (cutAt 47 l).all partB

theorem cutAt_ne (x : UInt8) (l : List UInt8) : cutAt x l ≠ [] := by
  cases l with
  | nil => simp [cutAt]
  | cons c r =>
    simp only [cutAt]
    split
    · simp
    · split <;> simp
theorem cutAt_pos (x : UInt8) (l : List UInt8) : 1 ≤ (cutAt x l).length := by
  have := cutAt_ne x l
  cases h : cutAt x l with
  | nil => exact absurd h this
  | cons => simp
theorem cutAt_clean {x : UInt8} {l : List UInt8} (h : ∀ c ∈ l, c ≠ x) : cutAt x l = [l] := by
  induction l with
  | nil => rfl
  | cons c r ih =>
    have h1 : c ≠ x := h c (by simp)
    simp [cutAt, h1, ih (fun d hd => h d (by simp [hd]))]
theorem cutAt_at {x : UInt8} {a : List UInt8} (b : List UInt8) (h : ∀ c ∈ a, c ≠ x) : cutAt x (a ++ x :: b) = a :: cutAt x b := by
  induction a with
  | nil => simp [cutAt]
  | cons c r ih =>
    have h1 : c ≠ x := h c (by simp)
    simp [cutAt, h1, ih (fun d hd => h d (by simp [hd]))]
theorem cutAt_length_le (x : UInt8) (l : List UInt8) : (cutAt x l).length ≤ l.length + 1 := by
  induction l with
  | nil => simp [cutAt]
  | cons c r ih =>
    simp only [cutAt]
    split
    · simp; omega
    · split
      · simp
      · rename_i h; rw [h] at ih; simp at ih ⊢; omega

theorem partChar_high {c : Int} (h : 127 ≤ c) : partChar c = false := by unfold partChar; simp; omega
theorem partChar_rune (s : ByteArray) (k : Nat) (h : k < s.size) : partChar ((Utf8.decode s k).1 : Int) = partChar (s[k].toNat : Int) := by
  rcases decode_cases s k h with ⟨_, e⟩ | ⟨a, b⟩
  · rw [e]
  · rw [partChar_high (by omega), partChar_high (by omega)]
theorem partAll_mem {l : List UInt8} (h : partAll l = true) {c : UInt8} (hc : c ∈ l) : 33 ≤ c.toNat ∧ c.toNat ≤ 126 ∧ c.toNat ≠ 47 := by
  have h1 := List.all_eq_true.1 h c hc
  simp [partChar] at h1
  omega
theorem partB_all {l : List UInt8} (h : partB l = true) : partAll l = true := by
  unfold partB at h
  simp only [Bool.and_eq_true] at h
  exact h.2
theorem partB_len {l : List UInt8} (h : partB l = true) : 1 ≤ l.length ∧ l.length ≤ 8 := by
  unfold partB at h
  simp only [Bool.and_eq_true, decide_eq_true_eq] at h
  exact h.1.1
theorem partB_clean {l : List UInt8} (h : partB l = true) : ∀ c ∈ l, c ≠ 47 := by
  intro c hc e
  have := partAll_mem (partB_all h) hc
  subst e
  exact absurd rfl this.2.2
theorem partB_not_high {l : List UInt8} (h : ∃ c ∈ l, 128 ≤ c.toNat) : partB l = false := by
  obtain ⟨c, hc, hh⟩ := h
  rw [Bool.eq_false_iff]
  intro hp
  have := partAll_mem (partB_all hp) hc
  omega

theorem cut_mem_high {l : List UInt8} (h : ∃ c ∈ l, 128 ≤ c.toNat) : ∃ p ∈ cutAt 47 l, ∃ c ∈ p, 128 ≤ c.toNat := by
  obtain ⟨c, hc, hh⟩ := h
  induction l with
  | nil => cases hc
  | cons d r ih =>
    simp only [cutAt]
    rcases List.mem_cons.1 hc with rfl | hc
    · have h47 : c ≠ 47 := by rintro rfl; exact absurd hh (by decide)
      rw [if_neg h47]
      split
      · exact ⟨[c], by simp, c, by simp, hh⟩
      · exact ⟨_, List.mem_cons_self, c, by simp, hh⟩
    · obtain ⟨p, hp, q⟩ := ih hc
      split
      · exact ⟨p, by simp [hp], q⟩
      · split
        · rename_i he; rw [he] at hp; cases hp
        · rename_i h' t he
          rw [he] at hp
          rcases List.mem_cons.1 hp with rfl | hp
          · obtain ⟨x, hx, q⟩ := q
            exact ⟨_, List.mem_cons_self, x, by simp [hx], q⟩
          · exact ⟨p, by simp [hp], q⟩
theorem cut_not_high {l : List UInt8} (h : ∃ c ∈ l, 128 ≤ c.toNat) : (cutAt 47 l).all partB = false := by
  obtain ⟨p, hp, q⟩ := cut_mem_high h
  rw [Bool.eq_false_iff]
  intro ha
  have := List.all_eq_true.1 ha p hp
  rw [partB_not_high q] at this
  cases this

/-- What a search for the first 47 has met before 'pos': neither 47 nor a byte from 128 on; or some byte from 128 on. -/
def Seen (l : List UInt8) (pos : Nat) : Prop := (∀ c ∈ l.take pos, c ≠ 47 ∧ c.toNat < 128) ∨ ∃ c ∈ l.take pos, 128 ≤ c.toNat
theorem Seen.zero (l : List UInt8) : Seen l 0 := .inl (by simp)

theorem take_succ_at (s : ByteArray) (k : Nat) (h : k < s.size) : s.data.toList.take (k + 1) = s.data.toList.take k ++ [s[k]] := by
  rw [List.take_succ_eq_append_getElem (by simpa using h)]; rfl
theorem take_mono {l : List UInt8} {a b : Nat} (h : a ≤ b) {c : UInt8} (hc : c ∈ l.take a) : c ∈ l.take b := by
  rw [show l.take a = (l.take b).take a by rw [List.take_take, Nat.min_eq_left h]] at hc
  exact List.mem_of_mem_take hc

theorem Seen.next {s : ByteArray} {k : Nat} (hk : k < s.size) (h : Seen s.data.toList k) (hne : ((Utf8.decode s k).1 : Int) ≠ 47) : Seen s.data.toList (k + (Utf8.decode s k).2) := by
  have hw := width_pos s k hk
  have hmem : s[k] ∈ s.data.toList.take (k + 1) := by rw [take_succ_at s k hk]; simp
  rcases decode_cases s k hk with ⟨ha, e⟩ | ⟨ha, hb⟩
  · rw [e] at hne ⊢
    have h47 : s[k] ≠ 47 := by intro e2; rw [e2] at hne; exact hne rfl
    rcases h with h | ⟨c, hc, hh⟩
    · refine .inl fun c hc => ?_
      rw [take_succ_at s k hk] at hc
      rcases List.mem_append.1 hc with hc | hc
      · exact h c hc
      · simp at hc; subst hc; exact ⟨h47, ha⟩
    · exact .inr ⟨c, take_mono (by omega) hc, hh⟩
  · exact .inr ⟨s[k], take_mono (by omega) hmem, ha⟩

theorem split_at (s : ByteArray) (k : Nat) (hk : k < s.size) (h : ((Utf8.decode s k).1 : Int) = 47) : s.data.toList = s.data.toList.take k ++ 47 :: s.data.toList.drop (k + 1) := by
  rcases decode_cases s k hk with ⟨ha, e⟩ | ⟨ha, hb⟩
  · rw [e] at h
    have h47 : s[k] = 47 := by apply UInt8.toNat_inj.1; show s[k].toNat = 47; simp at h; omega
    rw [← h47, ← drop_cons s k hk, List.take_append_drop]
  · omega

/-- The search met a 47 at k: a part ends there. -/
theorem cut_step {s : ByteArray} {k : Nat} (hk : k < s.size) (h : ((Utf8.decode s k).1 : Int) = 47) (hp : partB (s.data.toList.take k) = true) :
    cutAt 47 s.data.toList = s.data.toList.take k :: cutAt 47 (s.data.toList.drop (k + 1)) := by
  have e := split_at s k hk h
  have := cutAt_at (s.data.toList.drop (k + 1)) (partB_clean hp)
  rw [← e] at this
  exact this
theorem cut_step_no {s : ByteArray} {k : Nat} (hk : k < s.size) (hs : Seen s.data.toList k) (h : ((Utf8.decode s k).1 : Int) = 47) (hp : partB (s.data.toList.take k) = false) :
    (cutAt 47 s.data.toList).all partB = false := by
  rcases hs with hs | ⟨c, hc, hh⟩
  · have e := split_at s k hk h
    have := cutAt_at (s.data.toList.drop (k + 1)) (fun c hc => (hs c hc).1)
    rw [← e] at this
    rw [this]
    simp [hp]
  · exact cut_not_high ⟨c, List.mem_of_mem_take hc, hh⟩
theorem cut_last {l : List UInt8} (hp : partB l = true) : cutAt 47 l = [l] := cutAt_clean (partB_clean hp)
theorem cut_last_no {l : List UInt8} {k : Nat} (hk : l.length ≤ k) (hs : Seen l k) (hp : partB l = false) : (cutAt 47 l).all partB = false := by
  unfold Seen at hs
  rw [List.take_of_length_le hk] at hs
  rcases hs with hs | hs
  · rw [cutAt_clean (fun c hc => (hs c hc).1)]
    simp [hp]
  · exact cut_not_high hs

theorem pathB_bad {l : List UInt8} {P : List (List UInt8)} {R : List UInt8} (h : cutAt 47 l = P ++ cutAt 47 R) (hR : (cutAt 47 R).all partB = false) : pathB l = false := by
  unfold pathB
  rw [h, List.all_append, hR]
  simp
theorem pathB_many {l : List UInt8} {P : List (List UInt8)} {R : List UInt8} (h : cutAt 47 l = P ++ cutAt 47 R) (hP : 4 ≤ P.length) : pathB l = false := by
  unfold pathB
  rw [h]
  have := cutAt_pos 47 R
  rw [decide_eq_false (by simp; omega)]
  rfl
theorem pathB_good {l : List UInt8} {P : List (List UInt8)} {R : List UInt8} (h : cutAt 47 l = P ++ cutAt 47 R) (hP : P.length < 4) (ha : P.all partB = true) (hR : partB R = true) : pathB l = true ∧ cutAt 47 l = P ++ [R] := by
  rw [cut_last hR] at h
  refine ⟨?_, h⟩
  unfold pathB
  rw [h, decide_eq_true (by simp; omega)]
  simp [ha, hR]

def inB (n a b : Int) : Bool := decide (a ≤ n ∧ n ≤ b)
theorem inB_true {n a b : Int} (h : a ≤ n ∧ n ≤ b) : inB n a b = true := by unfold inB; rw [decide_eq_true h]
theorem inB_false {n a b : Int} (h : ¬ (a ≤ n ∧ n ≤ b)) : inB n a b = false := by unfold inB; rw [decide_eq_false h]

/-! ### What the walks of PartOK ask -/
theorem partB_no_len {s : ByteArray} (h : ¬ (1 ≤ s.size ∧ s.size ≤ 8)) : partB s.data.toList = false := by
  have := Lib.size_eq s
  unfold partB
  rw [← this, decide_eq_false h]
  rfl
theorem partB_no_dot {s : ByteArray} (h : (s.toList == [46]) = true) : partB s.data.toList = false := by
  rw [Lib.toList_data] at h
  unfold partB
  rw [h]
  simp
theorem partB_no_dots {s : ByteArray} (h : (s.toList == [46, 46]) = true) : partB s.data.toList = false := by
  rw [Lib.toList_data] at h
  unfold partB
  rw [h]
  simp
theorem partB_yes {s : ByteArray} (h : 1 ≤ s.size ∧ s.size ≤ 8) (h1 : (s.toList == [46]) = false) (h2 : (s.toList == [46, 46]) = false) : partB s.data.toList = partAll s.data.toList := by
  have := Lib.size_eq s
  rw [Lib.toList_data] at h1 h2
  unfold partB
  rw [← this, decide_eq_true h, h1, h2]
  rfl
theorem partAll_at (s : ByteArray) (k : Nat) (h : k < s.size) : partAll (s.data.toList.drop k) = (partChar s[k].toNat && partAll (s.data.toList.drop (k + 1))) := by
  rw [drop_cons s k h]
  rfl
theorem part_goes (s : ByteArray) (k : Nat) (h : k < s.size) (hl : 33 ≤ ((Utf8.decode s k).1 : Int)) (hh : ((Utf8.decode s k).1 : Int) ≤ 126) (h47 : ((Utf8.decode s k).1 : Int) ≠ 47) :
    partAll (s.data.toList.drop k) = partAll (s.data.toList.drop (k + (Utf8.decode s k).2)) := by
  have hp : partChar ((Utf8.decode s k).1 : Int) = true := by unfold partChar; simp; omega
  rcases decode_cases s k h with ⟨_, e⟩ | ⟨a, b⟩
  · rw [partAll_at s k h, ← partChar_rune s k h, hp, e]; rfl
  · omega
theorem part_stops (s : ByteArray) (k : Nat) (h : k < s.size) (hl : ((Utf8.decode s k).1 : Int) < 33 ∨ 126 < ((Utf8.decode s k).1 : Int) ∨ ((Utf8.decode s k).1 : Int) = 47) :
    partAll (s.data.toList.drop k) = false := by
  have hp : partChar ((Utf8.decode s k).1 : Int) = false := by unfold partChar; simp; omega
  rw [partAll_at s k h, ← partChar_rune s k h, hp]; rfl

theorem part_goes' (s : ByteArray) (k : Nat) (h : k < s.size) (hl : 33 ≤ (s[k].toNat : Int)) (hh : (s[k].toNat : Int) ≤ 126) (h47 : (s[k].toNat : Int) ≠ 47) :
    partAll (s.data.toList.drop k) = partAll (s.data.toList.drop (k + 1)) := by
  have hp : partChar (s[k].toNat : Int) = true := by unfold partChar; simp; omega
  rw [partAll_at s k h, hp]; rfl
theorem part_stops' (s : ByteArray) (k : Nat) (h : k < s.size) (hl : (s[k].toNat : Int) < 33 ∨ 126 < (s[k].toNat : Int) ∨ (s[k].toNat : Int) = 47) :
    partAll (s.data.toList.drop k) = false := by
  have hp : partChar (s[k].toNat : Int) = false := by unfold partChar; simp; omega
  rw [partAll_at s k h, hp]; rfl

end Go.Proofs.YtbgejefmchnhcaaDoor
