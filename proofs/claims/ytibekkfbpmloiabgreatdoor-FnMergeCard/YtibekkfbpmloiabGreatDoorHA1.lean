/- Parts of several texts of mine in one file (each begins with its own remark). -/
import Derived.Test.YtibekkfbpmloiabGreatDoorChecked
import Derived.WalkKit
import Derived.Lib.Strings
import Derived.WalkSpells
import Derived.WalkSmall
import Derived.Lib.OthersKept
import Derived.Lib.Hide
/- Plain facts on lists of bytes: names. Nothing of the program is in it. -/
namespace Go.Proofs.YtibekkfbpmloiabGreatDoor

theorem drop_cons (s : ByteArray) (k : Nat) (h : k < s.size) : s.data.toList.drop k = s[k] :: s.data.toList.drop (k + 1) := by
  have : s.data.toList.drop k = s.data.toList[k]'(by simpa using h) :: s.data.toList.drop (k + 1) := List.drop_eq_getElem_cons (by simpa using h)
  rw [this]
  rfl
theorem drop_end (s : ByteArray) (k : Nat) (h : ¬ k < s.size) : s.data.toList.drop k = [] := by
  simp
  omega

theorem width_pos (s : ByteArray) (pos : Nat) (h : pos < s.size) : 1 ≤ (Utf8.decode s pos).2 := by
  by_cases ha : (s[pos]'h).toNat < 128
  · rw [decode_ascii s pos h ha]
    exact Nat.le_refl _
  · exact (decode_high s pos h (by omega)).2

theorem isEmpty_false {s : ByteArray} (h : 0 < s.size) : s.toList.isEmpty = false := by
  rw [Lib.toList_data]
  have := Lib.size_eq s
  cases hl : s.data.toList with
  | nil => rw [hl] at this; rw [this] at h; simp at h
  | cons => rfl
theorem isEmpty_true {s : ByteArray} (h : s.size = 0) : s.toList.isEmpty = true := by
  rw [Lib.toList_data]
  have := Lib.size_eq s
  cases hl : s.data.toList with
  | nil => rfl
  | cons => rw [hl] at this; rw [this] at h; simp at h

/-- A rune below 128 is the byte at its place, and it is one byte long; any other rune stands at a byte from 128 on. -/
theorem decode_cases (s : ByteArray) (k : Nat) (h : k < s.size) :
    (s[k].toNat < 128 ∧ Utf8.decode s k = (s[k].toNat, 1)) ∨ (128 ≤ s[k].toNat ∧ 128 ≤ (Utf8.decode s k).1) := by
  by_cases ha : s[k].toNat < 128
  · exact .inl ⟨ha, decode_ascii s k h ha⟩
  · exact .inr ⟨by omega, (decode_high s k h (by omega)).1⟩

end Go.Proofs.YtibekkfbpmloiabGreatDoor

/- Plain facts on lists of bytes: parts and paths. Nothing of the program is in it. -/
namespace Go.Proofs.YtibekkfbpmloiabGreatDoor

/-- A byte or a rune that may stand in a part. -/
def partChar (c : Int) : Bool := decide (33 ≤ c ∧ c ≤ 126 ∧ c ≠ 47)
def partAll (l : List UInt8) : Bool := l.all fun c => partChar c.toNat
def partB (l : List UInt8) : Bool := decide (1 ≤ l.length ∧ l.length ≤ 8) && (!(l == [46]) && !(l == [46, 46])) && partAll l

/-- A list parted at each x. -/
def cutAt (x : UInt8) : List UInt8 → List (List UInt8)
  | [] => [[]]
  | c :: r => if c = x then [] :: cutAt x r else
    match cutAt x r with
    | [] => [[c]]
    | h :: t => (c :: h) :: t

def pathB (l : List UInt8) : Bool := decide ((cutAt 47 l).length ≤ 4) && (cutAt 47 l).all partB

theorem cutAt_ne (x : UInt8) (l : List UInt8) : cutAt x l ≠ [] := by
  cases l with
  | nil => simp [cutAt]
  | cons c r =>
    simp only [cutAt]
    split
    · simp
    · split <;> simp
theorem cutAt_pos (x : UInt8) (l : List UInt8) : 1 ≤ (cutAt x l).length := by
  have := cutAt_ne x l
  cases h : cutAt x l with
  | nil => exact absurd h this
  | cons => simp
theorem cutAt_clean {x : UInt8} {l : List UInt8} (h : ∀ c ∈ l, c ≠ x) : cutAt x l = [l] := by
  induction l with
  | nil => rfl
  | cons c r ih =>
    have h1 : c ≠ x := h c (by simp)
    simp [cutAt, h1, ih (fun d hd => h d (by simp [hd]))]
theorem cutAt_at {x : UInt8} {a : List UInt8} (b : List UInt8) (h : ∀ c ∈ a, c ≠ x) : cutAt x (a ++ x :: b) = a :: cutAt x b := by
  induction a with
  | nil => simp [cutAt]
  | cons c r ih =>
    have h1 : c ≠ x := h c (by simp)
    simp [cutAt, h1, ih (fun d hd => h d (by simp [hd]))]
theorem cutAt_length_le (x : UInt8) (l : List UInt8) : (cutAt x l).length ≤ l.length + 1 := by
  induction l with
  | nil => simp [cutAt]
  | cons c r ih =>
    simp only [cutAt]
    split
    · simp; omega
    · split
      · simp
      · rename_i h; rw [h] at ih; simp at ih ⊢; omega

theorem partChar_high {c : Int} (h : 127 ≤ c) : partChar c = false := by unfold partChar; simp; omega
theorem partChar_rune (s : ByteArray) (k : Nat) (h : k < s.size) : partChar ((Utf8.decode s k).1 : Int) = partChar (s[k].toNat : Int) := by
  rcases decode_cases s k h with ⟨_, e⟩ | ⟨a, b⟩
  · rw [e]
  · rw [partChar_high (by omega), partChar_high (by omega)]
theorem partAll_mem {l : List UInt8} (h : partAll l = true) {c : UInt8} (hc : c ∈ l) : 33 ≤ c.toNat ∧ c.toNat ≤ 126 ∧ c.toNat ≠ 47 := by
  have h1 := List.all_eq_true.1 h c hc
  simp [partChar] at h1
  omega
theorem partB_all {l : List UInt8} (h : partB l = true) : partAll l = true := by
  unfold partB at h
  simp only [Bool.and_eq_true] at h
  exact h.2
theorem partB_len {l : List UInt8} (h : partB l = true) : 1 ≤ l.length ∧ l.length ≤ 8 := by
  unfold partB at h
  simp only [Bool.and_eq_true, decide_eq_true_eq] at h
  exact h.1.1
theorem partB_clean {l : List UInt8} (h : partB l = true) : ∀ c ∈ l, c ≠ 47 := by
  intro c hc e
  have := partAll_mem (partB_all h) hc
  subst e
  exact absurd rfl this.2.2
theorem partB_not_high {l : List UInt8} (h : ∃ c ∈ l, 128 ≤ c.toNat) : partB l = false := by
  obtain ⟨c, hc, hh⟩ := h
  rw [Bool.eq_false_iff]
  intro hp
  have := partAll_mem (partB_all hp) hc
  omega

theorem cut_mem_high {l : List UInt8} (h : ∃ c ∈ l, 128 ≤ c.toNat) : ∃ p ∈ cutAt 47 l, ∃ c ∈ p, 128 ≤ c.toNat := by
  obtain ⟨c, hc, hh⟩ := h
  induction l with
  | nil => cases hc
  | cons d r ih =>
    simp only [cutAt]
    rcases List.mem_cons.1 hc with rfl | hc
    · have h47 : c ≠ 47 := by rintro rfl; exact absurd hh (by decide)
      rw [if_neg h47]
      split
      · exact ⟨[c], by simp, c, by simp, hh⟩
      · exact ⟨_, List.mem_cons_self, c, by simp, hh⟩
    · obtain ⟨p, hp, q⟩ := ih hc
      split
      · exact ⟨p, by simp [hp], q⟩
      · split
        · rename_i he; rw [he] at hp; cases hp
        · rename_i h' t he
          rw [he] at hp
          rcases List.mem_cons.1 hp with rfl | hp
          · obtain ⟨x, hx, q⟩ := q
            exact ⟨_, List.mem_cons_self, x, by simp [hx], q⟩
          · exact ⟨p, by simp [hp], q⟩
theorem cut_not_high {l : List UInt8} (h : ∃ c ∈ l, 128 ≤ c.toNat) : (cutAt 47 l).all partB = false := by
  obtain ⟨p, hp, q⟩ := cut_mem_high h
  rw [Bool.eq_false_iff]
  intro ha
  have := List.all_eq_true.1 ha p hp
  rw [partB_not_high q] at this
  cases this

/-- What a search for the first 47 has met before 'pos': neither 47 nor a byte from 128 on; or some byte from 128 on. -/
def Seen (l : List UInt8) (pos : Nat) : Prop := (∀ c ∈ l.take pos, c ≠ 47 ∧ c.toNat < 128) ∨ ∃ c ∈ l.take pos, 128 ≤ c.toNat
theorem Seen.zero (l : List UInt8) : Seen l 0 := .inl (by simp)

theorem take_succ_at (s : ByteArray) (k : Nat) (h : k < s.size) : s.data.toList.take (k + 1) = s.data.toList.take k ++ [s[k]] := by
  rw [List.take_succ_eq_append_getElem (by simpa using h)]; rfl
theorem take_mono {l : List UInt8} {a b : Nat} (h : a ≤ b) {c : UInt8} (hc : c ∈ l.take a) : c ∈ l.take b := by
  rw [show l.take a = (l.take b).take a by rw [List.take_take, Nat.min_eq_left h]] at hc
  exact List.mem_of_mem_take hc

theorem Seen.next {s : ByteArray} {k : Nat} (hk : k < s.size) (h : Seen s.data.toList k) (hne : ((Utf8.decode s k).1 : Int) ≠ 47) : Seen s.data.toList (k + (Utf8.decode s k).2) := by
  have hw := width_pos s k hk
  have hmem : s[k] ∈ s.data.toList.take (k + 1) := by rw [take_succ_at s k hk]; simp
  rcases decode_cases s k hk with ⟨ha, e⟩ | ⟨ha, hb⟩
  · rw [e] at hne ⊢
    have h47 : s[k] ≠ 47 := by intro e2; rw [e2] at hne; exact hne rfl
    rcases h with h | ⟨c, hc, hh⟩
    · refine .inl fun c hc => ?_
      rw [take_succ_at s k hk] at hc
      rcases List.mem_append.1 hc with hc | hc
      · exact h c hc
      · simp at hc; subst hc; exact ⟨h47, ha⟩
    · exact .inr ⟨c, take_mono (by omega) hc, hh⟩
  · exact .inr ⟨s[k], take_mono (by omega) hmem, ha⟩

theorem split_at (s : ByteArray) (k : Nat) (hk : k < s.size) (h : ((Utf8.decode s k).1 : Int) = 47) : s.data.toList = s.data.toList.take k ++ 47 :: s.data.toList.drop (k + 1) := by
  rcases decode_cases s k hk with ⟨ha, e⟩ | ⟨ha, hb⟩
  · rw [e] at h
    have h47 : s[k] = 47 := by apply UInt8.toNat_inj.1; show s[k].toNat = 47; simp at h; omega
    rw [← h47, ← drop_cons s k hk, List.take_append_drop]
  · omega

/-- The search met a 47 at k: a part ends there. -/
theorem cut_step {s : ByteArray} {k : Nat} (hk : k < s.size) (h : ((Utf8.decode s k).1 : Int) = 47) (hp : partB (s.data.toList.take k) = true) :
    cutAt 47 s.data.toList = s.data.toList.take k :: cutAt 47 (s.data.toList.drop (k + 1)) := by
  have e := split_at s k hk h
  have := cutAt_at (s.data.toList.drop (k + 1)) (partB_clean hp)
  rw [← e] at this
  exact this
theorem cut_step_no {s : ByteArray} {k : Nat} (hk : k < s.size) (hs : Seen s.data.toList k) (h : ((Utf8.decode s k).1 : Int) = 47) (hp : partB (s.data.toList.take k) = false) :
    (cutAt 47 s.data.toList).all partB = false := by
  rcases hs with hs | ⟨c, hc, hh⟩
  · have e := split_at s k hk h
    have := cutAt_at (s.data.toList.drop (k + 1)) (fun c hc => (hs c hc).1)
    rw [← e] at this
    rw [this]
    simp [hp]
  · exact cut_not_high ⟨c, List.mem_of_mem_take hc, hh⟩
theorem cut_last {l : List UInt8} (hp : partB l = true) : cutAt 47 l = [l] := cutAt_clean (partB_clean hp)
theorem cut_last_no {l : List UInt8} {k : Nat} (hk : l.length ≤ k) (hs : Seen l k) (hp : partB l = false) : (cutAt 47 l).all partB = false := by
  unfold Seen at hs
  rw [List.take_of_length_le hk] at hs
  rcases hs with hs | hs
  · rw [cutAt_clean (fun c hc => (hs c hc).1)]
    simp [hp]
  · exact cut_not_high hs

theorem pathB_bad {l : List UInt8} {P : List (List UInt8)} {R : List UInt8} (h : cutAt 47 l = P ++ cutAt 47 R) (hR : (cutAt 47 R).all partB = false) : pathB l = false := by
  unfold pathB
  rw [h, List.all_append, hR]
  simp
theorem pathB_many {l : List UInt8} {P : List (List UInt8)} {R : List UInt8} (h : cutAt 47 l = P ++ cutAt 47 R) (hP : 4 ≤ P.length) : pathB l = false := by
  unfold pathB
  rw [h]
  have := cutAt_pos 47 R
  rw [decide_eq_false (by simp; omega)]
  rfl
theorem pathB_good {l : List UInt8} {P : List (List UInt8)} {R : List UInt8} (h : cutAt 47 l = P ++ cutAt 47 R) (hP : P.length < 4) (ha : P.all partB = true) (hR : partB R = true) : pathB l = true ∧ cutAt 47 l = P ++ [R] := by
  rw [cut_last hR] at h
  refine ⟨?_, h⟩
  unfold pathB
  rw [h, decide_eq_true (by simp; omega)]
  simp [ha, hR]

def inB (n a b : Int) : Bool := decide (a ≤ n ∧ n ≤ b)
theorem inB_true {n a b : Int} (h : a ≤ n ∧ n ≤ b) : inB n a b = true := by unfold inB; rw [decide_eq_true h]
theorem inB_false {n a b : Int} (h : ¬ (a ≤ n ∧ n ≤ b)) : inB n a b = false := by unfold inB; rw [decide_eq_false h]

/-! ### What the walks of PartOK ask -/
theorem partB_no_len {s : ByteArray} (h : ¬ (1 ≤ s.size ∧ s.size ≤ 8)) : partB s.data.toList = false := by
  have := Lib.size_eq s
  unfold partB
  rw [← this, decide_eq_false h]
  rfl
theorem partB_no_dot {s : ByteArray} (h : (s.toList == [46]) = true) : partB s.data.toList = false := by
  rw [Lib.toList_data] at h
  unfold partB
  rw [h]
  simp
theorem partB_no_dots {s : ByteArray} (h : (s.toList == [46, 46]) = true) : partB s.data.toList = false := by
  rw [Lib.toList_data] at h
  unfold partB
  rw [h]
  simp
theorem partB_yes {s : ByteArray} (h : 1 ≤ s.size ∧ s.size ≤ 8) (h1 : (s.toList == [46]) = false) (h2 : (s.toList == [46, 46]) = false) : partB s.data.toList = partAll s.data.toList := by
  have := Lib.size_eq s
  rw [Lib.toList_data] at h1 h2
  unfold partB
  rw [← this, decide_eq_true h, h1, h2]
  rfl
theorem partAll_at (s : ByteArray) (k : Nat) (h : k < s.size) : partAll (s.data.toList.drop k) = (partChar s[k].toNat && partAll (s.data.toList.drop (k + 1))) := by
  rw [drop_cons s k h]
  rfl
theorem part_goes (s : ByteArray) (k : Nat) (h : k < s.size) (hl : 33 ≤ ((Utf8.decode s k).1 : Int)) (hh : ((Utf8.decode s k).1 : Int) ≤ 126) (h47 : ((Utf8.decode s k).1 : Int) ≠ 47) :
    partAll (s.data.toList.drop k) = partAll (s.data.toList.drop (k + (Utf8.decode s k).2)) := by
  have hp : partChar ((Utf8.decode s k).1 : Int) = true := by unfold partChar; simp; omega
  rcases decode_cases s k h with ⟨_, e⟩ | ⟨a, b⟩
  · rw [partAll_at s k h, ← partChar_rune s k h, hp, e]; rfl
  · omega
theorem part_stops (s : ByteArray) (k : Nat) (h : k < s.size) (hl : ((Utf8.decode s k).1 : Int) < 33 ∨ 126 < ((Utf8.decode s k).1 : Int) ∨ ((Utf8.decode s k).1 : Int) = 47) :
    partAll (s.data.toList.drop k) = false := by
  have hp : partChar ((Utf8.decode s k).1 : Int) = false := by unfold partChar; simp; omega
  rw [partAll_at s k h, ← partChar_rune s k h, hp]; rfl

theorem part_goes' (s : ByteArray) (k : Nat) (h : k < s.size) (hl : 33 ≤ (s[k].toNat : Int)) (hh : (s[k].toNat : Int) ≤ 126) (h47 : (s[k].toNat : Int) ≠ 47) :
    partAll (s.data.toList.drop k) = partAll (s.data.toList.drop (k + 1)) := by
  have hp : partChar (s[k].toNat : Int) = true := by unfold partChar; simp; omega
  rw [partAll_at s k h, hp]; rfl
theorem part_stops' (s : ByteArray) (k : Nat) (h : k < s.size) (hl : (s[k].toNat : Int) < 33 ∨ 126 < (s[k].toNat : Int) ∨ (s[k].toNat : Int) = 47) :
    partAll (s.data.toList.drop k) = false := by
  have hp : partChar (s[k].toNat : Int) = false := by unfold partChar; simp; omega
  rw [partAll_at s k h, hp]; rfl

end Go.Proofs.YtibekkfbpmloiabGreatDoor

/- Parts: what PartOK of the program and of its model answer. -/
namespace Go.Proofs.YtibekkfbpmloiabGreatDoor.Paths
open Go.RowKit

theorem ret_bool {a b : Bool} (h : a = b) : Ending.returned (.bool a) = .returned (.bool b) := by rw [h]

set_option maxHeartbeats 400000 in
theorem partOK_impl (s : ByteArray) (w : World) : Calls Tryz.prog 164 #[.string s] w fun e w' => e = .returned (.bool (partB s.data.toList)) ∧ Below w.heap.size w w' := by
  by_cases h0 : 1 ≤ s.size ∧ s.size ≤ 8
  · have he := isEmpty_false h0.1
    have hd : decide ((8 : Int) < (s.size : Int)) = false := by simp; omega
    rcases Bool.eq_false_or_eq_true (s.toList == [46]) with h1 | h1
    · rw [partB_no_dot h1]
      go_enter Tryz.func164, Tryz.ntmps164
      go_wp2
      go_ret
      exact ⟨rfl, Below.refl _ _⟩
    rcases Bool.eq_false_or_eq_true (s.toList == [46, 46]) with h2 | h2
    · rw [partB_no_dots h2]
      go_enter Tryz.func164, Tryz.ntmps164
      go_wp2
      go_ret
      exact ⟨rfl, Below.refl _ _⟩
    rw [partB_yes h0 h1 h2]
    go_enter Tryz.func164, Tryz.ntmps164
    go_wp2
    go_loopw [] (fun wr => ∃ pos : Nat, wr.heap[w.heap.size]? = some (.stringIter s pos) ∧ Below w.heap.size w wr ∧ Hid (partAll s.data.toList = partAll (s.data.toList.drop pos))) (fun wr => s.size - wr.iterPos w.heap.size)
    case atStart => exact ⟨0, World.iter_heap w s 0, (Below.refl _ _).alloc (Nat.le_refl _) _, rfl⟩
    case round =>
      obtain ⟨pos, hit, hbw, HS⟩ := hrel
      have hpos0 := iterPos_of hit
      by_cases hp : pos < s.size
      · have hnx : ∀ ty, (Instr.next (.pointer (some ⟨w.heap.size, 0, none⟩)) true ty).run Tryz.prog wr = _ := fun ty => Lib.run_next_any_at wr w.heap.size s pos ty hit hp
        have hwd := width_pos s pos hp
        have hit2 := Lib.iterAt_heap wr w.heap.size s pos (pos + (Utf8.decode s pos).2) hit
        have hbw2 := Lib.below_iterAt hbw (k := w.heap.size) (Nat.le_refl _) s (pos + (Utf8.decode s pos).2)
        obtain ⟨W1, hW1⟩ : ∃ W1, W1 = wr.iterAt w.heap.size s (pos + (Utf8.decode s pos).2) := ⟨_, rfl⟩
        rw [← hW1] at hnx hit2 hbw2
        clear hW1
        go_wp2
        · go_ret
          exact ⟨ret_bool (by rw [HS.out]; exact (part_stops s pos hp (by have h3 := ‹(_ ∨ _) ∨ _›; simp only [beq_iff_eq] at h3; omega)).symm), hbw2⟩
        · exact ⟨⟨_, hit2, hbw2, by show _ = _; rw [HS.out]; have h3 := ‹(_ ∧ _) ∧ _›; simp only [beq_eq_false_iff_ne] at h3; exact part_goes s pos hp h3.1.1 h3.1.2 h3.2⟩, by rw [hpos0, iterPos_of hit2]; omega⟩
        · go_ret
          exact ⟨ret_bool (by rw [HS.out]; exact (part_stops s pos hp (.inr (.inl ‹_›))).symm), hbw2⟩
        · go_ret
          exact ⟨ret_bool (by rw [HS.out]; exact (part_stops s pos hp (.inl ‹_›)).symm), hbw2⟩
      · have hnx : ∀ ty, (Instr.next (.pointer (some ⟨w.heap.size, 0, none⟩)) true ty).run Tryz.prog wr = _ := fun ty => Lib.run_next_end_at wr w.heap.size s pos ty hit hp
        have HE : Hid (partAll s.data.toList = true) := by show _ = _; rw [HS.out, drop_end s pos hp]; rfl
        go_wp2
        go_ret
        exact ⟨ret_bool HE.out.symm, hbw⟩
  · rw [partB_no_len h0]
    by_cases h1 : s.size = 0
    · have he := isEmpty_true h1
      go_enter Tryz.func164, Tryz.ntmps164
      go_wp2
      go_ret
      exact ⟨rfl, Below.refl _ _⟩
    · have he := isEmpty_false (by omega : 0 < s.size)
      have hd : decide ((8 : Int) < (s.size : Int)) = true := by simp; omega
      go_enter Tryz.func164, Tryz.ntmps164
      go_wp2
      go_ret
      exact ⟨rfl, Below.refl _ _⟩

theorem l01In_any (n a b : Int) (w : World) : Calls Tryz.prog 105 #[.int .i64 n, .int .i64 a, .int .i64 b] w fun e w' => e = .returned (.bool (inB n a b)) ∧ w = w' := by
  go_enter Tryz.func105, Tryz.ntmps105
  go_wp2
  all_goals (go_ret; exact ⟨ret_bool (by rw [Bool.eq_iff_iff]; simp [inB]; omega), rfl⟩)

set_option maxHeartbeats 400000 in
theorem l01Part_any (s : ByteArray) (w : World) : Calls Tryz.prog 160 #[.string s] w fun e w' => e = .returned (.bool (partB s.data.toList)) ∧ w = w' := by
  by_cases h0 : 1 ≤ s.size ∧ s.size ≤ 8
  · have hin : inB (s.size : Int) 1 8 = true := inB_true (by omega)
    rcases Bool.eq_false_or_eq_true (s.toList == [46]) with h1 | h1
    · rw [partB_no_dot h1]
      go_enter Tryz.func160, Tryz.ntmps160
      go_wp2_with (first | (go_at_call 105; refine (l01In_any _ _ _ _).mono ?_; rintro e w' ⟨rfl, rfl⟩))
      go_ret
      exact ⟨rfl, rfl⟩
    rcases Bool.eq_false_or_eq_true (s.toList == [46, 46]) with h2 | h2
    · rw [partB_no_dots h2]
      go_enter Tryz.func160, Tryz.ntmps160
      go_wp2_with (first | (go_at_call 105; refine (l01In_any _ _ _ _).mono ?_; rintro e w' ⟨rfl, rfl⟩))
      go_ret
      exact ⟨rfl, rfl⟩
    rw [partB_yes h0 h1 h2]
    go_enter Tryz.func160, Tryz.ntmps160
    go_wp2_with (first | (go_at_call 105; refine (l01In_any _ _ _ _).mono ?_; rintro e w' ⟨rfl, rfl⟩))
    go_loop [3] (fun i => ∃ k : Nat, k ≤ s.size ∧ i = .int .i64 k ∧ Hid (partAll s.data.toList = partAll (s.data.toList.drop k))) (fun i => s.size - (intOf i).toNat)
    case atStart => exact ⟨0, by omega, rfl, rfl⟩
    case round =>
      obtain ⟨k, hk2, rfl, HS⟩ := hrel
      by_cases hlt : k < s.size
      · go_wp2
        · go_ret
          exact ⟨ret_bool (by rw [HS.out]; exact (part_stops' s k hlt (by have h3 := ‹(_ ∨ _) ∨ _›; simp only [beq_iff_eq] at h3; omega)).symm), rfl⟩
        · exact ⟨⟨k + 1, by omega, by go_num, by show _ = _; rw [HS.out]; have h3 := ‹(_ ∧ _) ∧ _›; simp only [beq_eq_false_iff_ne] at h3; exact part_goes' s k hlt h3.1.1 h3.1.2 h3.2⟩, by simp [intOf]; omega⟩
        · go_ret
          exact ⟨ret_bool (by rw [HS.out]; exact (part_stops' s k hlt (.inr (.inl ‹_›))).symm), rfl⟩
        · go_ret
          exact ⟨ret_bool (by rw [HS.out]; exact (part_stops' s k hlt (.inl ‹_›)).symm), rfl⟩
      · have HE : Hid (partAll s.data.toList = true) := by show _ = _; rw [HS.out, drop_end s k hlt]; rfl
        go_wp2
        go_ret
        exact ⟨ret_bool HE.out.symm, rfl⟩
  · rw [partB_no_len h0]
    have hin : inB (s.size : Int) 1 8 = false := inB_false (by omega)
    go_enter Tryz.func160, Tryz.ntmps160
    go_wp2_with (first | (go_at_call 105; refine (l01In_any _ _ _ _).mono ?_; rintro e w' ⟨rfl, rfl⟩))
    go_ret
    exact ⟨rfl, rfl⟩

end Go.Proofs.YtibekkfbpmloiabGreatDoor.Paths
