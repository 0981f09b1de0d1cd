/- Parts of several texts of mine in one file (each begins with its own remark). -/
import Derived.Test.YtibekkfbpmloiaaDoorChecked
import Derived.WalkKit
import Derived.Lib.Strings
import Derived.WalkSpells
import Derived.WalkSmall
import Derived.Lib.OthersKept
import Derived.Lib.Hide
import Derived.Deep.Draws
import Derived.Deep.LoopGhost
/- Plain facts on lists of bytes: names. Nothing of the program is in it. -/
namespace Go.Proofs.YtibekkfbpmloiaaDoor

theorem drop_cons (s : ByteArray) (k : Nat) (h : k < s.size) : s.data.toList.drop k = s[k] :: s.data.toList.drop (k + 1) := by
  have : s.data.toList.drop k = s.data.toList[k]'(by simpa using h) :: s.data.toList.drop (k + 1) := List.drop_eq_getElem_cons (by simpa using h)
  rw [this]
  rfl
theorem drop_end (s : ByteArray) (k : Nat) (h : ¬ k < s.size) : s.data.toList.drop k = [] := by
  simp
  omega

theorem width_pos (s : ByteArray) (pos : Nat) (h : pos < s.size) : 1 ≤ (Utf8.decode s pos).2 := by
  by_cases ha : (s[pos]'h).toNat < 128
  · rw [decode_ascii s pos h ha]
    exact Nat.le_refl _
  · exact (decode_high s pos h (by omega)).2

theorem isEmpty_false {s : ByteArray} (h : 0 < s.size) : s.toList.isEmpty = false := by
  rw [Lib.toList_data]
  have := Lib.size_eq s
  cases hl : s.data.toList with
  | nil => rw [hl] at this; rw [this] at h; simp at h
  | cons => rfl
theorem isEmpty_true {s : ByteArray} (h : s.size = 0) : s.toList.isEmpty = true := by
  rw [Lib.toList_data]
  have := Lib.size_eq s
  cases hl : s.data.toList with
  | nil => rfl
  | cons => rw [hl] at this; rw [this] at h; simp at h

/-- A rune below 128 is the byte at its place, and it is one byte long; any other rune stands at a byte from 128 on. -/
theorem decode_cases (s : ByteArray) (k : Nat) (h : k < s.size) :
    (s[k].toNat < 128 ∧ Utf8.decode s k = (s[k].toNat, 1)) ∨ (128 ≤ s[k].toNat ∧ 128 ≤ (Utf8.decode s k).1) := by
  by_cases ha : s[k].toNat < 128
  · exact .inl ⟨ha, decode_ascii s k h ha⟩
  · exact .inr ⟨by omega, (decode_high s k h (by omega)).1⟩

end Go.Proofs.YtibekkfbpmloiaaDoor

/- Plain facts on lists of bytes: parts and paths. Nothing of the program is in it. -/
namespace Go.Proofs.YtibekkfbpmloiaaDoor

/-- A byte or a rune that may stand in a part. -/
def partChar (c : Int) : Bool := decide (33 ≤ c ∧ c ≤ 126 ∧ c ≠ 47)
def partAll (l : List UInt8) : Bool := l.all fun c => partChar c.toNat
def partB (l : List UInt8) : Bool := decide (1 ≤ l.length ∧ l.length ≤ 8) && (!(l == [46]) && !(l == [46, 46])) && partAll l

/-- A list parted at each x. -/
def cutAt (x : UInt8) : List UInt8 → List (List UInt8)
  | [] => [[]]
  | c :: r => if c = x then [] :: cutAt x r else
    match cutAt x r with
    | [] => [[c]]
    | h :: t => (c :: h) :: t

def pathB (l : List UInt8) : Bool := decide ((cutAt 47 l).length ≤ 4) && (cutAt 47 l).all partB

theorem cutAt_ne (x : UInt8) (l : List UInt8) : cutAt x l ≠ [] := by
  cases l with
  | nil => simp [cutAt]
  | cons c r =>
    simp only [cutAt]
    split
    · simp
    · split <;> simp
theorem cutAt_pos (x : UInt8) (l : List UInt8) : 1 ≤ (cutAt x l).length := by
  have := cutAt_ne x l
  cases h : cutAt x l with
  | nil => exact absurd h this
  | cons => simp
theorem cutAt_clean {x : UInt8} {l : List UInt8} (h : ∀ c ∈ l, c ≠ x) : cutAt x l = [l] := by
  induction l with
  | nil => rfl
  | cons c r ih =>
    have h1 : c ≠ x := h c (by simp)
    simp [cutAt, h1, ih (fun d hd => h d (by simp [hd]))]
theorem cutAt_at {x : UInt8} {a : List UInt8} (b : List UInt8) (h : ∀ c ∈ a, c ≠ x) : cutAt x (a ++ x :: b) = a :: cutAt x b := by
  induction a with
  | nil => simp [cutAt]
  | cons c r ih =>
    have h1 : c ≠ x := h c (by simp)
    simp [cutAt, h1, ih (fun d hd => h d (by simp [hd]))]
theorem cutAt_length_le (x : UInt8) (l : List UInt8) : (cutAt x l).length ≤ l.length + 1 := by
  induction l with
  | nil => simp [cutAt]
  | cons c r ih =>
    simp only [cutAt]
    split
    · simp; omega
    · split
      · simp
      · rename_i h; rw [h] at ih; simp at ih ⊢; omega

theorem partChar_high {c : Int} (h : 127 ≤ c) : partChar c = false := by unfold partChar; simp; omega
theorem partChar_rune (s : ByteArray) (k : Nat) (h : k < s.size) : partChar ((Utf8.decode s k).1 : Int) = partChar (s[k].toNat : Int) := by
  rcases decode_cases s k h with ⟨_, e⟩ | ⟨a, b⟩
  · rw [e]
  · rw [partChar_high (by omega), partChar_high (by omega)]
theorem partAll_mem {l : List UInt8} (h : partAll l = true) {c : UInt8} (hc : c ∈ l) : 33 ≤ c.toNat ∧ c.toNat ≤ 126 ∧ c.toNat ≠ 47 := by
  have h1 := List.all_eq_true.1 h c hc
  simp [partChar] at h1
  omega
theorem partB_all {l : List UInt8} (h : partB l = true) : partAll l = true := by
  unfold partB at h
  simp only [Bool.and_eq_true] at h
  exact h.2
theorem partB_len {l : List UInt8} (h : partB l = true) : 1 ≤ l.length ∧ l.length ≤ 8 := by
  unfold partB at h
  simp only [Bool.and_eq_true, decide_eq_true_eq] at h
  exact h.1.1
theorem partB_clean {l : List UInt8} (h : partB l = true) : ∀ c ∈ l, c ≠ 47 := by
  intro c hc e
  have := partAll_mem (partB_all h) hc
  subst e
  exact absurd rfl this.2.2
theorem partB_not_high {l : List UInt8} (h : ∃ c ∈ l, 128 ≤ c.toNat) : partB l = false := by
  obtain ⟨c, hc, hh⟩ := h
  rw [Bool.eq_false_iff]
  intro hp
  have := partAll_mem (partB_all hp) hc
  omega

theorem cut_mem_high {l : List UInt8} (h : ∃ c ∈ l, 128 ≤ c.toNat) : ∃ p ∈ cutAt 47 l, ∃ c ∈ p, 128 ≤ c.toNat := by
  obtain ⟨c, hc, hh⟩ := h
  induction l with
  | nil => cases hc
  | cons d r ih =>
    simp only [cutAt]
    rcases List.mem_cons.1 hc with rfl | hc
    · have h47 : c ≠ 47 := by rintro rfl; exact absurd hh (by decide)
      rw [if_neg h47]
      split
      · exact ⟨[c], by simp, c, by simp, hh⟩
      · exact ⟨_, List.mem_cons_self, c, by simp, hh⟩
    · obtain ⟨p, hp, q⟩ := ih hc
      split
      · exact ⟨p, by simp [hp], q⟩
      · split
        · rename_i he; rw [he] at hp; cases hp
        · rename_i h' t he
          rw [he] at hp
          rcases List.mem_cons.1 hp with rfl | hp
          · obtain ⟨x, hx, q⟩ := q
            exact ⟨_, List.mem_cons_self, x, by simp [hx], q⟩
          · exact ⟨p, by simp [hp], q⟩
theorem cut_not_high {l : List UInt8} (h : ∃ c ∈ l, 128 ≤ c.toNat) : (cutAt 47 l).all partB = false := by
  obtain ⟨p, hp, q⟩ := cut_mem_high h
  rw [Bool.eq_false_iff]
  intro ha
  have := List.all_eq_true.1 ha p hp
  rw [partB_not_high q] at this
  cases this

/-- What a search for the first 47 has met before 'pos': neither 47 nor a byte from 128 on; or some byte from 128 on. -/
def Seen (l : List UInt8) (pos : Nat) : Prop := (∀ c ∈ l.take pos, c ≠ 47 ∧ c.toNat < 128) ∨ ∃ c ∈ l.take pos, 128 ≤ c.toNat
theorem Seen.zero (l : List UInt8) : Seen l 0 := .inl (by simp)

theorem take_succ_at (s : ByteArray) (k : Nat) (h : k < s.size) : s.data.toList.take (k + 1) = s.data.toList.take k ++ [s[k]] := by
  rw [List.take_succ_eq_append_getElem (by simpa using h)]; rfl
theorem take_mono {l : List UInt8} {a b : Nat} (h : a ≤ b) {c : UInt8} (hc : c ∈ l.take a) : c ∈ l.take b := by
  rw [show l.take a = (l.take b).take a by rw [List.take_take, Nat.min_eq_left h]] at hc
  exact List.mem_of_mem_take hc

theorem Seen.next {s : ByteArray} {k : Nat} (hk : k < s.size) (h : Seen s.data.toList k) (hne : ((Utf8.decode s k).1 : Int) ≠ 47) : Seen s.data.toList (k + (Utf8.decode s k).2) := by
  have hw := width_pos s k hk
  have hmem : s[k] ∈ s.data.toList.take (k + 1) := by rw [take_succ_at s k hk]; simp
  rcases decode_cases s k hk with ⟨ha, e⟩ | ⟨ha, hb⟩
  · rw [e] at hne ⊢
    have h47 : s[k] ≠ 47 := by intro e2; rw [e2] at hne; exact hne rfl
    rcases h with h | ⟨c, hc, hh⟩
    · refine .inl fun c hc => ?_
      rw [take_succ_at s k hk] at hc
      rcases List.mem_append.1 hc with hc | hc
      · exact h c hc
      · simp at hc; subst hc; exact ⟨h47, ha⟩
    · exact .inr ⟨c, take_mono (by omega) hc, hh⟩
  · exact .inr ⟨s[k], take_mono (by omega) hmem, ha⟩

theorem split_at (s : ByteArray) (k : Nat) (hk : k < s.size) (h : ((Utf8.decode s k).1 : Int) = 47) : s.data.toList = s.data.toList.take k ++ 47 :: s.data.toList.drop (k + 1) := by
  rcases decode_cases s k hk with ⟨ha, e⟩ | ⟨ha, hb⟩
  · rw [e] at h
    have h47 : s[k] = 47 := by apply UInt8.toNat_inj.1; show s[k].toNat = 47; simp at h; omega
    rw [← h47, ← drop_cons s k hk, List.take_append_drop]
  · omega

/-- The search met a 47 at k: a part ends there. -/
theorem cut_step {s : ByteArray} {k : Nat} (hk : k < s.size) (h : ((Utf8.decode s k).1 : Int) = 47) (hp : partB (s.data.toList.take k) = true) :
    cutAt 47 s.data.toList = s.data.toList.take k :: cutAt 47 (s.data.toList.drop (k + 1)) := by
  have e := split_at s k hk h
  have := cutAt_at (s.data.toList.drop (k + 1)) (partB_clean hp)
  rw [← e] at this
  exact this
theorem cut_step_no {s : ByteArray} {k : Nat} (hk : k < s.size) (hs : Seen s.data.toList k) (h : ((Utf8.decode s k).1 : Int) = 47) (hp : partB (s.data.toList.take k) = false) :
    (cutAt 47 s.data.toList).all partB = false := by
  rcases hs with hs | ⟨c, hc, hh⟩
  · have e := split_at s k hk h
    have := cutAt_at (s.data.toList.drop (k + 1)) (fun c hc => (hs c hc).1)
    rw [← e] at this
    rw [this]
    simp [hp]
  · exact cut_not_high ⟨c, List.mem_of_mem_take hc, hh⟩
theorem cut_last {l : List UInt8} (hp : partB l = true) : cutAt 47 l = [l] := cutAt_clean (partB_clean hp)
theorem cut_last_no {l : List UInt8} {k : Nat} (hk : l.length ≤ k) (hs : Seen l k) (hp : partB l = false) : (cutAt 47 l).all partB = false := by
  unfold Seen at hs
  rw [List.take_of_length_le hk] at hs
  rcases hs with hs | hs
  · rw [cutAt_clean (fun c hc => (hs c hc).1)]
    simp [hp]
  · exact cut_not_high hs

theorem pathB_bad {l : List UInt8} {P : List (List UInt8)} {R : List UInt8} (h : cutAt 47 l = P ++ cutAt 47 R) (hR : (cutAt 47 R).all partB = false) : pathB l = false := by
  unfold pathB
  rw [h, List.all_append, hR]
  simp
theorem pathB_many {l : List UInt8} {P : List (List UInt8)} {R : List UInt8} (h : cutAt 47 l = P ++ cutAt 47 R) (hP : 4 ≤ P.length) : pathB l = false := by
  unfold pathB
  rw [h]
  have := cutAt_pos 47 R
  rw [decide_eq_false (by simp; omega)]
  rfl
theorem pathB_good {l : List UInt8} {P : List (List UInt8)} {R : List UInt8} (h : cutAt 47 l = P ++ cutAt 47 R) (hP : P.length < 4) (ha : P.all partB = true) (hR : partB R = true) : pathB l = true ∧ cutAt 47 l = P ++ [R] := by
  rw [cut_last hR] at h
  refine ⟨?_, h⟩
  unfold pathB
  rw [h, decide_eq_true (by simp; omega)]
  simp [ha, hR]

def inB (n a b : Int) : Bool := decide (a ≤ n ∧ n ≤ b)
theorem inB_true {n a b : Int} (h : a ≤ n ∧ n ≤ b) : inB n a b = true := by unfold inB; rw [decide_eq_true h]
theorem inB_false {n a b : Int} (h : ¬ (a ≤ n ∧ n ≤ b)) : inB n a b = false := by unfold inB; rw [decide_eq_false h]

/-! ### What the walks of PartOK ask -/
theorem partB_no_len {s : ByteArray} (h : ¬ (1 ≤ s.size ∧ s.size ≤ 8)) : partB s.data.toList = false := by
  have := Lib.size_eq s
  unfold partB
  rw [← this, decide_eq_false h]
  rfl
theorem partB_no_dot {s : ByteArray} (h : (s.toList == [46]) = true) : partB s.data.toList = false := by
  rw [Lib.toList_data] at h
  unfold partB
  rw [h]
  simp
theorem partB_no_dots {s : ByteArray} (h : (s.toList == [46, 46]) = true) : partB s.data.toList = false := by
  rw [Lib.toList_data] at h
  unfold partB
  rw [h]
  simp
theorem partB_yes {s : ByteArray} (h : 1 ≤ s.size ∧ s.size ≤ 8) (h1 : (s.toList == [46]) = false) (h2 : (s.toList == [46, 46]) = false) : partB s.data.toList = partAll s.data.toList := by
  have := Lib.size_eq s
  rw [Lib.toList_data] at h1 h2
  unfold partB
  rw [← this, decide_eq_true h, h1, h2]
  rfl
theorem partAll_at (s : ByteArray) (k : Nat) (h : k < s.size) : partAll (s.data.toList.drop k) = (partChar s[k].toNat && partAll (s.data.toList.drop (k + 1))) := by
  rw [drop_cons s k h]
  rfl
theorem part_goes (s : ByteArray) (k : Nat) (h : k < s.size) (hl : 33 ≤ ((Utf8.decode s k).1 : Int)) (hh : ((Utf8.decode s k).1 : Int) ≤ 126) (h47 : ((Utf8.decode s k).1 : Int) ≠ 47) :
    partAll (s.data.toList.drop k) = partAll (s.data.toList.drop (k + (Utf8.decode s k).2)) := by
  have hp : partChar ((Utf8.decode s k).1 : Int) = true := by unfold partChar; simp; omega
  rcases decode_cases s k h with ⟨_, e⟩ | ⟨a, b⟩
  · rw [partAll_at s k h, ← partChar_rune s k h, hp, e]; rfl
  · omega
theorem part_stops (s : ByteArray) (k : Nat) (h : k < s.size) (hl : ((Utf8.decode s k).1 : Int) < 33 ∨ 126 < ((Utf8.decode s k).1 : Int) ∨ ((Utf8.decode s k).1 : Int) = 47) :
    partAll (s.data.toList.drop k) = false := by
  have hp : partChar ((Utf8.decode s k).1 : Int) = false := by unfold partChar; simp; omega
  rw [partAll_at s k h, ← partChar_rune s k h, hp]; rfl

theorem part_goes' (s : ByteArray) (k : Nat) (h : k < s.size) (hl : 33 ≤ (s[k].toNat : Int)) (hh : (s[k].toNat : Int) ≤ 126) (h47 : (s[k].toNat : Int) ≠ 47) :
    partAll (s.data.toList.drop k) = partAll (s.data.toList.drop (k + 1)) := by
  have hp : partChar (s[k].toNat : Int) = true := by unfold partChar; simp; omega
  rw [partAll_at s k h, hp]; rfl
theorem part_stops' (s : ByteArray) (k : Nat) (h : k < s.size) (hl : (s[k].toNat : Int) < 33 ∨ 126 < (s[k].toNat : Int) ∨ (s[k].toNat : Int) = 47) :
    partAll (s.data.toList.drop k) = false := by
  have hp : partChar (s[k].toNat : Int) = false := by unfold partChar; simp; omega
  rw [partAll_at s k h, hp]; rfl

end Go.Proofs.YtibekkfbpmloiaaDoor

/- Parts: what PartOK of the program and of its model answer. -/
namespace Go.Proofs.YtibekkfbpmloiaaDoor.Paths
open Go.RowKit

theorem ret_bool {a b : Bool} (h : a = b) : Ending.returned (.bool a) = .returned (.bool b) := by rw [h]

set_option maxHeartbeats 400000 in
theorem partOK_impl (s : ByteArray) (w : World) : Calls Tryd.prog 51 #[.string s] w fun e w' => e = .returned (.bool (partB s.data.toList)) ∧ Below w.heap.size w w' := by
  by_cases h0 : 1 ≤ s.size ∧ s.size ≤ 8
  · have he := isEmpty_false h0.1
    have hd : decide ((8 : Int) < (s.size : Int)) = false := by simp; omega
    rcases Bool.eq_false_or_eq_true (s.toList == [46]) with h1 | h1
    · rw [partB_no_dot h1]
      go_enter Tryd.func51, Tryd.ntmps51
      go_wp2
      go_ret
      exact ⟨rfl, Below.refl _ _⟩
    rcases Bool.eq_false_or_eq_true (s.toList == [46, 46]) with h2 | h2
    · rw [partB_no_dots h2]
      go_enter Tryd.func51, Tryd.ntmps51
      go_wp2
      go_ret
      exact ⟨rfl, Below.refl _ _⟩
    rw [partB_yes h0 h1 h2]
    go_enter Tryd.func51, Tryd.ntmps51
    go_wp2
    go_loopw [] (fun wr => ∃ pos : Nat, wr.heap[w.heap.size]? = some (.stringIter s pos) ∧ Below w.heap.size w wr ∧ Hid (partAll s.data.toList = partAll (s.data.toList.drop pos))) (fun wr => s.size - wr.iterPos w.heap.size)
    case atStart => exact ⟨0, World.iter_heap w s 0, (Below.refl _ _).alloc (Nat.le_refl _) _, rfl⟩
    case round =>
      obtain ⟨pos, hit, hbw, HS⟩ := hrel
      have hpos0 := iterPos_of hit
      by_cases hp : pos < s.size
      · have hnx : ∀ ty, (Instr.next (.pointer (some ⟨w.heap.size, 0, none⟩)) true ty).run Tryd.prog wr = _ := fun ty => Lib.run_next_any_at wr w.heap.size s pos ty hit hp
        have hwd := width_pos s pos hp
        have hit2 := Lib.iterAt_heap wr w.heap.size s pos (pos + (Utf8.decode s pos).2) hit
        have hbw2 := Lib.below_iterAt hbw (k := w.heap.size) (Nat.le_refl _) s (pos + (Utf8.decode s pos).2)
        obtain ⟨W1, hW1⟩ : ∃ W1, W1 = wr.iterAt w.heap.size s (pos + (Utf8.decode s pos).2) := ⟨_, rfl⟩
        rw [← hW1] at hnx hit2 hbw2
        clear hW1
        go_wp2
        · go_ret
          exact ⟨ret_bool (by rw [HS.out]; exact (part_stops s pos hp (by have h3 := ‹(_ ∨ _) ∨ _›; simp only [beq_iff_eq] at h3; omega)).symm), hbw2⟩
        · exact ⟨⟨_, hit2, hbw2, by show _ = _; rw [HS.out]; have h3 := ‹(_ ∧ _) ∧ _›; simp only [beq_eq_false_iff_ne] at h3; exact part_goes s pos hp h3.1.1 h3.1.2 h3.2⟩, by rw [hpos0, iterPos_of hit2]; omega⟩
        · go_ret
          exact ⟨ret_bool (by rw [HS.out]; exact (part_stops s pos hp (.inr (.inl ‹_›))).symm), hbw2⟩
        · go_ret
          exact ⟨ret_bool (by rw [HS.out]; exact (part_stops s pos hp (.inl ‹_›)).symm), hbw2⟩
      · have hnx : ∀ ty, (Instr.next (.pointer (some ⟨w.heap.size, 0, none⟩)) true ty).run Tryd.prog wr = _ := fun ty => Lib.run_next_end_at wr w.heap.size s pos ty hit hp
        have HE : Hid (partAll s.data.toList = true) := by show _ = _; rw [HS.out, drop_end s pos hp]; rfl
        go_wp2
        go_ret
        exact ⟨ret_bool HE.out.symm, hbw⟩
  · rw [partB_no_len h0]
    by_cases h1 : s.size = 0
    · have he := isEmpty_true h1
      go_enter Tryd.func51, Tryd.ntmps51
      go_wp2
      go_ret
      exact ⟨rfl, Below.refl _ _⟩
    · have he := isEmpty_false (by omega : 0 < s.size)
      have hd : decide ((8 : Int) < (s.size : Int)) = true := by simp; omega
      go_enter Tryd.func51, Tryd.ntmps51
      go_wp2
      go_ret
      exact ⟨rfl, Below.refl _ _⟩

theorem l01In_any (n a b : Int) (w : World) : Calls Tryd.prog 34 #[.int .i64 n, .int .i64 a, .int .i64 b] w fun e w' => e = .returned (.bool (inB n a b)) ∧ w = w' := by
  go_enter Tryd.func34, Tryd.ntmps34
  go_wp2
  all_goals (go_ret; exact ⟨ret_bool (by rw [Bool.eq_iff_iff]; simp [inB]; omega), rfl⟩)

set_option maxHeartbeats 400000 in
theorem l01Part_any (s : ByteArray) (w : World) : Calls Tryd.prog 21 #[.string s] w fun e w' => e = .returned (.bool (partB s.data.toList)) ∧ w = w' := by
  by_cases h0 : 1 ≤ s.size ∧ s.size ≤ 8
  · have hin : inB (s.size : Int) 1 8 = true := inB_true (by omega)
    rcases Bool.eq_false_or_eq_true (s.toList == [46]) with h1 | h1
    · rw [partB_no_dot h1]
      go_enter Tryd.func21, Tryd.ntmps21
      go_wp2_with (first | (go_at_call 34; refine (l01In_any _ _ _ _).mono ?_; rintro e w' ⟨rfl, rfl⟩))
      go_ret
      exact ⟨rfl, rfl⟩
    rcases Bool.eq_false_or_eq_true (s.toList == [46, 46]) with h2 | h2
    · rw [partB_no_dots h2]
      go_enter Tryd.func21, Tryd.ntmps21
      go_wp2_with (first | (go_at_call 34; refine (l01In_any _ _ _ _).mono ?_; rintro e w' ⟨rfl, rfl⟩))
      go_ret
      exact ⟨rfl, rfl⟩
    rw [partB_yes h0 h1 h2]
    go_enter Tryd.func21, Tryd.ntmps21
    go_wp2_with (first | (go_at_call 34; refine (l01In_any _ _ _ _).mono ?_; rintro e w' ⟨rfl, rfl⟩))
    go_loop [3] (fun i => ∃ k : Nat, k ≤ s.size ∧ i = .int .i64 k ∧ Hid (partAll s.data.toList = partAll (s.data.toList.drop k))) (fun i => s.size - (intOf i).toNat)
    case atStart => exact ⟨0, by omega, rfl, rfl⟩
    case round =>
      obtain ⟨k, hk2, rfl, HS⟩ := hrel
      by_cases hlt : k < s.size
      · go_wp2
        · go_ret
          exact ⟨ret_bool (by rw [HS.out]; exact (part_stops' s k hlt (by have h3 := ‹(_ ∨ _) ∨ _›; simp only [beq_iff_eq] at h3; omega)).symm), rfl⟩
        · exact ⟨⟨k + 1, by omega, by go_num, by show _ = _; rw [HS.out]; have h3 := ‹(_ ∧ _) ∧ _›; simp only [beq_eq_false_iff_ne] at h3; exact part_goes' s k hlt h3.1.1 h3.1.2 h3.2⟩, by simp [intOf]; omega⟩
        · go_ret
          exact ⟨ret_bool (by rw [HS.out]; exact (part_stops' s k hlt (.inr (.inl ‹_›))).symm), rfl⟩
        · go_ret
          exact ⟨ret_bool (by rw [HS.out]; exact (part_stops' s k hlt (.inl ‹_›)).symm), rfl⟩
      · have HE : Hid (partAll s.data.toList = true) := by show _ = _; rw [HS.out, drop_end s k hlt]; rfl
        go_wp2
        go_ret
        exact ⟨ret_bool HE.out.symm, rfl⟩
  · rw [partB_no_len h0]
    have hin : inB (s.size : Int) 1 8 = false := inB_false (by omega)
    go_enter Tryd.func21, Tryd.ntmps21
    go_wp2_with (first | (go_at_call 34; refine (l01In_any _ _ _ _).mono ?_; rintro e w' ⟨rfl, rfl⟩))
    go_ret
    exact ⟨rfl, rfl⟩

end Go.Proofs.YtibekkfbpmloiaaDoor.Paths

/- Paths: what splitPath of the program answers. -/
namespace Go.Proofs.YtibekkfbpmloiaaDoor.Paths
open Go.RowKit

theorem strInfo : (Tryd.prog.info? 9).map (fun i => (i.zero, i.size, i.bytes)) = some (some (.string ByteArray.empty), 1, 16) := by kernel_rfl

def strV (l : List UInt8) : Value := .string ⟨l.toArray⟩
theorem strV_data (s : ByteArray) : strV s.data.toList = .string s := rfl
theorem strV_take (s : ByteArray) (k : Nat) : .string (s.extract 0 k) = strV (s.data.toList.take k) := by
  unfold strV
  rw [Lib.extract_eq]
  simp
theorem extract_drop (s : ByteArray) (k : Nat) : (s.extract k s.size).data.toList = s.data.toList.drop k := by
  rw [Lib.extract_data, List.take_of_length_le]
  rw [List.length_drop, ← Lib.size_eq]
  exact Nat.le_refl _
def partsOf (l : List UInt8) : List (List UInt8) := if pathB l then cutAt 47 l else []

/-- What splitPath leaves: its parts in a row of its own, nil where there are none. -/
def SplitPost (l : List UInt8) (w w' : World) (v : Value) : Prop :=
  Below w.heap.size w w' ∧ w'.ownsRow w.heap.size 9 1 v (partsOf l).length ((partsOf l).map strV) ∧ (pathB l = false → v = .slice none 0 0) ∧ (pathB l = true → v ≠ .slice none 0 0)

theorem SplitPost.bad {l : List UInt8} {w w' : World} (h : pathB l = false) (hb : Below w.heap.size w w') : SplitPost l w w' (.slice none 0 0) := by
  refine ⟨hb, ?_, fun _ => rfl, fun h2 => by rw [h] at h2; cases h2⟩
  simp [partsOf, h]
  exact World.ownsRow_nil _ _ _ _

theorem own_form {w : World} {base : Nat} {e : TypeId} {size : Nat} {v : Value} {n : Nat} {xs : List Value} (h : w.ownsRow base e size v n xs) : ∃ A cap, v = .slice A n cap := by
  rcases h.2 with ⟨rfl, rfl⟩ | ⟨g, cap, cur, rfl, _⟩
  · exact ⟨none, 0, rfl⟩
  · exact ⟨_, _, rfl⟩

theorem own_below {w w' : World} {base : Nat} {e : TypeId} {size : Nat} {v : Value} {n : Nat} {xs : List Value} (h : w.ownsRow base e size v n xs) (hb : Below w.heap.size w w') : w'.ownsRow base e size v n xs := by
  obtain ⟨h1, h2⟩ := h
  refine ⟨h1, ?_⟩
  rcases h2 with h2 | ⟨g, cap', cur, a, b, c, d⟩
  · exact .inl h2
  · exact .inr ⟨g, cap', cur, a, b, by rw [hb.block g (Array.getElem?_eq_some_iff.1 c).1]; exact c, d⟩

theorem split_more {l : List UInt8} {P : List (List UInt8)} {R : ByteArray} {pos : Nat} (h : cutAt 47 l = P ++ cutAt 47 R.data.toList) (hp : pos < R.size)
    (h47 : ((Utf8.decode R pos).1 : Int) = 47) (hB : partB (R.data.toList.take pos) = true) : cutAt 47 l = (P ++ [R.data.toList.take pos]) ++ cutAt 47 (R.extract (pos + 1) R.size).data.toList := by
  rw [extract_drop, h, cut_step hp h47 hB]
  simp
theorem split_more_no {l : List UInt8} {P : List (List UInt8)} {R : ByteArray} {pos : Nat} (h : cutAt 47 l = P ++ cutAt 47 R.data.toList) (hp : pos < R.size) (hs : Seen R.data.toList pos)
    (h47 : ((Utf8.decode R pos).1 : Int) = 47) (hB : partB (R.data.toList.take pos) = false) : pathB l = false := by
  exact pathB_bad h (cut_step_no hp hs h47 hB)
theorem split_end_no {l : List UInt8} {P : List (List UInt8)} {R : ByteArray} {pos : Nat} (h : cutAt 47 l = P ++ cutAt 47 R.data.toList) (hp : ¬ pos < R.size) (hs : Seen R.data.toList pos)
    (hB : partB R.data.toList = false) : pathB l = false :=
  pathB_bad h (cut_last_no (k := pos) (by rw [← Lib.size_eq]; omega) hs hB)
theorem SplitPost.good {l : List UInt8} {P : List (List UInt8)} {R : ByteArray} {w w' : World} {v : Value} (h : cutAt 47 l = P ++ cutAt 47 R.data.toList) (hP : P.length < 4) (ha : P.all partB = true) (hB : partB R.data.toList = true)
    (hb : Below w.heap.size w w') (hown : w'.ownsRow w.heap.size 9 1 v (P.length + 1) (P.map strV ++ [.string R])) (hn : v ≠ .slice none 0 0) : SplitPost l w w' v := by
  obtain ⟨h1, h2⟩ := pathB_good h hP ha hB
  refine ⟨hb, ?_, fun h3 => (by rw [h1] at h3; cases h3), fun _ => hn⟩
  unfold partsOf
  rw [if_pos h1, h2]
  simpa [strV_data] using hown

theorem own_iterAt {w : World} {base : Nat} {e : TypeId} {size : Nat} {A : Option Addr} {n cap : Nat} {xs : List Value} (h : w.ownsRow base e size (.slice A n cap) n xs) {k : Nat} (hk : A.map Addr.block ≠ some k) (s : ByteArray) (p : Nat) :
    (w.iterAt k s p).ownsRow base e size (.slice A n cap) n xs := by
  obtain ⟨h1, h2⟩ := h
  refine ⟨h1, ?_⟩
  rcases h2 with h2 | ⟨g, cap', cur, a, b, c, d⟩
  · exact .inl h2
  · refine .inr ⟨g, cap', cur, a, b, ?_, d⟩
    cases a
    rw [Lib.iterAt_other _ _ _ _ _ (fun e => hk (by simp [e]))]
    exact c

set_option maxRecDepth 100000 in
set_option maxHeartbeats 1000000 in
theorem splitPath_any (s : ByteArray) (w : World) (hs : s.size ≤ maxLen) : Calls Tryd.prog 39 #[.string s] w fun e w' => ∃ v, e = .returned v ∧ SplitPost s.data.toList w w' v := by
  obtain ⟨i0, hi, hz0, hz1, hz2⟩ := info_parts strInfo
  unfold maxLen at hs
  go_enter Tryd.func39, Tryd.ntmps39
  go_wp2
  go_step3
  go_wp2
  go_step3
  go_wp2
  go_loopg [3, 4] 4 (fun g v r wr => ∃ (P : List (List UInt8)) (R : ByteArray), r = .string R ∧ P.length + g = 4 ∧ P.all partB = true ∧ Hid (cutAt 47 s.data.toList = P ++ cutAt 47 R.data.toList) ∧ wr.ownsRow w.heap.size 9 1 v P.length (P.map strV) ∧ Below w.heap.size w wr ∧ R.size ≤ s.size)
  case atStart => exact ⟨[], s, rfl, rfl, rfl, rfl, World.ownsRow_nil _ _ _ _, Below.refl _ _, Nat.le_refl _⟩
  case round =>
    obtain ⟨P, R, rfl, hP4, hPa, HC, hown, hbw, hRs⟩ := hrel
    obtain ⟨A, cap, rfl⟩ := own_form hown
    cases gk with
    | zero =>
      have hd : decide ((P.length : Int) < 4) = false := by simp; omega
      have HB : Hid (pathB s.data.toList = false) := pathB_many HC.out (by omega)
      go_wp2
      rw [Exit.noGoto_ret]
      go_ret
      exact ⟨_, rfl, SplitPost.bad HB.out hbw⟩
    | succ g =>
      have hd : decide ((P.length : Int) < 4) = true := by simp; omega
      generalize hwo : wr = wo at *
      clear hwo wr
      have hwl := hbw.size
      go_wp2
      go_loopw [3, 4] (fun v3 v4 wx => v3 = .slice A P.length cap ∧ v4 = .string R ∧ ∃ pos : Nat, wx.heap[wo.heap.size]? = some (.stringIter R pos) ∧ Below w.heap.size w wx ∧ wx.ownsRow w.heap.size 9 1 (.slice A P.length cap) P.length (P.map strV) ∧ Seen R.data.toList pos ∧ Hid (A.map Addr.block ≠ some wo.heap.size)) (fun _ _ wx => R.size - wx.iterPos wo.heap.size)
      case atStart => exact ⟨rfl, rfl, 0, World.iter_heap wo R 0, hbw.alloc hbw.size _, hown.alloc _, Seen.zero _, fun h => by have := (hown.lt wo.heap.size (by cases A <;> simp_all [Value.ownBlock])).2; omega⟩
      case round =>
        obtain ⟨rfl, rfl, pos, hit, hbx, hownx, hseen, HA⟩ := hrel
        have hpos0 := iterPos_of hit
        by_cases hp : pos < R.size
        · have hnx : ∀ ty, (Instr.next (.pointer (some ⟨wo.heap.size, 0, none⟩)) true ty).run Tryd.prog wr = _ := fun ty => Lib.run_next_any_at wr wo.heap.size R pos ty hit hp
          have hwd := width_pos R pos hp
          have hit2 := Lib.iterAt_heap wr wo.heap.size R pos (pos + (Utf8.decode R pos).2) hit
          have hbw2 := Lib.below_iterAt hbx (k := wo.heap.size) hwl R (pos + (Utf8.decode R pos).2)
          have hown2 : (wr.iterAt wo.heap.size R (pos + (Utf8.decode R pos).2)).ownsRow w.heap.size 9 1 (.slice A P.length cap) P.length (P.map strV) := own_iterAt hownx HA.out R _
          obtain ⟨W1, hW1⟩ : ∃ W1, W1 = wr.iterAt wo.heap.size R (pos + (Utf8.decode R pos).2) := ⟨_, rfl⟩
          rw [← hW1] at hnx hit2 hbw2 hown2
          clear hW1 hbw hown
          rcases Bool.eq_false_or_eq_true (((Utf8.decode R pos).1 : Int) != 47) with h47 | h47
          · have Hs := Lib.hid (hseen.next hp (by simpa using h47))
            clear hseen
            go_wp2
            go_roundw
            case rel => exact ⟨rfl, rfl, _, hit2, hbw2, hown2, Hs.out, HA⟩
            case measure => rw [hpos0, iterPos_of hit2]; omega
          · have H47 : Hid (((Utf8.decode R pos).1 : Int) = 47) := by show _ = _; simpa using h47
            rcases Bool.eq_false_or_eq_true (partB (R.data.toList.take pos)) with hB | hB
            · have HM := Lib.hid (split_more HC.out hp H47.out hB)
              have HB := Lib.hid hB
              clear hseen
              go_wp2_with fail
              refine (partOK_impl _ _).mono ?_
              rintro e w2 ⟨rfl, hb2⟩
              have hown3 := own_below hown2 hb2
              have hbw3 := hbw2.trans (hb2.mono hbw2.size)
              have hs3 := hbw3.size
              go_wp2_with (first
                | (at_builtin; refine wpList_append_own _ rfl _ _ 49 rfl w.heap.size 9 i0 (.string ByteArray.empty) 1 16 Tryd.underlying49 hi hz0 hz1 hz2 rfl (by decide) _ _ _ rfl (hown3.alloc _) ⟨w2.heap.size, 0, none⟩ 1 1 [.string (R.extract 0 pos)] rfl rfl (cell_one_new _ _ _) (fun x hx => by simp at hx; subst hx; rfl) (by unfold maxLen; omega) (by omega) (by simp; omega) ?_; intro v' w3 hown' hgrow3 hnil3))
              go_roundg g
              case measure => omega
              case rel =>
                refine ⟨P ++ [R.data.toList.take pos], _, rfl, by simp; omega, by simp [hPa, HB.out], HM.out, ?_, (hbw3.alloc hbw3.size _).grown hgrow3 (by simp; omega) (fun q hq => (hown3.lt q hq).1), by simp; omega⟩
                simpa [strV_take] using hown'
            · have HB := Lib.hid (split_more_no HC.out hp hseen H47.out hB)
              clear hseen
              go_wp2_with fail
              refine (partOK_impl _ _).mono ?_
              rintro e w2 ⟨rfl, hb2⟩
              go_wp2
              rw [Exit.noGoto_ret]
              go_ret
              exact ⟨_, rfl, SplitPost.bad HB.out (hbw2.trans (hb2.mono hbw2.size))⟩
        · have hnx : ∀ ty, (Instr.next (.pointer (some ⟨wo.heap.size, 0, none⟩)) true ty).run Tryd.prog wr = _ := fun ty => Lib.run_next_end_at wr wo.heap.size R pos ty hit hp
          clear hbw hown
          rcases Bool.eq_false_or_eq_true (partB R.data.toList) with hB | hB
          · have HB := Lib.hid hB
            clear hseen
            go_wp2_with fail
            refine (partOK_impl _ _).mono ?_
            rintro e w2 ⟨rfl, hb2⟩
            have hown3 := own_below hownx hb2
            have hbw3 := hbx.trans (hb2.mono hbx.size)
            have hs3 := hbw3.size
            go_wp2_with (first
              | (at_builtin; refine wpList_append_own _ rfl _ _ 49 rfl w.heap.size 9 i0 (.string ByteArray.empty) 1 16 Tryd.underlying49 hi hz0 hz1 hz2 rfl (by decide) _ _ _ rfl (hown3.alloc _) ⟨w2.heap.size, 0, none⟩ 1 1 [.string R] rfl rfl (cell_one_new _ _ _) (fun x hx => by simp at hx; subst hx; rfl) (by unfold maxLen; omega) (by omega) (by simp; omega) ?_; intro v' w3 hown' hgrow3 hnil3))
            rw [Exit.noGoto_ret]
            go_ret
            exact ⟨_, rfl, SplitPost.good HC.out (by omega) hPa HB.out ((hbw3.alloc hbw3.size _).grown hgrow3 (by simp; omega) (fun q hq => (hown3.lt q hq).1)) hown' (fun h => by have := (hnil3.1 h).2; omega)⟩
          · have HB := Lib.hid (split_end_no HC.out hp hseen hB)
            clear hseen
            go_wp2_with fail
            refine (partOK_impl _ _).mono ?_
            rintro e w2 ⟨rfl, hb2⟩
            go_wp2
            rw [Exit.noGoto_ret]
            go_ret
            exact ⟨_, rfl, SplitPost.bad HB.out (hbx.trans (hb2.mono hbx.size))⟩
end Go.Proofs.YtibekkfbpmloiaaDoor.Paths

/- Plain facts on lists of bytes: a list cut at a sign, step by step. -/
namespace Go.Proofs.YtibekkfbpmloiaaDoor

/-- From place f up to k no byte is c. -/
def Gap (l : List UInt8) (c : UInt8) (f k : Nat) : Prop := ∀ d ∈ (l.drop f).take (k - f), d ≠ c
theorem Gap.refl (l : List UInt8) (c : UInt8) (f : Nat) : Gap l c f f := by unfold Gap; simp

theorem gap_snoc (s : ByteArray) {f k : Nat} (hf : f ≤ k) (hk : k < s.size) : (s.data.toList.drop f).take (k + 1 - f) = (s.data.toList.drop f).take (k - f) ++ [s[k]] := by
  have hl : k < s.data.toList.length := by rw [← Lib.size_eq]; exact hk
  rw [show k + 1 - f = (k - f) + 1 by omega, List.take_succ_eq_append_getElem (by rw [List.length_drop]; omega)]
  congr 2
  rw [List.getElem_drop]
  simp only [show f + (k - f) = k by omega]
  rfl
theorem Gap.next {s : ByteArray} {c : UInt8} {f k : Nat} (h : Gap s.data.toList c f k) (hf : f ≤ k) (hk : k < s.size) (hne : s[k] ≠ c) : Gap s.data.toList c f (k + 1) := by
  unfold Gap
  rw [gap_snoc s hf hk]
  intro d hd
  rcases List.mem_append.1 hd with hd | hd
  · exact h d hd
  · simp at hd; subst hd; exact hne
theorem Gap.cut {s : ByteArray} {c : UInt8} {f k : Nat} (h : Gap s.data.toList c f k) (hf : f ≤ k) (hk : k < s.size) (he : s[k] = c) :
    cutAt c (s.data.toList.drop f) = (s.data.toList.drop f).take (k - f) :: cutAt c (s.data.toList.drop (k + 1)) := by
  have e : s.data.toList.drop f = (s.data.toList.drop f).take (k - f) ++ c :: s.data.toList.drop (k + 1) := by
    conv => lhs; rw [← List.take_append_drop (k - f) (s.data.toList.drop f)]
    rw [List.drop_drop, show f + (k - f) = k by omega, drop_cons s k hk, he]
  have := cutAt_at (s.data.toList.drop (k + 1)) h
  rw [← e] at this
  exact this
theorem Gap.last {s : ByteArray} {c : UInt8} {f k : Nat} (h : Gap s.data.toList c f k) (hk : ¬ k < s.size) : cutAt c (s.data.toList.drop f) = [s.data.toList.drop f] := by
  apply cutAt_clean
  unfold Gap at h
  rw [List.take_of_length_le (by rw [List.length_drop, ← Lib.size_eq]; omega)] at h
  exact h

theorem cutAt_sum (x : UInt8) (l : List UInt8) : ((cutAt x l).map List.length).sum + (cutAt x l).length = l.length + 1 := by
  induction l with
  | nil => rfl
  | cons c r ih =>
    simp only [cutAt]
    split
    · simp; omega
    · split
      · rename_i h; exact absurd h (cutAt_ne x r)
      · rename_i h; rw [h] at ih; simp at ih ⊢; omega
theorem sum_le {L : List (List UInt8)} (h : L.all partB = true) : (L.map List.length).sum ≤ 8 * L.length := by
  induction L with
  | nil => simp
  | cons a r ih =>
    simp only [List.all_cons, Bool.and_eq_true] at h
    have := partB_len h.1
    have := ih h.2
    simp
    omega
/-- A path has at most 35 bytes. -/
theorem pathB_len {l : List UInt8} (h : pathB l = true) : l.length ≤ 35 := by
  unfold pathB at h
  simp only [Bool.and_eq_true, decide_eq_true_eq] at h
  have := cutAt_sum 47 l
  have := sum_le h.2
  omega
theorem pathB_long {s : ByteArray} (h : 36 < s.size) : pathB s.data.toList = false := by
  rw [Bool.eq_false_iff]
  intro hp
  have := pathB_len hp
  rw [← Lib.size_eq] at this
  omega
theorem pathB_ne {l : List UInt8} (h : pathB l = true) : l ≠ [] := by
  rintro rfl
  revert h
  decide

end Go.Proofs.YtibekkfbpmloiaaDoor
