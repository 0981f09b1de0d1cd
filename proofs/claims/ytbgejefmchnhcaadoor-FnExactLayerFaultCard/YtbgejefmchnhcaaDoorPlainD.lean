/- Plain facts on lists of bytes: parents, joined paths, the order of paths, what is below a path. -/
import Derived.Test.YtbgejefmchnhcaaDoorPlainC
import Derived.Lib.Join
namespace Go.Proofs.YtbgejefmchnhcaaDoor

theorem cutAt_append (x : UInt8) (a b : List UInt8) : cutAt x (a ++ x :: b) = cutAt x a ++ cutAt x b := by
  induction a with
  | nil => simp [cutAt]
  | cons c r ih =>
    simp only [List.cons_append, cutAt, ih]
    split
    · rfl
    · have := cutAt_ne x r
      cases h : cutAt x r with
      | nil => exact absurd h this
      | cons h t => rfl

theorem join_two (x y : List UInt8) (r : List (List UInt8)) : Lib.join (x :: y :: r) [47] = x ++ 47 :: Lib.join (y :: r) [47] := by
  rw [Lib.join_cons, Lib.join_cons]
  simp [Lib.joinTail]
theorem join_cut (l : List UInt8) : Lib.join (cutAt 47 l) [47] = l := by
  induction l with
  | nil => rfl
  | cons c r ih =>
    simp only [cutAt]
    have hne := cutAt_ne 47 r
    cases h : cutAt 47 r with
    | nil => exact absurd h hne
    | cons a t =>
      rw [h] at ih
      split
      · rename_i hc
        rw [join_two, ih, hc]
        rfl
      · show Lib.join ((c :: a) :: t) [47] = c :: r
        rw [Lib.join_cons] at ih ⊢
        rw [List.cons_append, ih]
theorem join_snoc (A : List (List UInt8)) (h : A ≠ []) (b : List UInt8) : Lib.join (A ++ [b]) [47] = Lib.join A [47] ++ 47 :: b := by
  cases A with
  | nil => exact absurd rfl h
  | cons a t =>
    rw [List.cons_append, Lib.join_cons, Lib.join_cons]
    simp [Lib.joinTail]
theorem join_append (A B : List (List UInt8)) (hA : A ≠ []) (hB : B ≠ []) : Lib.join (A ++ B) [47] = Lib.join A [47] ++ 47 :: Lib.join B [47] := by
  cases A with
  | nil => exact absurd rfl hA
  | cons a t =>
    cases B with
    | nil => exact absurd rfl hB
    | cons b s =>
      rw [List.cons_append, Lib.join_cons, Lib.join_cons, Lib.join_cons]
      simp [Lib.joinTail]

/-- A path without its last part. -/
def parentL (l : List UInt8) : List UInt8 := Lib.join (cutAt 47 l).dropLast [47]
theorem parent_at (a b : List UInt8) (hb : ∀ c ∈ b, c ≠ 47) : parentL (a ++ 47 :: b) = a := by
  unfold parentL
  rw [cutAt_append, cutAt_clean hb, List.dropLast_concat, join_cut]
theorem parent_none (l : List UInt8) (h : ∀ c ∈ l, c ≠ 47) : parentL l = [] := by
  unfold parentL
  rw [cutAt_clean h]
  rfl
/-- From place k on no byte is 47. -/
def Clear (l : List UInt8) (k : Nat) : Prop := ∀ c ∈ l.drop k, c ≠ 47
theorem Clear.start (s : ByteArray) : Clear s.data.toList s.size := by
  unfold Clear
  rw [drop_end s s.size (by omega)]
  simp
theorem Clear.down {s : ByteArray} {k : Nat} (hk : k < s.size) (h : Clear s.data.toList (k + 1)) (hne : s[k] ≠ 47) : Clear s.data.toList k := by
  unfold Clear
  rw [drop_cons s k hk]
  intro c hc
  rcases List.mem_cons.1 hc with rfl | hc
  · exact hne
  · exact h c hc
theorem Clear.hit {s : ByteArray} {k : Nat} (hk : k < s.size) (h : Clear s.data.toList (k + 1)) (he : s[k] = 47) : parentL s.data.toList = s.data.toList.take k := by
  have e : s.data.toList = s.data.toList.take k ++ 47 :: s.data.toList.drop (k + 1) := by
    conv => lhs; rw [← List.take_append_drop k s.data.toList]
    rw [drop_cons s k hk, he]
  have := parent_at (s.data.toList.take k) (s.data.toList.drop (k + 1)) h
  rw [← e] at this
  exact this
theorem Clear.none {s : ByteArray} (h : Clear s.data.toList 0) : parentL s.data.toList = [] := parent_none _ (by simpa [Clear] using h)

/-! ### A path and one part more -/
theorem cut_join {d p : List UInt8} (hp : partB p = true) : cutAt 47 (d ++ 47 :: p) = cutAt 47 d ++ [p] := by
  rw [cutAt_append, cut_last hp]
theorem pathB_parts {l : List UInt8} (h : pathB l = true) : (cutAt 47 l).length ≤ 4 ∧ (cutAt 47 l).all partB = true := by
  unfold pathB at h
  simp only [Bool.and_eq_true, decide_eq_true_eq] at h
  exact h
theorem pathB_join {d p : List UInt8} (hd : pathB d = true) (hp : partB p = true) (hl : (cutAt 47 d).length < 4) : pathB (d ++ 47 :: p) = true := by
  unfold pathB
  rw [cut_join hp, decide_eq_true (by simp; omega)]
  simp [(pathB_parts hd).2, hp]
theorem pathB_join_no {d p : List UInt8} (hp : partB p = true) (hl : (cutAt 47 d).length = 4) : pathB (d ++ 47 :: p) = false := by
  unfold pathB
  rw [cut_join hp, decide_eq_false (by simp; omega)]
  rfl
theorem pathB_part {p : List UInt8} (hp : partB p = true) : pathB p = true := by
  unfold pathB
  rw [cut_last hp]
  simp [hp]

/-! ### The order of paths -/
def lessP : List (List UInt8) → List (List UInt8) → Bool
  | [], [] => false
  | [], _ :: _ => true
  | _ :: _, [] => false
  | a :: A, b :: B => if a = b then lessP A B else Op.bytesLess a b
def cmpP : List (List UInt8) → List (List UInt8) → Int
  | [], [] => 0
  | [], _ :: _ => -1
  | _ :: _, [] => 1
  | a :: A, b :: B => if Op.bytesLess a b then -1 else if a = b then cmpP A B else 1
theorem bytesLess_irrefl (a : List UInt8) : Op.bytesLess a a = false := by
  induction a with
  | nil => rfl
  | cons c r ih => simp [Op.bytesLess, ih]
theorem less_cmp : ∀ A B : List (List UInt8), decide (cmpP A B < 0) = lessP A B
  | [], [] => rfl
  | [], _ :: _ => rfl
  | _ :: _, [] => rfl
  | a :: A, b :: B => by
    by_cases h : a = b
    · subst h
      have e1 : cmpP (a :: A) (a :: B) = cmpP A B := by simp [cmpP, bytesLess_irrefl]
      have e2 : lessP (a :: A) (a :: B) = lessP A B := by simp [lessP]
      rw [e1, e2]
      exact less_cmp A B
    · have e2 : lessP (a :: A) (b :: B) = Op.bytesLess a b := by simp [lessP, h]
      have e1 : cmpP (a :: A) (b :: B) = if Op.bytesLess a b then -1 else 1 := by simp [cmpP, h]
      rw [e1, e2]
      cases Op.bytesLess a b <;> rfl
theorem lessP_drop {A B : List (List UInt8)} {k : Nat} (ha : k < A.length) (hb : k < B.length) :
    lessP (A.drop k) (B.drop k) = if A[k] = B[k] then lessP (A.drop (k + 1)) (B.drop (k + 1)) else Op.bytesLess A[k] B[k] := by
  rw [List.drop_eq_getElem_cons ha, List.drop_eq_getElem_cons hb]
  rfl
theorem cmpP_drop {A B : List (List UInt8)} {k : Nat} (ha : k < A.length) (hb : k < B.length) :
    cmpP (A.drop k) (B.drop k) = if Op.bytesLess A[k] B[k] then -1 else if A[k] = B[k] then cmpP (A.drop (k + 1)) (B.drop (k + 1)) else 1 := by
  rw [List.drop_eq_getElem_cons ha, List.drop_eq_getElem_cons hb]
  rfl
theorem lessP_end {A B : List (List UInt8)} {k : Nat} (h : ¬ (k < A.length ∧ k < B.length)) (ha : k ≤ A.length) (hb : k ≤ B.length) : lessP (A.drop k) (B.drop k) = decide (A.length < B.length) := by
  by_cases h1 : k < A.length
  · have : k = B.length := by omega
    rw [List.drop_eq_getElem_cons h1, List.drop_of_length_le (l := B) (by omega), decide_eq_false (by omega)]
    rfl
  · rw [List.drop_of_length_le (l := A) (by omega)]
    by_cases h2 : k < B.length
    · rw [List.drop_eq_getElem_cons h2, decide_eq_true (by omega)]
      rfl
    · rw [List.drop_of_length_le (l := B) (by omega), decide_eq_false (by omega)]
      rfl
theorem cmpP_nilL {A B : List (List UInt8)} {k : Nat} (ha : k = A.length) (hb : k ≤ B.length) : cmpP (A.drop k) (B.drop k) = if A.length < B.length then -1 else 0 := by
  rw [List.drop_of_length_le (l := A) (by omega)]
  by_cases h2 : k < B.length
  · rw [List.drop_eq_getElem_cons h2, if_pos (by omega)]
    rfl
  · rw [List.drop_of_length_le (l := B) (by omega), if_neg (by omega)]
    rfl
theorem cmpP_nilR {A B : List (List UInt8)} {k : Nat} (ha : k < A.length) (hb : B.length ≤ k) : cmpP (A.drop k) (B.drop k) = 1 := by
  rw [List.drop_eq_getElem_cons ha, List.drop_of_length_le (l := B) hb]
  rfl

/-! ### Below a path -/
def belowP (A B : List (List UInt8)) : Bool := decide (B.length < A.length) && (A.take B.length == B)
def belowL (a b : List UInt8) : Bool := decide (b.length < a.length) && (a.take b.length == b) && (a.drop b.length).head? == some 47
theorem below_cut (a b : List UInt8) : belowP (cutAt 47 a) (cutAt 47 b) = belowL a b := by
  rw [Bool.eq_iff_iff]
  unfold belowP belowL
  simp only [Bool.and_eq_true, decide_eq_true_eq, beq_iff_eq]
  constructor
  · rintro ⟨hl, ht⟩
    have e : cutAt 47 a = cutAt 47 b ++ (cutAt 47 a).drop (cutAt 47 b).length := by
      conv => lhs; rw [← List.take_append_drop (cutAt 47 b).length (cutAt 47 a), ht]
    have hC : (cutAt 47 a).drop (cutAt 47 b).length ≠ [] := by
      intro h
      have := congrArg List.length h
      simp at this
      omega
    have e2 := join_append _ _ (cutAt_ne 47 b) hC
    rw [← e, join_cut, join_cut] at e2
    rw [e2]
    simp
  · rintro ⟨⟨hl, ht⟩, hh⟩
    cases hd : a.drop b.length with
    | nil => rw [hd] at hh; cases hh
    | cons c r =>
      rw [hd] at hh
      simp at hh
      subst hh
      have e : a = b ++ 47 :: r := by
        conv => lhs; rw [← List.take_append_drop b.length a, ht, hd]
      have e2 := cutAt_append 47 b r
      rw [← e] at e2
      have := cutAt_pos 47 r
      rw [e2]
      simp
      omega

end Go.Proofs.YtbgejefmchnhcaaDoor
