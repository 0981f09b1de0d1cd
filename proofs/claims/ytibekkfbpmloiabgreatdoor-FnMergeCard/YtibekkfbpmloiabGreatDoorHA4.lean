/- Parts of several texts of mine in one file (each begins with its own remark). -/
import Derived.Test.YtibekkfbpmloiabGreatDoorHA1
import Derived.Test.YtibekkfbpmloiabGreatDoorHA2
import Derived.Test.YtibekkfbpmloiabGreatDoorHA3
import Derived.Test.YtibekkfbpmloiabGreatDoorChecked
import Derived.Lib.Join
import Derived.WalkKit
import Derived.Lib.Strings
import Derived.Deep.Slices
import Derived.OpenShut
import Derived.ShutString
import Derived.ChangeArms
import Derived.WideShapes
import Derived.Lib.LaidTab
import Derived.BigQuiet
import Derived.Deep.QuietTactic
import Derived.Deep.RegionHeld3
import Derived.StillTailTactics
import Derived.Deep.Draws
import Derived.Deep.LoopGhost
import Derived.WalkSpells
import Derived.WalkSmall
import Derived.Lib.OthersKept
import Derived.Lib.Hide
/- Plain facts on lists of bytes: parents, joined paths, the order of paths, what is below a path. -/
namespace Go.Proofs.YtibekkfbpmloiabGreatDoor

theorem cutAt_append (x : UInt8) (a b : List UInt8) : cutAt x (a ++ x :: b) = cutAt x a ++ cutAt x b := by
  induction a with
  | nil => simp [cutAt]
  | cons c r ih =>
    simp only [List.cons_append, cutAt, ih]
    split
    · rfl
    · have := cutAt_ne x r
      cases h : cutAt x r with
      | nil => exact absurd h this
      | cons h t => rfl

theorem join_two (x y : List UInt8) (r : List (List UInt8)) : Lib.join (x :: y :: r) [47] = x ++ 47 :: Lib.join (y :: r) [47] := by
  rw [Lib.join_cons, Lib.join_cons]
  simp [Lib.joinTail]
theorem join_cut (l : List UInt8) : Lib.join (cutAt 47 l) [47] = l := by
  induction l with
  | nil => rfl
  | cons c r ih =>
    simp only [cutAt]
    have hne := cutAt_ne 47 r
    cases h : cutAt 47 r with
    | nil => exact absurd h hne
    | cons a t =>
      rw [h] at ih
      split
      · rename_i hc
        rw [join_two, ih, hc]
        rfl
      · show Lib.join ((c :: a) :: t) [47] = c :: r
        rw [Lib.join_cons] at ih ⊢
        rw [List.cons_append, ih]
theorem join_snoc (A : List (List UInt8)) (h : A ≠ []) (b : List UInt8) : Lib.join (A ++ [b]) [47] = Lib.join A [47] ++ 47 :: b := by
  cases A with
  | nil => exact absurd rfl h
  | cons a t =>
    rw [List.cons_append, Lib.join_cons, Lib.join_cons]
    simp [Lib.joinTail]
theorem join_append (A B : List (List UInt8)) (hA : A ≠ []) (hB : B ≠ []) : Lib.join (A ++ B) [47] = Lib.join A [47] ++ 47 :: Lib.join B [47] := by
  cases A with
  | nil => exact absurd rfl hA
  | cons a t =>
    cases B with
    | nil => exact absurd rfl hB
    | cons b s =>
      rw [List.cons_append, Lib.join_cons, Lib.join_cons, Lib.join_cons]
      simp [Lib.joinTail]

/-- A path without its last part. -/
def parentL (l : List UInt8) : List UInt8 := Lib.join (cutAt 47 l).dropLast [47]
theorem parent_at (a b : List UInt8) (hb : ∀ c ∈ b, c ≠ 47) : parentL (a ++ 47 :: b) = a := by
  unfold parentL
  rw [cutAt_append, cutAt_clean hb, List.dropLast_concat, join_cut]
theorem parent_none (l : List UInt8) (h : ∀ c ∈ l, c ≠ 47) : parentL l = [] := by
  unfold parentL
  rw [cutAt_clean h]
  rfl
/-- From place k on no byte is 47. -/
def Clear (l : List UInt8) (k : Nat) : Prop := ∀ c ∈ l.drop k, c ≠ 47
theorem Clear.start (s : ByteArray) : Clear s.data.toList s.size := by
  unfold Clear
  rw [drop_end s s.size (by omega)]
  simp
theorem Clear.down {s : ByteArray} {k : Nat} (hk : k < s.size) (h : Clear s.data.toList (k + 1)) (hne : s[k] ≠ 47) : Clear s.data.toList k := by
  unfold Clear
  rw [drop_cons s k hk]
  intro c hc
  rcases List.mem_cons.1 hc with rfl | hc
  · exact hne
  · exact h c hc
theorem Clear.hit {s : ByteArray} {k : Nat} (hk : k < s.size) (h : Clear s.data.toList (k + 1)) (he : s[k] = 47) : parentL s.data.toList = s.data.toList.take k := by
  have e : s.data.toList = s.data.toList.take k ++ 47 :: s.data.toList.drop (k + 1) := by
    conv => lhs; rw [← List.take_append_drop k s.data.toList]
    rw [drop_cons s k hk, he]
  have := parent_at (s.data.toList.take k) (s.data.toList.drop (k + 1)) h
  rw [← e] at this
  exact this
theorem Clear.none {s : ByteArray} (h : Clear s.data.toList 0) : parentL s.data.toList = [] := parent_none _ (by simpa [Clear] using h)

/-! ### A path and one part more -/
theorem cut_join {d p : List UInt8} (hp : partB p = true) : cutAt 47 (d ++ 47 :: p) = cutAt 47 d ++ [p] := by
  rw [cutAt_append, cut_last hp]
theorem pathB_parts {l : List UInt8} (h : pathB l = true) : (cutAt 47 l).length ≤ 4 ∧ (cutAt 47 l).all partB = true := by
  unfold pathB at h
  simp only [Bool.and_eq_true, decide_eq_true_eq] at h
  exact h
theorem pathB_join {d p : List UInt8} (hd : pathB d = true) (hp : partB p = true) (hl : (cutAt 47 d).length < 4) : pathB (d ++ 47 :: p) = true := by
  unfold pathB
  rw [cut_join hp, decide_eq_true (by simp; omega)]
  simp [(pathB_parts hd).2, hp]
theorem pathB_part {p : List UInt8} (hp : partB p = true) : pathB p = true := by
  unfold pathB
  rw [cut_last hp]
  simp [hp]

/-! ### The order of paths -/
def lessP : List (List UInt8) → List (List UInt8) → Bool
  | [], [] => false
  | [], _ :: _ => true
  | _ :: _, [] => false
  | a :: A, b :: B => if a = b then lessP A B else Op.bytesLess a b
def cmpP : List (List UInt8) → List (List UInt8) → Int
  | [], [] => 0
  | [], _ :: _ => -1
  | _ :: _, [] => 1
  | a :: A, b :: B => if Op.bytesLess a b then -1 else if a = b then cmpP A B else 1
theorem bytesLess_irrefl (a : List UInt8) : Op.bytesLess a a = false := by
  induction a with
  | nil => rfl
  | cons c r ih => simp [Op.bytesLess, ih]
theorem less_cmp : ∀ A B : List (List UInt8), decide (cmpP A B < 0) = lessP A B
  | [], [] => rfl
  | [], _ :: _ => rfl
  | _ :: _, [] => rfl
  | a :: A, b :: B => by
    by_cases h : a = b
    · subst h
      have e1 : cmpP (a :: A) (a :: B) = cmpP A B := by simp [cmpP, bytesLess_irrefl]
      have e2 : lessP (a :: A) (a :: B) = lessP A B := by simp [lessP]
      rw [e1, e2]
      exact less_cmp A B
    · have e2 : lessP (a :: A) (b :: B) = Op.bytesLess a b := by simp [lessP, h]
      have e1 : cmpP (a :: A) (b :: B) = if Op.bytesLess a b then -1 else 1 := by simp [cmpP, h]
      rw [e1, e2]
      cases Op.bytesLess a b <;> rfl
theorem lessP_drop {A B : List (List UInt8)} {k : Nat} (ha : k < A.length) (hb : k < B.length) :
    lessP (A.drop k) (B.drop k) = if A[k] = B[k] then lessP (A.drop (k + 1)) (B.drop (k + 1)) else Op.bytesLess A[k] B[k] := by
  rw [List.drop_eq_getElem_cons ha, List.drop_eq_getElem_cons hb]
  rfl
theorem cmpP_drop {A B : List (List UInt8)} {k : Nat} (ha : k < A.length) (hb : k < B.length) :
    cmpP (A.drop k) (B.drop k) = if Op.bytesLess A[k] B[k] then -1 else if A[k] = B[k] then cmpP (A.drop (k + 1)) (B.drop (k + 1)) else 1 := by
  rw [List.drop_eq_getElem_cons ha, List.drop_eq_getElem_cons hb]
  rfl
theorem lessP_end {A B : List (List UInt8)} {k : Nat} (h : ¬ (k < A.length ∧ k < B.length)) (ha : k ≤ A.length) (hb : k ≤ B.length) : lessP (A.drop k) (B.drop k) = decide (A.length < B.length) := by
  by_cases h1 : k < A.length
  · have : k = B.length := by omega
    rw [List.drop_eq_getElem_cons h1, List.drop_of_length_le (l := B) (by omega), decide_eq_false (by omega)]
    rfl
  · rw [List.drop_of_length_le (l := A) (by omega)]
    by_cases h2 : k < B.length
    · rw [List.drop_eq_getElem_cons h2, decide_eq_true (by omega)]
      rfl
    · rw [List.drop_of_length_le (l := B) (by omega), decide_eq_false (by omega)]
      rfl
theorem cmpP_nilL {A B : List (List UInt8)} {k : Nat} (ha : k = A.length) (hb : k ≤ B.length) : cmpP (A.drop k) (B.drop k) = if A.length < B.length then -1 else 0 := by
  rw [List.drop_of_length_le (l := A) (by omega)]
  by_cases h2 : k < B.length
  · rw [List.drop_eq_getElem_cons h2, if_pos (by omega)]
    rfl
  · rw [List.drop_of_length_le (l := B) (by omega), if_neg (by omega)]
    rfl
theorem cmpP_nilR {A B : List (List UInt8)} {k : Nat} (ha : k < A.length) (hb : B.length ≤ k) : cmpP (A.drop k) (B.drop k) = 1 := by
  rw [List.drop_eq_getElem_cons ha, List.drop_of_length_le (l := B) hb]
  rfl

/-! ### Below a path -/
def belowP (A B : List (List UInt8)) : Bool := decide (B.length < A.length) && (A.take B.length == B)
def belowL (a b : List UInt8) : Bool := decide (b.length < a.length) && (a.take b.length == b) && (a.drop b.length).head? == some 47
theorem below_cut (a b : List UInt8) : belowP (cutAt 47 a) (cutAt 47 b) = belowL a b := by
  rw [Bool.eq_iff_iff]
  unfold belowP belowL
  simp only [Bool.and_eq_true, decide_eq_true_eq, beq_iff_eq]
  constructor
  · rintro ⟨hl, ht⟩
    have e : cutAt 47 a = cutAt 47 b ++ (cutAt 47 a).drop (cutAt 47 b).length := by
      conv => lhs; rw [← List.take_append_drop (cutAt 47 b).length (cutAt 47 a), ht]
    have hC : (cutAt 47 a).drop (cutAt 47 b).length ≠ [] := by
      intro h
      have := congrArg List.length h
      simp at this
      omega
    have e2 := join_append _ _ (cutAt_ne 47 b) hC
    rw [← e, join_cut, join_cut] at e2
    rw [e2]
    simp
  · rintro ⟨⟨hl, ht⟩, hh⟩
    cases hd : a.drop b.length with
    | nil => rw [hd] at hh; cases hh
    | cons c r =>
      rw [hd] at hh
      simp at hh
      subst hh
      have e : a = b ++ 47 :: r := by
        conv => lhs; rw [← List.take_append_drop b.length a, ht, hd]
      have e2 := cutAt_append 47 b r
      rw [← e] at e2
      have := cutAt_pos 47 r
      rw [e2]
      simp
      omega

end Go.Proofs.YtibekkfbpmloiabGreatDoor

/- Layers as plain lists of records: the place of a path, the first fault, what lies under an opaque directory, the canonical form. -/
namespace Go.Proofs.YtibekkfbpmloiabGreatDoor.Recs
open Go.RowKit Paths

/-- The place of the first record of a path, counted from n on; -1 of none. -/
def atFrom : List R → Nat → ByteArray → Int
  | [], _, _ => -1
  | r :: t, n, q => if r.p = q then (n : Int) else atFrom t (n + 1) q
def atL (l : List R) (q : ByteArray) : Int := atFrom l 0 q
theorem atFrom_step {l : List R} {k : Nat} (h : k < l.length) (q : ByteArray) : atFrom (l.drop k) k q = if l[k].p = q then (k : Int) else atFrom (l.drop (k + 1)) (k + 1) q := by
  rw [List.drop_eq_getElem_cons h]
  rfl
theorem atFrom_end {l : List R} {k : Nat} (h : l.length ≤ k) (q : ByteArray) : atFrom (l.drop k) k q = -1 := by
  rw [List.drop_eq_nil_of_le h]
  rfl
theorem atFrom_cases : ∀ (l : List R) (n : Nat) (q : ByteArray), (atFrom l n q = -1 ∧ ∀ r ∈ l, r.p ≠ q) ∨ ∃ i : Nat, ∃ h : i < l.length, atFrom l n q = ((n + i : Nat) : Int) ∧ l[i].p = q ∧ ∀ j (hj : j < i), l[j].p ≠ q
  | [], _, _ => .inl ⟨rfl, fun r hr => by cases hr⟩
  | r :: t, n, q => by
    by_cases h : r.p = q
    · exact .inr ⟨0, by simp, by simp [atFrom, h], h, fun j hj => by omega⟩
    · have e : atFrom (r :: t) n q = atFrom t (n + 1) q := by simp [atFrom, h]
      rcases atFrom_cases t (n + 1) q with ⟨h1, h2⟩ | ⟨i, hi, h1, h2, h3⟩
      · refine .inl ⟨e.trans h1, fun x hx => ?_⟩
        rcases List.mem_cons.1 hx with rfl | hx
        · exact h
        · exact h2 x hx
      · refine .inr ⟨i + 1, by simpa using hi, by rw [e, h1]; congr 1; omega, by simpa using h2, fun j hj => ?_⟩
        cases j with
        | zero => simpa using h
        | succ j => simpa using h3 j (by omega)
theorem atL_cases (l : List R) (q : ByteArray) : (atL l q = -1 ∧ ∀ r ∈ l, r.p ≠ q) ∨ ∃ i : Nat, ∃ h : i < l.length, atL l q = (i : Int) ∧ l[i].p = q ∧ ∀ j (hj : j < i), l[j].p ≠ q := by
  rcases atFrom_cases l 0 q with h | ⟨i, hi, h1, h2⟩
  · exact .inl h
  · exact .inr ⟨i, hi, by unfold atL; rw [h1]; simp, h2⟩

/-- The path without its last part, as a string. -/
def parO (p : ByteArray) : ByteArray := ⟨(parentL p.data.toList).toArray⟩
theorem parO_data (p : ByteArray) : (parO p).data.toList = parentL p.data.toList := rfl
/-- The record before a place. -/
def beforeL (l : List R) (i : Nat) : Option R := if i = 0 then none else l[i - 1]?
/-- What is wrong with the record r at place i of a layer; 0 of nothing. -/
def codeAt (l : List R) (i : Nat) (r : R) : Int :=
  if i = 16 then 6 else if r.fault ≠ 0 then r.fault
  else if (beforeL l i).any (fun x => x.p = r.p) then 18
  else if (beforeL l i).any (fun x => !lessP (cutAt 47 x.p.data.toList) (cutAt 47 r.p.data.toList)) then 11
  else if parentL r.p.data.toList = [] then 0
  else if atL (l.take i) (parO r.p) < 0 then 12
  else if (l[(atL (l.take i) (parO r.p)).toNat]?).any (fun x => x.k ≠ 3) then 13 else 0
/-- The place of the first invalid record from i on, and its code. -/
def faultFrom (l : List R) (i : Nat) : Int × Int :=
  if h : i < l.length then (if codeAt l i l[i] ≠ 0 then ((i : Int), codeAt l i l[i]) else faultFrom l (i + 1)) else (0, 0)
termination_by l.length - i
def layerFaultL (l : List R) : Int × Int := faultFrom l 0
def layerOK (l : List R) : Bool := (layerFaultL l).2 == 0
theorem faultFrom_bad {l : List R} {i : Nat} (h : i < l.length) (hc : codeAt l i l[i] ≠ 0) : faultFrom l i = ((i : Int), codeAt l i l[i]) := by
  rw [faultFrom, dif_pos h, if_pos hc]
theorem faultFrom_good {l : List R} {i : Nat} (h : i < l.length) (hc : codeAt l i l[i] = 0) : faultFrom l i = faultFrom l (i + 1) := by
  rw [faultFrom, dif_pos h, if_neg (by simp [hc])]
theorem faultFrom_end {l : List R} {i : Nat} (h : l.length ≤ i) : faultFrom l i = (0, 0) := by
  rw [faultFrom, dif_neg (by omega)]
theorem faultFrom_all (l : List R) : ∀ (n i : Nat), l.length - i = n → (faultFrom l i).2 = 0 → ∀ j (h : j < l.length), i ≤ j → codeAt l j l[j] = 0 := by
  intro n
  induction n with
  | zero => intro i hi _ j hj hij; omega
  | succ n ih =>
    intro i hi h0 j hj hij
    have hlt : i < l.length := by omega
    by_cases hc : codeAt l i l[i] = 0
    · rw [faultFrom_good hlt hc] at h0
      rcases Nat.eq_or_lt_of_le hij with rfl | hlt2
      · exact hc
      · exact ih (i + 1) (by omega) h0 j hj hlt2
    · rw [faultFrom_bad hlt hc] at h0
      exact absurd h0 hc
theorem layer_all {l : List R} (h : layerOK l = true) {j : Nat} (hj : j < l.length) : codeAt l j l[j] = 0 :=
  faultFrom_all l _ 0 rfl (by simpa [layerOK, layerFaultL] using h) j hj (Nat.zero_le _)
theorem codeAt_zero {l : List R} {i : Nat} {r : R} (h : codeAt l i r = 0) : i ≠ 16 ∧ r.fault = 0 := by
  unfold codeAt at h
  split at h
  · cases h
  · split at h
    · rename_i h1 h2; exact absurd h h2
    · rename_i h1 h2; exact ⟨h1, by simpa using h2⟩
theorem fault_path {r : R} (h : r.fault = 0) : pathB r.p.data.toList = true ∧ 1 ≤ r.k ∧ r.k ≤ 4 ∧ r.b.size ≤ 20 := by
  unfold R.fault faultI at h
  split at h
  · cases h
  · split at h
    · cases h
    · split at h
      · cases h
      · rename_i h1 h2 h3
        exact ⟨by simpa using h2, by omega, by omega, by omega⟩
/-- A layer has at most 16 records, each of them valid. -/
theorem layer_len {l : List R} (h : layerOK l = true) : l.length ≤ 16 := by
  rcases Nat.lt_or_ge 16 l.length with h1 | h1
  · exact absurd rfl (codeAt_zero (layer_all h h1)).1
  · exact h1
theorem layer_rec {l : List R} (h : layerOK l = true) {r : R} (hr : r ∈ l) : r.fault = 0 := by
  obtain ⟨j, hj, rfl⟩ := List.getElem_of_mem hr
  exact (codeAt_zero (layer_all h hj)).2

/-- The record of a path, if it is there, is Opaque. -/
def opaqueAt (l : List R) (q : ByteArray) : Bool := decide (0 ≤ atL l q) && (l[(atL l q).toNat]?).any (fun x => x.o)
/-- One of those above a path is Opaque; n bounds how far up. -/
def underF : Nat → List R → ByteArray → Bool
  | 0, _, _ => false
  | n + 1, l, q => if parentL q.data.toList = [] then false else opaqueAt l (parO q) || underF n l (parO q)
def underL (l : List R) (q : ByteArray) : Bool := underF 4 l q
/-- What the canonical form makes of a record. -/
def canonR (l : List R) (r : R) : Option R :=
  if underL l r.p then (if r.k = 4 then none else some { r with o := false })
  else some { r with o := r.o && decide ((cutAt 47 r.p.data.toList).length < 4) }
def canonL (l : List R) : List R := l.filterMap (canonR l)
end Go.Proofs.YtibekkfbpmloiabGreatDoor.Recs

/- Plain facts on paths: a path is its parent and one part; the order of paths is strict and total; what is below a path follows it at once. -/
namespace Go.Proofs.YtibekkfbpmloiabGreatDoor

theorem bytesLess_cons (c d : UInt8) (a b : List UInt8) : Op.bytesLess (c :: a) (d :: b) = if c = d then Op.bytesLess a b else decide (c < d) := by
  simp only [Op.bytesLess]
  by_cases h : c = d
  · subst h; simp
  · simp [h]
theorem bytesLess_asymm : ∀ a b : List UInt8, Op.bytesLess a b = true → Op.bytesLess b a = false
  | [], [], h => by simp [Op.bytesLess] at h
  | [], _ :: _, _ => by simp [Op.bytesLess]
  | _ :: _, [], h => by simp [Op.bytesLess] at h
  | c :: a, d :: b, h => by
    rw [bytesLess_cons] at h ⊢
    by_cases e : c = d
    · subst e
      simp only [if_true] at h ⊢
      exact bytesLess_asymm a b h
    · rw [if_neg e] at h
      rw [if_neg (fun x => e x.symm)]
      simp at h ⊢
      exact UInt8.le_of_lt h
theorem bytesLess_total : ∀ a b : List UInt8, Op.bytesLess a b = false → Op.bytesLess b a = false → a = b
  | [], [], _, _ => rfl
  | [], _ :: _, h, _ => by simp [Op.bytesLess] at h
  | _ :: _, [], _, h => by simp [Op.bytesLess] at h
  | c :: a, d :: b, h, k => by
    rw [bytesLess_cons] at h k
    by_cases e : c = d
    · subst e
      simp only [if_true] at h k
      rw [bytesLess_total a b h k]
    · rw [if_neg e] at h
      rw [if_neg (fun x => e x.symm)] at k
      simp at h k
      exact absurd (UInt8.le_antisymm k h) e

theorem lessP_asymm : ∀ A B : List (List UInt8), lessP A B = true → lessP B A = false
  | [], [], h => by simp [lessP] at h
  | [], _ :: _, _ => rfl
  | _ :: _, [], h => by simp [lessP] at h
  | a :: A, b :: B, h => by
    simp only [lessP] at h ⊢
    by_cases e : a = b
    · subst e
      simp only [if_true] at h ⊢
      exact lessP_asymm A B h
    · rw [if_neg e] at h
      rw [if_neg (fun x => e x.symm)]
      exact bytesLess_asymm a b h
theorem lessP_total : ∀ A B : List (List UInt8), lessP A B = false → lessP B A = false → A = B
  | [], [], _, _ => rfl
  | [], _ :: _, h, _ => by simp [lessP] at h
  | _ :: _, [], _, h => by simp [lessP] at h
  | a :: A, b :: B, h, k => by
    simp only [lessP] at h k
    by_cases e : a = b
    · subst e
      simp only [if_true] at h k
      rw [lessP_total A B h k]
    · rw [if_neg e] at h
      rw [if_neg (fun x => e x.symm)] at k
      exact absurd (bytesLess_total a b h k) e
theorem lessP_prefix : ∀ (A : List (List UInt8)) (c : List UInt8) (C : List (List UInt8)), lessP A (A ++ c :: C) = true
  | [], _, _ => rfl
  | a :: A, c, C => by
    simp only [List.cons_append, lessP, if_true]
    exact lessP_prefix A c C
/-! ### A path is its parent and one part -/
theorem cut_parent (l : List UInt8) : cutAt 47 l = (cutAt 47 l).dropLast ++ [(cutAt 47 l).getLast (cutAt_ne 47 l)] := (List.dropLast_concat_getLast (cutAt_ne 47 l)).symm
theorem last_part {l : List UInt8} (h : pathB l = true) : partB ((cutAt 47 l).getLast (cutAt_ne 47 l)) = true :=
  List.all_eq_true.1 (pathB_parts h).2 _ (List.getLast_mem _)
theorem clean_of_all {L : List (List UInt8)} (h : L.all partB = true) (hn : L ≠ []) : cutAt 47 (Lib.join L [47]) = L := by
  induction L with
  | nil => exact absurd rfl hn
  | cons a r ih =>
    simp only [List.all_cons, Bool.and_eq_true] at h
    cases r with
    | nil => rw [Lib.join_one, cut_last h.1]
    | cons b t =>
      rw [join_two, cutAt_append, cut_last h.1, ih h.2 (by simp)]
      rfl
/-- What the parent of a path is: the root, or a path of one part less. -/
theorem parent_cases {l : List UInt8} (h : pathB l = true) :
    (parentL l = [] ∧ cutAt 47 l = [l] ∧ partB l = true) ∨
    (pathB (parentL l) = true ∧ cutAt 47 (parentL l) = (cutAt 47 l).dropLast ∧ parentL l ≠ [] ∧ l = parentL l ++ 47 :: (cutAt 47 l).getLast (cutAt_ne 47 l) ∧ (cutAt 47 l).dropLast ≠ []) := by
  obtain ⟨h4, ha⟩ := pathB_parts h
  have e := cut_parent l
  by_cases hd : (cutAt 47 l).dropLast = []
  · left
    rw [hd] at e
    have e2 := join_cut l
    rw [e, List.nil_append, Lib.join_one] at e2
    have hl := last_part h
    refine ⟨by unfold parentL; rw [hd]; rfl, ?_, by rw [e2] at hl; exact hl⟩
    rw [e, List.nil_append, e2]
  · right
    have hall : (cutAt 47 l).dropLast.all partB = true := by
      rw [List.all_eq_true] at ha ⊢
      exact fun x hx => ha x ((List.dropLast_sublist _).subset hx)
    have hc := clean_of_all hall hd
    have hp : pathB (parentL l) = true := by
      unfold pathB parentL
      rw [hc, hall, decide_eq_true (by rw [List.length_dropLast]; omega)]
      rfl
    refine ⟨hp, hc, pathB_ne hp, ?_, hd⟩
    have e2 := join_cut l
    rw [e, join_snoc _ hd] at e2
    exact e2.symm

end Go.Proofs.YtibekkfbpmloiabGreatDoor

/- Layers as plain lists of records: in a layer the paths increase, so each path is there once; a parent that is no root stands before its record, and is a directory; how far up one can go. -/
namespace Go.Proofs.YtibekkfbpmloiabGreatDoor.Recs
open Go.RowKit Paths

theorem bytesLess_trans : ∀ a b c : List UInt8, Op.bytesLess a b = true → Op.bytesLess b c = true → Op.bytesLess a c = true
  | [], [], _, h, _ => by simp [Op.bytesLess] at h
  | [], _ :: _, [], _, k => by simp [Op.bytesLess] at k
  | [], _ :: _, _ :: _, _, _ => by simp [Op.bytesLess]
  | _ :: _, [], _, h, _ => by simp [Op.bytesLess] at h
  | _ :: _, _ :: _, [], _, k => by simp [Op.bytesLess] at k
  | x :: a, y :: b, z :: c, h, k => by
    rw [bytesLess_cons] at h k ⊢
    by_cases e1 : x = y
    · subst e1
      by_cases e2 : x = z
      · subst e2
        simp only [if_true] at h k ⊢
        exact bytesLess_trans a b c h k
      · rw [if_neg e2] at k ⊢
        exact k
    · rw [if_neg e1] at h
      by_cases e2 : y = z
      · subst e2
        rw [if_neg e1]
        exact h
      · rw [if_neg e2] at k
        simp only [decide_eq_true_eq] at h k
        have h3 := UInt8.lt_trans h k
        rw [if_neg (fun e => by rw [e] at h3; exact absurd h3 (UInt8.lt_irrefl _))]
        simpa using h3
theorem lessP_trans : ∀ A B C : List (List UInt8), lessP A B = true → lessP B C = true → lessP A C = true
  | [], [], _, h, _ => by simp [lessP] at h
  | [], _ :: _, [], _, k => by simp [lessP] at k
  | [], _ :: _, _ :: _, _, _ => rfl
  | _ :: _, [], _, h, _ => by simp [lessP] at h
  | _ :: _, _ :: _, [], _, k => by simp [lessP] at k
  | a :: A, b :: B, c :: C, h, k => by
    simp only [lessP] at h k ⊢
    by_cases e1 : a = b
    · subst e1
      by_cases e2 : a = c
      · subst e2
        simp only [if_true] at h k ⊢
        exact lessP_trans A B C h k
      · rw [if_neg e2] at k ⊢
        simp only [if_true] at h
        exact k
    · rw [if_neg e1] at h
      by_cases e2 : b = c
      · subst e2
        rw [if_neg e1]
        exact h
      · rw [if_neg e2] at k
        have h3 := bytesLess_trans a b c h k
        rw [if_neg (fun e => by rw [e] at h3; rw [bytesLess_irrefl] at h3; cases h3)]
        exact h3
theorem lessP_irrefl (A : List (List UInt8)) : lessP A A = false := by
  rcases Bool.eq_false_or_eq_true (lessP A A) with h | h
  · have := lessP_asymm A A h; rw [h] at this; cases this
  · exact h

def lessR (x r : R) : Bool := lessP (cutAt 47 x.p.data.toList) (cutAt 47 r.p.data.toList)

/-- What a record that is fine says: the one before is less; the parent, where there is one, stands before, and is a directory. -/
theorem codeAt_parts {l : List R} {i : Nat} {r : R} (h : codeAt l i r = 0) :
    (∀ x, beforeL l i = some x → lessR x r = true) ∧ (parentL r.p.data.toList ≠ [] → 0 ≤ atL (l.take i) (parO r.p) ∧ ∀ x, l[(atL (l.take i) (parO r.p)).toNat]? = some x → x.k = 3) := by
  unfold codeAt at h
  split at h
  · cases h
  split at h
  · rename_i h1 h2; exact absurd h h2
  split at h
  · cases h
  split at h
  · cases h
  rename_i h4
  refine ⟨fun x hx => ?_, fun hp => ?_⟩
  · rw [hx] at h4
    simpa [lessR] using h4
  · rw [if_neg hp] at h
    split at h
    · cases h
    split at h
    · cases h
    rename_i h5 h6
    refine ⟨by omega, fun x hx => ?_⟩
    rw [hx] at h6
    simpa using h6

theorem layer_next {l : List R} (h : layerOK l = true) {i : Nat} (hi : i + 1 < l.length) : lessR (l[i]'(by omega)) l[i + 1] = true := by
  refine (codeAt_parts (layer_all h hi)).1 _ ?_
  unfold beforeL
  rw [if_neg (by omega)]
  simp [show i < l.length by omega]
theorem layer_less {l : List R} (h : layerOK l = true) : ∀ (n i j : Nat) (hj : j < l.length) (hij : j = i + 1 + n), lessR (l[i]'(by omega)) l[j] = true := by
  intro n
  induction n with
  | zero => intro i j hj hij; subst hij; exact layer_next h hj
  | succ n ih =>
    intro i j hj hij
    subst hij
    have h1 := ih i (i + 1 + n) (by omega) rfl
    have h2 := layer_next h (i := i + 1 + n) (by omega)
    exact lessP_trans _ _ _ h1 h2
theorem layer_lt {l : List R} (h : layerOK l = true) {i j : Nat} (hj : j < l.length) (hij : i < j) : lessR (l[i]'(by omega)) l[j] = true :=
  layer_less h (j - i - 1) i j hj (by omega)
/-- The parent of a record of a layer, where it is no root, stands before it and is a directory. -/
theorem layer_parent {l : List R} (h : layerOK l = true) {i : Nat} (hi : i < l.length) (hp : parentL l[i].p.data.toList ≠ []) :
    ∃ k, ∃ hk : k < i, (l[k]'(by omega)).p = parO l[i].p ∧ (l[k]'(by omega)).k = 3 := by
  obtain ⟨h1, h2⟩ := (codeAt_parts (layer_all h hi)).2 hp
  rcases atL_cases (l.take i) (parO l[i].p) with ⟨h3, _⟩ | ⟨k, hk, h3, h4, _⟩
  · omega
  · have hki : k < i := by rw [List.length_take] at hk; omega
    refine ⟨k, hki, by simpa using h4, h2 _ ?_⟩
    rw [h3]
    simp [show k < l.length by omega]

/-- How many parts a path has: one less for its parent. -/
theorem parts_parent {q : ByteArray} (h : pathB q.data.toList = true) (hp : parentL q.data.toList ≠ []) :
    pathB (parO q).data.toList = true ∧ (cutAt 47 (parO q).data.toList).length + 1 = (cutAt 47 q.data.toList).length := by
  rcases parent_cases h with ⟨h1, _⟩ | ⟨h1, h2, _, _, h5⟩
  · exact absurd h1 hp
  · rw [parO_data, h2]
    refine ⟨h1, ?_⟩
    rw [List.length_dropLast]
    have : (cutAt 47 q.data.toList).length ≠ 0 := fun e => cutAt_ne 47 _ (List.eq_nil_of_length_eq_zero e)
    omega
/-- Any bound that reaches the parts serves. -/
theorem underF_more (l : List R) : ∀ (n : Nat) (q : ByteArray), pathB q.data.toList = true → (cutAt 47 q.data.toList).length ≤ n → ∀ m, n ≤ m → underF m l q = underF n l q := by
  intro n
  induction n with
  | zero =>
    intro q _ hl
    exact absurd (List.eq_nil_of_length_eq_zero (show (cutAt 47 q.data.toList).length = 0 by omega)) (cutAt_ne 47 _)
  | succ n ih =>
    intro q hq hl m hm
    obtain ⟨m', rfl⟩ : ∃ m', m = m' + 1 := ⟨m - 1, by omega⟩
    simp only [underF]
    by_cases hp : parentL q.data.toList = []
    · rw [if_pos hp, if_pos hp]
    · obtain ⟨h1, h2⟩ := parts_parent hq hp
      rw [if_neg hp, if_neg hp, ih (parO q) h1 (by omega) m' (by omega)]
theorem underL_step (l : List R) {q : ByteArray} (h : pathB q.data.toList = true) : underL l q = if parentL q.data.toList = [] then false else opaqueAt l (parO q) || underL l (parO q) := by
  have e : underL l q = if parentL q.data.toList = [] then false else opaqueAt l (parO q) || underF 3 l (parO q) := rfl
  by_cases hp : parentL q.data.toList = []
  · rw [e, if_pos hp, if_pos hp]
  · obtain ⟨h1, h2⟩ := parts_parent h hp
    have h3 := (pathB_parts h).1
    have h4 : underL l (parO q) = underF 3 l (parO q) := underF_more l 3 (parO q) h1 (by omega) 4 (by omega)
    rw [e, if_neg hp, if_neg hp, h4]
end Go.Proofs.YtibekkfbpmloiabGreatDoor.Recs
