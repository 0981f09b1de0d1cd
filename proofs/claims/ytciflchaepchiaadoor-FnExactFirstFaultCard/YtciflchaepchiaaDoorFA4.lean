/- Parts of several texts of mine in one file (each begins with its own remark). -/
import Derived.Test.YtciflchaepchiaaDoorFA1
import Derived.Test.YtciflchaepchiaaDoorFA2
import Derived.Test.YtciflchaepchiaaDoorFA3
import Derived.Test.YtciflchaepchiaaDoorChecked
import Derived.Test.YtciflchaepchiaaDoorShelf
import Derived.Test.YtciflchaepchiaaDoorProg
import Derived.Lib.Join
import Derived.WalkKit
import Derived.Lib.Strings
import Derived.Deep.Slices
import Derived.OpenShut
import Derived.ShutString
import Derived.ChangeArms
import Derived.WideShapes
import Derived.Lib.LaidTab
import Derived.BigQuiet
import Derived.Deep.QuietTactic
import Derived.Deep.RegionHeld3
import Derived.StillTailTactics
import Derived.Deep.Draws
import Derived.Deep.LoopGhost
import Derived.WalkSpells
import Derived.WalkSmall
import Derived.Lib.OthersKept
import Derived.Lib.Hide
import Derived.WalkLawsBesides
import Derived.Lib.ConvBytes
import Derived.Below
import Derived.Shelf.Strings.Builder1
import Derived.Laws.BytesArg
/- Plain facts on lists of bytes: parents, joined paths, the order of paths, what is below a path. -/
namespace Go.Proofs.YtciflchaepchiaaDoor

theorem cutAt_append (x : UInt8) (a b : List UInt8) : cutAt x (a ++ x :: b) = cutAt x a ++ cutAt x b := by
  induction a with
  | nil => simp [cutAt]
  | cons c r ih =>
    simp only [List.cons_append, cutAt, ih]
    split
    · rfl
    · have := cutAt_ne x r
      cases h : cutAt x r with
      | nil => exact absurd h this
      | cons h t => rfl

theorem join_two (x y : List UInt8) (r : List (List UInt8)) : Lib.join (x :: y :: r) [47] = x ++ 47 :: Lib.join (y :: r) [47] := by
  rw [Lib.join_cons, Lib.join_cons]
  simp [Lib.joinTail]
theorem join_cut (l : List UInt8) : Lib.join (cutAt 47 l) [47] = l := by
  induction l with
  | nil => rfl
  | cons c r ih =>
    simp only [cutAt]
    have hne := cutAt_ne 47 r
    cases h : cutAt 47 r with
    | nil => exact absurd h hne
    | cons a t =>
      rw [h] at ih
      split
      · rename_i hc
        rw [join_two, ih, hc]
        rfl
      · show Lib.join ((c :: a) :: t) [47] = c :: r
        rw [Lib.join_cons] at ih ⊢
        rw [List.cons_append, ih]
theorem join_snoc (A : List (List UInt8)) (h : A ≠ []) (b : List UInt8) : Lib.join (A ++ [b]) [47] = Lib.join A [47] ++ 47 :: b := by
  cases A with
  | nil => exact absurd rfl h
  | cons a t =>
    rw [List.cons_append, Lib.join_cons, Lib.join_cons]
    simp [Lib.joinTail]
/-- A path without its last part. -/
def parentL (l : List UInt8) : List UInt8 := Lib.join (cutAt 47 l).dropLast [47]
theorem parent_at (a b : List UInt8) (hb : ∀ c ∈ b, c ≠ 47) : parentL (a ++ 47 :: b) = a := by
  unfold parentL
  rw [cutAt_append, cutAt_clean hb, List.dropLast_concat, join_cut]
theorem parent_none (l : List UInt8) (h : ∀ c ∈ l, c ≠ 47) : parentL l = [] := by
  unfold parentL
  rw [cutAt_clean h]
  rfl
/-- From place k on no byte is 47. -/
def Clear (l : List UInt8) (k : Nat) : Prop := ∀ c ∈ l.drop k, c ≠ 47
theorem Clear.start (s : ByteArray) : Clear s.data.toList s.size := by
  unfold Clear
  rw [drop_end s s.size (by omega)]
  simp
theorem Clear.down {s : ByteArray} {k : Nat} (hk : k < s.size) (h : Clear s.data.toList (k + 1)) (hne : s[k] ≠ 47) : Clear s.data.toList k := by
  unfold Clear
  rw [drop_cons s k hk]
  intro c hc
  rcases List.mem_cons.1 hc with rfl | hc
  · exact hne
  · exact h c hc
theorem Clear.hit {s : ByteArray} {k : Nat} (hk : k < s.size) (h : Clear s.data.toList (k + 1)) (he : s[k] = 47) : parentL s.data.toList = s.data.toList.take k := by
  have e : s.data.toList = s.data.toList.take k ++ 47 :: s.data.toList.drop (k + 1) := by
    conv => lhs; rw [← List.take_append_drop k s.data.toList]
    rw [drop_cons s k hk, he]
  have := parent_at (s.data.toList.take k) (s.data.toList.drop (k + 1)) h
  rw [← e] at this
  exact this
theorem Clear.none {s : ByteArray} (h : Clear s.data.toList 0) : parentL s.data.toList = [] := parent_none _ (by simpa [Clear] using h)

/-! ### A path and one part more -/
theorem pathB_parts {l : List UInt8} (h : pathB l = true) : (cutAt 47 l).length ≤ 4 ∧ (cutAt 47 l).all partB = true := by
  unfold pathB at h
  simp only [Bool.and_eq_true, decide_eq_true_eq] at h
  exact h
/-! ### The order of paths -/
def lessP : List (List UInt8) → List (List UInt8) → Bool
  | [], [] => false
  | [], _ :: _ => true
  | _ :: _, [] => false
  | a :: A, b :: B => if a = b then lessP A B else Op.bytesLess a b
def cmpP : List (List UInt8) → List (List UInt8) → Int
  | [], [] => 0
  | [], _ :: _ => -1
  | _ :: _, [] => 1
  | a :: A, b :: B => if Op.bytesLess a b then -1 else if a = b then cmpP A B else 1
theorem bytesLess_irrefl (a : List UInt8) : Op.bytesLess a a = false := by
  induction a with
  | nil => rfl
  | cons c r ih => simp [Op.bytesLess, ih]
theorem less_cmp : ∀ A B : List (List UInt8), decide (cmpP A B < 0) = lessP A B
  | [], [] => rfl
  | [], _ :: _ => rfl
  | _ :: _, [] => rfl
  | a :: A, b :: B => by
    by_cases h : a = b
    · subst h
      have e1 : cmpP (a :: A) (a :: B) = cmpP A B := by simp [cmpP, bytesLess_irrefl]
      have e2 : lessP (a :: A) (a :: B) = lessP A B := by simp [lessP]
      rw [e1, e2]
      exact less_cmp A B
    · have e2 : lessP (a :: A) (b :: B) = Op.bytesLess a b := by simp [lessP, h]
      have e1 : cmpP (a :: A) (b :: B) = if Op.bytesLess a b then -1 else 1 := by simp [cmpP, h]
      rw [e1, e2]
      cases Op.bytesLess a b <;> rfl
theorem lessP_drop {A B : List (List UInt8)} {k : Nat} (ha : k < A.length) (hb : k < B.length) :
    lessP (A.drop k) (B.drop k) = if A[k] = B[k] then lessP (A.drop (k + 1)) (B.drop (k + 1)) else Op.bytesLess A[k] B[k] := by
  rw [List.drop_eq_getElem_cons ha, List.drop_eq_getElem_cons hb]
  rfl
theorem cmpP_drop {A B : List (List UInt8)} {k : Nat} (ha : k < A.length) (hb : k < B.length) :
    cmpP (A.drop k) (B.drop k) = if Op.bytesLess A[k] B[k] then -1 else if A[k] = B[k] then cmpP (A.drop (k + 1)) (B.drop (k + 1)) else 1 := by
  rw [List.drop_eq_getElem_cons ha, List.drop_eq_getElem_cons hb]
  rfl
theorem lessP_end {A B : List (List UInt8)} {k : Nat} (h : ¬ (k < A.length ∧ k < B.length)) (ha : k ≤ A.length) (hb : k ≤ B.length) : lessP (A.drop k) (B.drop k) = decide (A.length < B.length) := by
  by_cases h1 : k < A.length
  · have : k = B.length := by omega
    rw [List.drop_eq_getElem_cons h1, List.drop_of_length_le (l := B) (by omega), decide_eq_false (by omega)]
    rfl
  · rw [List.drop_of_length_le (l := A) (by omega)]
    by_cases h2 : k < B.length
    · rw [List.drop_eq_getElem_cons h2, decide_eq_true (by omega)]
      rfl
    · rw [List.drop_of_length_le (l := B) (by omega), decide_eq_false (by omega)]
      rfl
theorem cmpP_nilL {A B : List (List UInt8)} {k : Nat} (ha : k = A.length) (hb : k ≤ B.length) : cmpP (A.drop k) (B.drop k) = if A.length < B.length then -1 else 0 := by
  rw [List.drop_of_length_le (l := A) (by omega)]
  by_cases h2 : k < B.length
  · rw [List.drop_eq_getElem_cons h2, if_pos (by omega)]
    rfl
  · rw [List.drop_of_length_le (l := B) (by omega), if_neg (by omega)]
    rfl
theorem cmpP_nilR {A B : List (List UInt8)} {k : Nat} (ha : k < A.length) (hb : B.length ≤ k) : cmpP (A.drop k) (B.drop k) = 1 := by
  rw [List.drop_eq_getElem_cons ha, List.drop_of_length_le (l := B) hb]
  rfl

/-! ### Below a path -/
end Go.Proofs.YtciflchaepchiaaDoor

/- Layers as plain lists of records: the place of a path, the first fault, what lies under an opaque directory, the canonical form. -/
namespace Go.Proofs.YtciflchaepchiaaDoor.Recs
open Go.RowKit Paths

/-- The place of the first record of a path, counted from n on; -1 of none. -/
def atFrom : List R → Nat → ByteArray → Int
  | [], _, _ => -1
  | r :: t, n, q => if r.p = q then (n : Int) else atFrom t (n + 1) q
def atL (l : List R) (q : ByteArray) : Int := atFrom l 0 q
theorem atFrom_step {l : List R} {k : Nat} (h : k < l.length) (q : ByteArray) : atFrom (l.drop k) k q = if l[k].p = q then (k : Int) else atFrom (l.drop (k + 1)) (k + 1) q := by
  rw [List.drop_eq_getElem_cons h]
  rfl
theorem atFrom_end {l : List R} {k : Nat} (h : l.length ≤ k) (q : ByteArray) : atFrom (l.drop k) k q = -1 := by
  rw [List.drop_eq_nil_of_le h]
  rfl
theorem atFrom_cases : ∀ (l : List R) (n : Nat) (q : ByteArray), (atFrom l n q = -1 ∧ ∀ r ∈ l, r.p ≠ q) ∨ ∃ i : Nat, ∃ h : i < l.length, atFrom l n q = ((n + i : Nat) : Int) ∧ l[i].p = q ∧ ∀ j (hj : j < i), l[j].p ≠ q
  | [], _, _ => .inl ⟨rfl, fun r hr => by cases hr⟩
  | r :: t, n, q => by
    by_cases h : r.p = q
    · exact .inr ⟨0, by simp, by simp [atFrom, h], h, fun j hj => by omega⟩
    · have e : atFrom (r :: t) n q = atFrom t (n + 1) q := by simp [atFrom, h]
      rcases atFrom_cases t (n + 1) q with ⟨h1, h2⟩ | ⟨i, hi, h1, h2, h3⟩
      · refine .inl ⟨e.trans h1, fun x hx => ?_⟩
        rcases List.mem_cons.1 hx with rfl | hx
        · exact h
        · exact h2 x hx
      · refine .inr ⟨i + 1, by simpa using hi, by rw [e, h1]; congr 1; omega, by simpa using h2, fun j hj => ?_⟩
        cases j with
        | zero => simpa using h
        | succ j => simpa using h3 j (by omega)
theorem atL_cases (l : List R) (q : ByteArray) : (atL l q = -1 ∧ ∀ r ∈ l, r.p ≠ q) ∨ ∃ i : Nat, ∃ h : i < l.length, atL l q = (i : Int) ∧ l[i].p = q ∧ ∀ j (hj : j < i), l[j].p ≠ q := by
  rcases atFrom_cases l 0 q with h | ⟨i, hi, h1, h2⟩
  · exact .inl h
  · exact .inr ⟨i, hi, by unfold atL; rw [h1]; simp, h2⟩

/-- The path without its last part, as a string. -/
def parO (p : ByteArray) : ByteArray := ⟨(parentL p.data.toList).toArray⟩
/-- The record before a place. -/
def beforeL (l : List R) (i : Nat) : Option R := if i = 0 then none else l[i - 1]?
/-- What is wrong with the record r at place i of a layer; 0 of nothing. -/
def codeAt (l : List R) (i : Nat) (r : R) : Int :=
  if i = 16 then 6 else if r.fault ≠ 0 then r.fault
  else if (beforeL l i).any (fun x => x.p = r.p) then 18
  else if (beforeL l i).any (fun x => !lessP (cutAt 47 x.p.data.toList) (cutAt 47 r.p.data.toList)) then 11
  else if parentL r.p.data.toList = [] then 0
  else if atL (l.take i) (parO r.p) < 0 then 12
  else if (l[(atL (l.take i) (parO r.p)).toNat]?).any (fun x => x.k ≠ 3) then 13 else 0
/-- The place of the first invalid record from i on, and its code. -/
def faultFrom (l : List R) (i : Nat) : Int × Int :=
  if h : i < l.length then (if codeAt l i l[i] ≠ 0 then ((i : Int), codeAt l i l[i]) else faultFrom l (i + 1)) else (0, 0)
termination_by l.length - i
def layerFaultL (l : List R) : Int × Int := faultFrom l 0
def layerOK (l : List R) : Bool := (layerFaultL l).2 == 0
theorem faultFrom_bad {l : List R} {i : Nat} (h : i < l.length) (hc : codeAt l i l[i] ≠ 0) : faultFrom l i = ((i : Int), codeAt l i l[i]) := by
  rw [faultFrom, dif_pos h, if_pos hc]
theorem faultFrom_good {l : List R} {i : Nat} (h : i < l.length) (hc : codeAt l i l[i] = 0) : faultFrom l i = faultFrom l (i + 1) := by
  rw [faultFrom, dif_pos h, if_neg (by simp [hc])]
theorem faultFrom_end {l : List R} {i : Nat} (h : l.length ≤ i) : faultFrom l i = (0, 0) := by
  rw [faultFrom, dif_neg (by omega)]
theorem faultFrom_all (l : List R) : ∀ (n i : Nat), l.length - i = n → (faultFrom l i).2 = 0 → ∀ j (h : j < l.length), i ≤ j → codeAt l j l[j] = 0 := by
  intro n
  induction n with
  | zero => intro i hi _ j hj hij; omega
  | succ n ih =>
    intro i hi h0 j hj hij
    have hlt : i < l.length := by omega
    by_cases hc : codeAt l i l[i] = 0
    · rw [faultFrom_good hlt hc] at h0
      rcases Nat.eq_or_lt_of_le hij with rfl | hlt2
      · exact hc
      · exact ih (i + 1) (by omega) h0 j hj hlt2
    · rw [faultFrom_bad hlt hc] at h0
      exact absurd h0 hc
theorem layer_all {l : List R} (h : layerOK l = true) {j : Nat} (hj : j < l.length) : codeAt l j l[j] = 0 :=
  faultFrom_all l _ 0 rfl (by simpa [layerOK, layerFaultL] using h) j hj (Nat.zero_le _)
theorem codeAt_zero {l : List R} {i : Nat} {r : R} (h : codeAt l i r = 0) : i ≠ 16 ∧ r.fault = 0 := by
  unfold codeAt at h
  split at h
  · cases h
  · split at h
    · rename_i h1 h2; exact absurd h h2
    · rename_i h1 h2; exact ⟨h1, by simpa using h2⟩
theorem fault_path {r : R} (h : r.fault = 0) : pathB r.p.data.toList = true ∧ 1 ≤ r.k ∧ r.k ≤ 4 ∧ r.b.size ≤ 20 := by
  unfold R.fault faultI at h
  split at h
  · cases h
  · split at h
    · cases h
    · split at h
      · cases h
      · rename_i h1 h2 h3
        exact ⟨by simpa using h2, by omega, by omega, by omega⟩
/-- A layer has at most 16 records, each of them valid. -/
theorem layer_len {l : List R} (h : layerOK l = true) : l.length ≤ 16 := by
  rcases Nat.lt_or_ge 16 l.length with h1 | h1
  · exact absurd rfl (codeAt_zero (layer_all h h1)).1
  · exact h1
theorem layer_rec {l : List R} (h : layerOK l = true) {r : R} (hr : r ∈ l) : r.fault = 0 := by
  obtain ⟨j, hj, rfl⟩ := List.getElem_of_mem hr
  exact (codeAt_zero (layer_all h hj)).2

end Go.Proofs.YtciflchaepchiaaDoor.Recs

/- Bytes of numbers and sums of bytes, plain. -/
namespace Go.Proofs.YtciflchaepchiaaDoor.Recs
open Go.RowKit

/-- The lowest byte of a number. -/
def byI (n : Int) : UInt8 := UInt8.ofNat (n % 256).toNat
theorem byI_toNat (n : Int) : ((byI n).toNat : Int) = n % 256 := by
  unfold byI
  rw [UInt8.toNat_ofNat']
  omega
/-- Two bytes of a number, the higher one first. -/
def twoB (n : Int) : List UInt8 := [byI (n / 256), byI n]
/-- The sum of bytes. -/
def sumL (l : List UInt8) : Nat := l.foldl (fun n b => (263 * n + b.toNat + 1) % 65521) 1
theorem sum_step {l : List UInt8} {k : Nat} (hk : k < l.length) : sumL (l.take (k + 1)) = (263 * sumL (l.take k) + l[k].toNat + 1) % 65521 := by
  unfold sumL
  rw [List.take_add_one, List.getElem?_eq_getElem hk, Option.toList_some, List.foldl_append]
  rfl
theorem sum_fold (l : List UInt8) : ∀ n : Nat, n < 65521 → l.foldl (fun n b => (263 * n + b.toNat + 1) % 65521) n < 65521 := by
  induction l with
  | nil => intro n h; exact h
  | cons b l ih => intro n _; rw [List.foldl_cons]; exact ih _ (Nat.mod_lt _ (by omega))
theorem sum_lt (l : List UInt8) : sumL l < 65521 := sum_fold l 1 (by omega)
/-- A text with its sum behind it. -/
def withSumL (l : List UInt8) : List UInt8 := l ++ twoB (sumL l)
end Go.Proofs.YtciflchaepchiaaDoor.Recs

/- The binary encoding as plain lists of bytes: the sum, a record's bytes, a layer's bytes; the record at the head of a text; the reading of a whole layer. -/
namespace Go.Proofs.YtciflchaepchiaaDoor.Recs
open Go.RowKit Paths

/-- The byte at a place; 0 behind the end. -/
def byAt (t : List UInt8) (i : Nat) : Nat := (t[i]?.getD 0).toNat
theorem byAt_lt (t : List UInt8) (i : Nat) : byAt t i < 256 := by unfold byAt; have := (t[i]?.getD 0).toNat_lt; omega
theorem byAt_get {t : List UInt8} {i : Nat} (h : i < t.length) : byAt t i = t[i].toNat := by unfold byAt; rw [List.getElem?_eq_getElem h]; rfl
theorem byAt_drop (t : List UInt8) (k i : Nat) : byAt (t.drop k) i = byAt t (k + i) := by unfold byAt; rw [List.getElem?_drop]
/-- The record whose fields stand at the head of a text. -/
def recT (t : List UInt8) : R :=
  ⟨if byAt t 0 = 5 then 3 else byAt t 0, 256 * byAt t (byAt t 1 + 2) + byAt t (byAt t 1 + 3), ⟨((t.drop 2).take (byAt t 1)).toArray⟩, ⟨((t.drop (byAt t 1 + 5)).take (byAt t (byAt t 1 + 4))).toArray⟩, decide (byAt t 0 = 5)⟩
/-- How many bytes it takes. -/
def sizT (t : List UInt8) : Nat := byAt t 1 + 5 + byAt t (byAt t 1 + 4)
/-- It ends within the text. -/
def fitT (t : List UInt8) : Bool := decide (2 ≤ t.length) && decide (byAt t 1 + 5 ≤ t.length) && decide (sizT t ≤ t.length)
theorem siz_lt (t : List UInt8) : sizT t < 516 ∧ 5 ≤ sizT t := by
  have h1 := byAt_lt t 1
  have h2 := byAt_lt t (byAt t 1 + 4)
  unfold sizT
  omega
theorem recT_path (t : List UInt8) : (recT t).p.size ≤ 255 := by
  have h := byAt_lt t 1
  rw [Lib.size_eq]
  show ((t.drop 2).take (byAt t 1)).length ≤ 255
  rw [List.length_take]
  omega
theorem fit_sizes {t : List UInt8} (h : fitT t = true) : 2 ≤ t.length ∧ byAt t 1 + 5 ≤ t.length ∧ sizT t ≤ t.length := by
  unfold fitT at h
  rw [Bool.and_eq_true, Bool.and_eq_true, decide_eq_true_eq, decide_eq_true_eq, decide_eq_true_eq] at h
  exact ⟨h.1.1, h.1.2, h.2⟩
theorem fit_of {t : List UInt8} (h1 : 2 ≤ t.length) (h2 : byAt t 1 + 5 ≤ t.length) (h3 : sizT t ≤ t.length) : fitT t = true := by
  unfold fitT
  rw [Bool.and_eq_true, Bool.and_eq_true, decide_eq_true_eq, decide_eq_true_eq, decide_eq_true_eq]
  exact ⟨⟨h1, h2⟩, h3⟩
theorem fit_no {t : List UInt8} (h : t.length < 2 ∨ t.length < byAt t 1 + 5 ∨ t.length < sizT t) : fitT t = false := by
  rcases Bool.eq_false_or_eq_true (fitT t) with hf | hf
  · obtain ⟨a, b, c⟩ := fit_sizes hf
    omega
  · exact hf

/-- The code of a record behind others. -/
def nxtC (L : List R) (r : R) : Int := codeAt (L ++ [r]) L.length r
/-- The records of a text from a place on, n of them, behind L: the layer, or the place of the first error and its code. -/
def wholeF : Nat → List UInt8 → Nat → List R → List R × Nat × Int
  | 0, t, a, L => if t.length ≠ a + 2 then ([], a, 3) else if t.drop a ≠ twoB (sumL (t.take a)) then ([], a, 15) else (L, 0, 0)
  | n + 1, t, a, L =>
    if fitT (t.drop a) = false ∨ t.length < a + sizT (t.drop a) + 2 then ([], a, 3)
    else if ((t.drop (a + sizT (t.drop a))).take 2) ≠ twoB (sumL ((t.drop a).take (sizT (t.drop a)))) then ([], a, 15)
    else if nxtC L (recT (t.drop a)) ≠ 0 then ([], a, nxtC L (recT (t.drop a)))
    else wholeF n t (a + sizT (t.drop a) + 2) (L ++ [recT (t.drop a)])
def wholeL (t : List UInt8) : List R × Nat × Int := if t.length < 4 ∨ t.take 3 ≠ [76, 89, 82] then ([], 0, 3) else wholeF (byAt t 3) t 4 []
def decC (t : ByteArray) : Int := if 65536 < t.size then 2 else (wholeL t.data.toList).2.2
def decL (t : ByteArray) : List R := if 65536 < t.size then [] else (wholeL t.data.toList).1
def decA (t : ByteArray) : Nat := if 65536 < t.size then 0 else (wholeL t.data.toList).2.1
theorem behind_fault {L : List R} {r : R} (hL : layerOK L = true) : layerFaultL (L ++ [r]) = (if nxtC L r ≠ 0 then ((L.length : Int), nxtC L r) else (0, 0)) := by
  have hall : ∀ j, j ≤ L.length → layerFaultL (L ++ [r]) = faultFrom (L ++ [r]) j := by
    intro j
    induction j with
    | zero => intro _; rfl
    | succ j ih =>
      intro hj
      have hlt : j < (L ++ [r]).length := by rw [List.length_append]; simp; omega
      have h0 := layer_all hL (j := j) (by omega)
      have e1 : (L ++ [r])[j]'hlt = L[j]'(by omega) := List.getElem_append_left (by omega)
      have hc : codeAt (L ++ [r]) j ((L ++ [r])[j]'hlt) = 0 := by
        rw [e1, ← h0]
        have ht : (L ++ [r]).take j = L.take j := List.take_append_of_le_length (by omega)
        have hb : beforeL (L ++ [r]) j = beforeL L j := by
          unfold beforeL
          by_cases hz : j = 0
          · rw [if_pos hz, if_pos hz]
          · rw [if_neg hz, if_neg hz, List.getElem?_append_left (by omega)]
        unfold codeAt
        rw [ht, hb]
        rcases atL_cases (L.take j) (parO (L[j]'(by omega)).p) with ⟨ha, _⟩ | ⟨i, hi, ha, _⟩
        · rw [ha]; simp
        · rw [List.length_take] at hi
          rw [ha]
          have e2 : (L ++ [r])[((i : Int)).toNat]? = L[((i : Int)).toNat]? := List.getElem?_append_left (by simp; omega)
          rw [e2]
      rw [ih (by omega), faultFrom_good hlt hc]
  have hlt : L.length < (L ++ [r]).length := by simp
  have e : (L ++ [r])[L.length]'hlt = r := by simp
  rw [hall L.length (Nat.le_refl _)]
  by_cases hc : nxtC L r = 0
  · rw [if_neg (by simpa using hc)]
    have hc2 : codeAt (L ++ [r]) L.length ((L ++ [r])[L.length]'hlt) = 0 := by rw [e]; exact hc
    rw [faultFrom_good hlt hc2, faultFrom_end (by simp)]
  · rw [if_pos hc]
    have hc2 : codeAt (L ++ [r]) L.length ((L ++ [r])[L.length]'hlt) ≠ 0 := by rw [e]; exact hc
    rw [faultFrom_bad hlt hc2, e]
    rfl
theorem behind_ok {L : List R} {r : R} (hL : layerOK L = true) (h : nxtC L r = 0) : layerOK (L ++ [r]) = true := by
  have h1 := behind_fault (r := r) hL
  rw [if_neg (by simpa using h)] at h1
  unfold layerOK
  rw [h1]
  rfl
end Go.Proofs.YtciflchaepchiaaDoor.Recs

/- The sum of a text, LayerSum: of the program and of its model. No condition. -/
namespace Go.Proofs.YtciflchaepchiaaDoor.Recs
set_option maxRecDepth 100000
open Go.RowKit

theorem ret_i64 {a b : Int} (h : a = b) : Ending.returned (.int .i64 a) = .returned (.int .i64 b) := by rw [h]
theorem bytes_below (w : World) (e : TypeId) (s : ByteArray) : Below w.heap.size w (Lib.bytesWorld w e s) := by
  refine ⟨rfl, rfl, rfl, ?_, fun j hj => Lib.bytesWorld_at_old w e s j hj⟩
  rw [Lib.bytesWorld_size]
  omega
theorem bytes_cell (w : World) (e : TypeId) (s : ByteArray) {j : Nat} (h : j < s.size) : (Lib.bytesWorld w e s).cell? ⟨w.heap.size, j, none⟩ = some (.int .u8 s[j].toNat) := by
  rw [Lib.bytesWorld_cell w e s j h]
  congr 3
  have hl : j < s.data.toList.length := by rw [← Lib.size_eq]; exact h
  rw [List.getD_eq_getElem?_getD, List.getElem?_eq_getElem hl]
  rfl

set_option maxHeartbeats 800000 in
theorem l09Sum_any (s : ByteArray) (w : World) (hs : s.size ≤ maxLen) :
    Calls Tryd.prog 51 #[.string s] w fun e w' => e = .returned (.int .i64 (sumL s.data.toList : Int)) ∧ w = w' := by
  unfold maxLen at hs
  go_enter Tryd.func51, Tryd.ntmps51
  go_wp2_with fail
  go_loop [3, 4] (fun n i => ∃ k S : Nat, k ≤ s.size ∧ i = .int .i64 k ∧ n = .int .i64 S ∧ Hid (S = sumL (s.data.toList.take k))) (fun _ i => s.size - (intOf i).toNat)
  case atStart => exact ⟨0, 1, by omega, rfl, rfl, rfl⟩
  case round =>
    obtain ⟨k, S, hk, rfl, rfl, HS⟩ := hrel
    have hlt65 : S < 65521 := by rw [HS.out]; exact sum_lt _
    by_cases hlt : k < s.size
    · have hst := sum_step (l := s.data.toList) (k := k) (by rw [← Lib.size_eq]; exact hlt)
      have HN : Hid ((263 * S + s[k].toNat + 1) % 65521 = sumL (s.data.toList.take (k + 1))) := by
        show _ = _
        rw [hst, ← HS.out]
        rfl
      have hb := s[k].toNat_lt
      clear hst
      go_wp2_with fail
      exact ⟨⟨k + 1, (263 * S + s[k].toNat + 1) % 65521, by omega, by go_num, by go_num, HN⟩, by simp [intOf]; omega⟩
    · have HE : Hid (S = sumL s.data.toList) := by show _ = _; rw [HS.out, List.take_of_length_le (by rw [← Lib.size_eq]; omega)]
      go_wp2_with fail
      go_ret
      exact ⟨ret_i64 (by rw [HE.out]), rfl⟩

set_option maxHeartbeats 800000 in
theorem sumOf_any (s : ByteArray) (w : World) (hs : s.size ≤ maxLen) :
    Calls Tryd.prog 56 #[.string s] w fun e w' => e = .returned (.int .i64 (sumL s.data.toList : Int)) ∧ Below w.heap.size w w' := by
  have kc := fun (w : World) => Lib.run_convert_string_bytes (P := Tryd.prog) w 9 63 5 s Tryd.underlying9 Tryd.underlying63 Tryd.underlying5
  have hB0 : Below w.heap.size w (Lib.bytesWorld w 5 s) := bytes_below w 5 s
  have HC : Hid (∀ j (h : j < s.size), (Lib.bytesWorld w 5 s).cell? ⟨w.heap.size, j, none⟩ = some (.int .u8 s[j].toNat)) := fun j h => bytes_cell w 5 s h
  generalize hcap : grownCap w s.size 0 5 = cap at *
  clear hcap
  unfold maxLen at hs
  go_enter Tryd.func56, Tryd.ntmps56
  go_wp2_with fail
  generalize Lib.bytesWorld w 5 s = W at *
  go_loop [3, 9] (fun n i => ∃ k S : Nat, k ≤ s.size ∧ i = .int .i64 k ∧ n = .int .i64 S ∧ Hid (S = sumL (s.data.toList.take k))) (fun _ i => s.size - (intOf i).toNat)
  case atStart => exact ⟨0, 1, by omega, rfl, rfl, rfl⟩
  case round =>
    obtain ⟨k, S, hk, rfl, rfl, HS⟩ := hrel
    have hlt65 : S < 65521 := by rw [HS.out]; exact sum_lt _
    by_cases hlt : k < s.size
    · have hst := sum_step (l := s.data.toList) (k := k) (by rw [← Lib.size_eq]; exact hlt)
      have HN : Hid ((263 * S + s[k].toNat + 1) % 65521 = sumL (s.data.toList.take (k + 1))) := by
        show _ = _
        rw [hst, ← HS.out]
        rfl
      have hb := s[k].toNat_lt
      have cc := HC.out k hlt
      generalize s[k].toNat = q at *
      have hi1 : (k : Int) < (s.size : Int) := by omega
      have hi0 : (0 : Int) ≤ (k : Int) := by omega
      clear hst
      go_wp2_with fail
      exact ⟨⟨k + 1, (263 * S + q + 1) % 65521, by omega, by go_num, by go_num, HN⟩, by simp [intOf]; omega⟩
    · have HE : Hid (S = sumL s.data.toList) := by show _ = _; rw [HS.out, List.take_of_length_le (by rw [← Lib.size_eq]; omega)]
      go_wp2_with fail
      go_ret
      exact ⟨ret_i64 (by rw [HE.out]), hB0⟩
end Go.Proofs.YtciflchaepchiaaDoor.Recs

/- WriteByte of strings.Builder (the library's contract, proved once, over any program) stated at this program's own numbers: one application. Condition: as it states. -/
namespace Go.Proofs
open Go.Shelf
def Tryd.laysWB_ren : Go.Shelf.Ren := ⟨fun | 167 => 54 | 240 => 71 | 276 => 81 | n => n, fun | 9 => 9 | 4 => 4 | 0 => 0 | 20 => 20 | 72 => 79 | 70 => 77 | 37 => 63 | 75 => 56 | 164 => 115 | 5 => 5 | 80 => 81 | n => n, fun | n => n⟩
theorem Tryd.laysWB : Go.Proofs.Lays.n167 Tryd.prog Tryd.laysWB_ren := {
  mixed := by kernel_rfl
  f167 := Tryd.func54.trans (congrArg some (by kernel_rfl))
  f240 := Tryd.func71.trans (congrArg some (by kernel_rfl))
  f276 := Tryd.func81.trans (congrArg some (by kernel_rfl))
  t0 := Tryd.underlying0
  a0 := Tryd.isAgg0
  z0 := Tryd.sizeOf0
  v0 := Tryd.zeroValue0
  t4 := Tryd.underlying4
  a4 := Tryd.isAgg4
  z4 := Tryd.sizeOf4
  v4 := Tryd.zeroValue4
  t5 := Tryd.underlying5
  a5 := Tryd.isAgg5
  z5 := Tryd.sizeOf5
  v5 := Tryd.zeroValue5
  t9 := Tryd.underlying9
  a9 := Tryd.isAgg9
  z9 := Tryd.sizeOf9
  v9 := Tryd.zeroValue9
  t20 := Tryd.underlying20
  a20 := Tryd.isAgg20
  z20 := Tryd.sizeOf20
  v20 := Tryd.zeroValue20
  t37 := Tryd.underlying63
  a37 := Tryd.isAgg63
  z37 := Tryd.sizeOf63
  v37 := Tryd.zeroValue63
  t70 := Tryd.underlying77
  a70 := Tryd.isAgg77
  z70 := Tryd.sizeOf77
  v70 := Tryd.zeroValue77
  t72 := Tryd.underlying79
  a72 := Tryd.isAgg79
  z72 := Tryd.sizeOf79
  v72 := Tryd.zeroValue79
  t75 := Tryd.underlying56
  a75 := Tryd.isAgg56
  z75 := Tryd.sizeOf56
  v75 := Tryd.zeroValue56
  t164 := Tryd.underlying115
  a164 := Tryd.isAgg115
  z164 := Tryd.sizeOf115
  v164 := Tryd.zeroValue115 }
theorem Tryd.Builder_Extra_WB : Builder.Extra Tryd.prog Tryd.laysWB_ren := {
  sizeBuilder := by kernel_rfl
  liesBuilder := by kernel_rfl
  t5 := Tryd.underlying5
  a5 := Tryd.isAgg5
  z5 := Tryd.sizeOf5
  v5 := Tryd.zeroValue5
  infoByte := by kernel_rfl
  cellsByte := by kernel_rfl
  sizeByte := by kernel_rfl
  neB5 := by decide }
open Go.RowKit in
/-- WriteByte: one byte more. -/
theorem Tryd.writeByte (B b : Nat) (bs : List Value) (c : Int) (w : World) (h : Lib.IsBuilder 79 5 B b bs w) (hlen : bs.length + 1 ≤ 140737488355328) (hBw : B ≤ w.heap.size) :
    Calls Tryd.prog 54 #[.pointer (some ⟨b, 0, none⟩), .int .u8 c] w fun e w' => e = .returned .nilIface ∧ (Lib.BuilderAt 79 5 B b (.pointer (some ⟨b, 0, none⟩)) (bs ++ [.int .u8 c]) w' ∧ Below B w w') :=
  Any.Builder_WriteByte Tryd.laysWB Tryd.Builder_Extra_WB B b bs c w h hlen hBw
end Go.Proofs

/- The laws' own marks: markText, and the marks written into a row of strings and read again; eqStringS. -/
namespace Go.Proofs.YtciflchaepchiaaDoor.Paths
open Go.RowKit

/-- A slice that reads as the strings L, wherever it lies. -/
def Strs (w : World) (v : Value) (L : List (List UInt8)) : Prop :=
  ∃ A cap, v = .slice A L.length cap ∧ L.length ≤ cap ∧ (0 < L.length → ∃ b off, A = some ⟨b, off, none⟩ ∧ b < w.heap.size ∧ ∀ k p, L[k]? = some p → w.cell? ⟨b, off + k, none⟩ = some (strV p))
theorem Strs.own {w : World} {base : Nat} {v : Value} {L : List (List UInt8)} (h : w.ownsRow base 9 1 v L.length (L.map strV)) : Strs w v L := by
  rcases h.2 with ⟨rfl, hn⟩ | ⟨g, cap, cur, rfl, hb, hg, hc, _⟩
  · exact ⟨none, 0, by rw [hn], by omega, fun h => by omega⟩
  · refine ⟨_, cap, rfl, hc, fun _ => ⟨g, 0, rfl, (Array.getElem?_eq_some_iff.1 hg).1, fun k p hk => ?_⟩⟩
    have := h.cells (g := g) rfl k (strV p) (by simp [hk])
    simpa [Addr.add_lit] using this
theorem Strs.below {w w' : World} {v : Value} {L : List (List UInt8)} (h : Strs w v L) (hb : Below w.heap.size w w') : Strs w' v L := by
  obtain ⟨A, cap, rfl, hc, h⟩ := h
  refine ⟨A, cap, rfl, hc, fun hn => ?_⟩
  obtain ⟨b, off, rfl, hlt, hcell⟩ := h hn
  exact ⟨b, off, rfl, Nat.lt_of_lt_of_le hlt hb.size, fun k p hk => (hb.cell (p := ⟨b, off + k, none⟩) hlt).trans (hcell k p hk)⟩

theorem grown_trans {a b c : World} {row : Option Nat} (h : a.grownBy b row) (k : b.grownBy c row) : a.grownBy c row :=
  ⟨k.os.trans h.os, k.tape.trans h.tape, k.output.trans h.output, Nat.le_trans h.size k.size, fun i hi hne => (k.block i (Nat.lt_of_lt_of_le hi h.size) hne).trans (h.block i hi hne)⟩

end Go.Proofs.YtciflchaepchiaaDoor.Paths

/- The bytes of numbers, the sum of a text, a text with its sum: of the program and of its model. -/
namespace Go.Proofs.YtciflchaepchiaaDoor.Recs
set_option maxRecDepth 100000
open Go.RowKit Paths

/-- A slice of integers that is only read. -/
def IntSl (w : World) (v : Value) (ns : List Int) : Prop :=
  ∃ A cap, v = .slice A ns.length cap ∧ ns.length ≤ cap ∧ (0 < ns.length → ∃ b off, A = some ⟨b, off, none⟩ ∧ b < w.heap.size ∧ ∀ i z, ns[i]? = some z → w.cell? ⟨b, off + i, none⟩ = some (.int .i64 z))
theorem byte_cells_snoc {ns : List Int} {k : Nat} (h : k < ns.length) : Lib.byteCells ((ns.take (k + 1)).map byI) = Lib.byteCells ((ns.take k).map byI) ++ [.int .u8 (ns[k] % 256)] := by
  rw [List.take_add_one, List.getElem?_eq_getElem h, Option.toList_some, List.map_append]
  unfold Lib.byteCells
  rw [List.map_append]
  congr 1
  simp only [List.map_cons, List.map_nil]
  rw [byI_toNat]

set_option maxHeartbeats 800000 in
theorem bytesOf_any (v : Value) (ns : List Int) (w : World) (h : IntSl w v ns) (hn : ns.length ≤ 1000) :
    Calls Tryd.prog 39 #[v] w fun e w' => ∃ B : ByteArray, e = .returned (.string B) ∧ B.data.toList = ns.map byI ∧ B.size = ns.length ∧ Below w.heap.size w w' := by
  obtain ⟨A, cap, rfl, hcap, h⟩ := h
  have HH := Lib.hid h
  have hB0 : Lib.IsBuilder 79 5 w.heap.size w.heap.size [] (w.alloc (.cells #[.pointer none, .slice none 0 0] 79)) :=
    .inl ⟨Nat.le_refl _, .slice none 0 0, heap_alloc_new w _, World.ownsRow_nil _ _ _ _, by simp [Value.ownBlock]⟩
  have HB0 := Lib.hid hB0
  have c0 : Below w.heap.size w (w.alloc (.cells #[.pointer none, .slice none 0 0] 79)) := (Below.refl _ _).alloc (Nat.le_refl _) _
  clear h hB0
  go_enter Tryd.func39, Tryd.ntmps39
  go_wp2_with fail
  go_loopw [8] (fun i wr => ∃ k : Nat, k ≤ ns.length ∧ i = .int .i64 k ∧ Hid (Lib.IsBuilder 79 5 w.heap.size w.heap.size (Lib.byteCells ((ns.take k).map byI)) wr ∧ Below w.heap.size w wr)) (fun i _ => ns.length - (intOf i).toNat)
  case atStart => exact ⟨0, by omega, rfl, HB0.out, c0⟩
  case round =>
    obtain ⟨k, hk, rfl, HI⟩ := hrel
    have hbl : (Lib.byteCells ((ns.take k).map byI)).length ≤ 1000 := by
      unfold Lib.byteCells
      simp
      omega
    by_cases hlt : k < ns.length
    · obtain ⟨b, off, rfl, hb, hcell⟩ := HH.out (by omega)
      have cc := (HI.out.2.cell (p := ⟨b, off + k, none⟩) hb).trans (hcell k ns[k] (by simp [hlt]))
      have HS := Lib.hid (byte_cells_snoc hlt)
      have HZ := Lib.hid HI.out.2.size
      have hWB := Tryd.writeByte w.heap.size w.heap.size _ (ns[k] % 256) wr HI.out.1 (by omega) HZ.out
      generalize ns[k] = z at *
      have hi1 : (k : Int) < (ns.length : Int) := by omega
      have hi0 : (0 : Int) ≤ (k : Int) := by omega
      clear hcell
      go_wp2_with fail
      refine hWB.mono ?_
      rintro e w1 ⟨rfl, hb1, hbel⟩
      go_wp2_with fail
      exact ⟨⟨k + 1, by omega, by go_num, by rw [HS.out]; exact ⟨.inr hb1, HI.out.2.trans hbel⟩⟩, by simp [intOf]; omega⟩
    · have hST := Tryd.Builder_String_any w.heap.size w.heap.size ((ns.take k).map byI) wr HI.out.1 HI.out.2.size
      have HE : Hid (List.take k (List.map byI ns) = List.map byI ns) := List.take_of_length_le (by simp; omega)
      go_wp2_with fail
      refine hST.mono ?_
      rintro e w1 ⟨rfl, hb1⟩
      go_wp2_with fail
      go_ret
      exact ⟨⟨(List.take k (List.map byI ns)).toArray⟩, rfl, by show List.take k (List.map byI ns) = _; exact HE.out, by rw [Lib.size_eq]; show (List.take k (List.map byI ns)).length = _; rw [HE.out]; simp, HI.out.2.trans hb1⟩

end Go.Proofs.YtciflchaepchiaaDoor.Recs
