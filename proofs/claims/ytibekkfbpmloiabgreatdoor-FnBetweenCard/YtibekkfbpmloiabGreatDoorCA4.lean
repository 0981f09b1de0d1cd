/- Parts of several texts of mine in one file (each begins with its own remark). -/
import Derived.Test.YtibekkfbpmloiabGreatDoorCA1
import Derived.Test.YtibekkfbpmloiabGreatDoorCA2
import Derived.Test.YtibekkfbpmloiabGreatDoorCA3
import Derived.Test.YtibekkfbpmloiabGreatDoorChecked
import Derived.Lib.Join
import Derived.WalkKit
import Derived.Lib.Strings
import Derived.Deep.Slices
import Derived.OpenShut
import Derived.ShutString
import Derived.ChangeArms
import Derived.WideShapes
import Derived.Lib.LaidTab
import Derived.BigQuiet
import Derived.Deep.QuietTactic
import Derived.Deep.RegionHeld3
import Derived.StillTailTactics
import Derived.Deep.Draws
import Derived.Deep.LoopGhost
import Derived.WalkSpells
import Derived.WalkSmall
import Derived.Lib.OthersKept
import Derived.Lib.Hide
import Derived.BigRegion
import Derived.Laws.BytesArg
import Derived.Laws.OwnMore
/- Plain facts on lists of bytes: parents, joined paths, the order of paths, what is below a path. -/
namespace Go.Proofs.YtibekkfbpmloiabGreatDoor

theorem cutAt_append (x : UInt8) (a b : List UInt8) : cutAt x (a ++ x :: b) = cutAt x a ++ cutAt x b := by
  induction a with
  | nil => simp [cutAt]
  | cons c r ih =>
    simp only [List.cons_append, cutAt, ih]
    split
    · rfl
    · have := cutAt_ne x r
      cases h : cutAt x r with
      | nil => exact absurd h this
      | cons h t => rfl

theorem join_two (x y : List UInt8) (r : List (List UInt8)) : Lib.join (x :: y :: r) [47] = x ++ 47 :: Lib.join (y :: r) [47] := by
  rw [Lib.join_cons, Lib.join_cons]
  simp [Lib.joinTail]
theorem join_cut (l : List UInt8) : Lib.join (cutAt 47 l) [47] = l := by
  induction l with
  | nil => rfl
  | cons c r ih =>
    simp only [cutAt]
    have hne := cutAt_ne 47 r
    cases h : cutAt 47 r with
    | nil => exact absurd h hne
    | cons a t =>
      rw [h] at ih
      split
      · rename_i hc
        rw [join_two, ih, hc]
        rfl
      · show Lib.join ((c :: a) :: t) [47] = c :: r
        rw [Lib.join_cons] at ih ⊢
        rw [List.cons_append, ih]
theorem join_snoc (A : List (List UInt8)) (h : A ≠ []) (b : List UInt8) : Lib.join (A ++ [b]) [47] = Lib.join A [47] ++ 47 :: b := by
  cases A with
  | nil => exact absurd rfl h
  | cons a t =>
    rw [List.cons_append, Lib.join_cons, Lib.join_cons]
    simp [Lib.joinTail]
theorem join_append (A B : List (List UInt8)) (hA : A ≠ []) (hB : B ≠ []) : Lib.join (A ++ B) [47] = Lib.join A [47] ++ 47 :: Lib.join B [47] := by
  cases A with
  | nil => exact absurd rfl hA
  | cons a t =>
    cases B with
    | nil => exact absurd rfl hB
    | cons b s =>
      rw [List.cons_append, Lib.join_cons, Lib.join_cons, Lib.join_cons]
      simp [Lib.joinTail]

/-- A path without its last part. -/
def parentL (l : List UInt8) : List UInt8 := Lib.join (cutAt 47 l).dropLast [47]
theorem parent_at (a b : List UInt8) (hb : ∀ c ∈ b, c ≠ 47) : parentL (a ++ 47 :: b) = a := by
  unfold parentL
  rw [cutAt_append, cutAt_clean hb, List.dropLast_concat, join_cut]
theorem parent_none (l : List UInt8) (h : ∀ c ∈ l, c ≠ 47) : parentL l = [] := by
  unfold parentL
  rw [cutAt_clean h]
  rfl
/-- From place k on no byte is 47. -/
def Clear (l : List UInt8) (k : Nat) : Prop := ∀ c ∈ l.drop k, c ≠ 47
theorem Clear.start (s : ByteArray) : Clear s.data.toList s.size := by
  unfold Clear
  rw [drop_end s s.size (by omega)]
  simp
theorem Clear.down {s : ByteArray} {k : Nat} (hk : k < s.size) (h : Clear s.data.toList (k + 1)) (hne : s[k] ≠ 47) : Clear s.data.toList k := by
  unfold Clear
  rw [drop_cons s k hk]
  intro c hc
  rcases List.mem_cons.1 hc with rfl | hc
  · exact hne
  · exact h c hc
theorem Clear.hit {s : ByteArray} {k : Nat} (hk : k < s.size) (h : Clear s.data.toList (k + 1)) (he : s[k] = 47) : parentL s.data.toList = s.data.toList.take k := by
  have e : s.data.toList = s.data.toList.take k ++ 47 :: s.data.toList.drop (k + 1) := by
    conv => lhs; rw [← List.take_append_drop k s.data.toList]
    rw [drop_cons s k hk, he]
  have := parent_at (s.data.toList.take k) (s.data.toList.drop (k + 1)) h
  rw [← e] at this
  exact this
theorem Clear.none {s : ByteArray} (h : Clear s.data.toList 0) : parentL s.data.toList = [] := parent_none _ (by simpa [Clear] using h)

/-! ### A path and one part more -/
theorem cut_join {d p : List UInt8} (hp : partB p = true) : cutAt 47 (d ++ 47 :: p) = cutAt 47 d ++ [p] := by
  rw [cutAt_append, cut_last hp]
theorem pathB_parts {l : List UInt8} (h : pathB l = true) : (cutAt 47 l).length ≤ 4 ∧ (cutAt 47 l).all partB = true := by
  unfold pathB at h
  simp only [Bool.and_eq_true, decide_eq_true_eq] at h
  exact h
theorem pathB_join {d p : List UInt8} (hd : pathB d = true) (hp : partB p = true) (hl : (cutAt 47 d).length < 4) : pathB (d ++ 47 :: p) = true := by
  unfold pathB
  rw [cut_join hp, decide_eq_true (by simp; omega)]
  simp [(pathB_parts hd).2, hp]
theorem pathB_part {p : List UInt8} (hp : partB p = true) : pathB p = true := by
  unfold pathB
  rw [cut_last hp]
  simp [hp]

/-! ### The order of paths -/
def lessP : List (List UInt8) → List (List UInt8) → Bool
  | [], [] => false
  | [], _ :: _ => true
  | _ :: _, [] => false
  | a :: A, b :: B => if a = b then lessP A B else Op.bytesLess a b
def cmpP : List (List UInt8) → List (List UInt8) → Int
  | [], [] => 0
  | [], _ :: _ => -1
  | _ :: _, [] => 1
  | a :: A, b :: B => if Op.bytesLess a b then -1 else if a = b then cmpP A B else 1
theorem bytesLess_irrefl (a : List UInt8) : Op.bytesLess a a = false := by
  induction a with
  | nil => rfl
  | cons c r ih => simp [Op.bytesLess, ih]
theorem less_cmp : ∀ A B : List (List UInt8), decide (cmpP A B < 0) = lessP A B
  | [], [] => rfl
  | [], _ :: _ => rfl
  | _ :: _, [] => rfl
  | a :: A, b :: B => by
    by_cases h : a = b
    · subst h
      have e1 : cmpP (a :: A) (a :: B) = cmpP A B := by simp [cmpP, bytesLess_irrefl]
      have e2 : lessP (a :: A) (a :: B) = lessP A B := by simp [lessP]
      rw [e1, e2]
      exact less_cmp A B
    · have e2 : lessP (a :: A) (b :: B) = Op.bytesLess a b := by simp [lessP, h]
      have e1 : cmpP (a :: A) (b :: B) = if Op.bytesLess a b then -1 else 1 := by simp [cmpP, h]
      rw [e1, e2]
      cases Op.bytesLess a b <;> rfl
theorem lessP_drop {A B : List (List UInt8)} {k : Nat} (ha : k < A.length) (hb : k < B.length) :
    lessP (A.drop k) (B.drop k) = if A[k] = B[k] then lessP (A.drop (k + 1)) (B.drop (k + 1)) else Op.bytesLess A[k] B[k] := by
  rw [List.drop_eq_getElem_cons ha, List.drop_eq_getElem_cons hb]
  rfl
theorem cmpP_drop {A B : List (List UInt8)} {k : Nat} (ha : k < A.length) (hb : k < B.length) :
    cmpP (A.drop k) (B.drop k) = if Op.bytesLess A[k] B[k] then -1 else if A[k] = B[k] then cmpP (A.drop (k + 1)) (B.drop (k + 1)) else 1 := by
  rw [List.drop_eq_getElem_cons ha, List.drop_eq_getElem_cons hb]
  rfl
theorem lessP_end {A B : List (List UInt8)} {k : Nat} (h : ¬ (k < A.length ∧ k < B.length)) (ha : k ≤ A.length) (hb : k ≤ B.length) : lessP (A.drop k) (B.drop k) = decide (A.length < B.length) := by
  by_cases h1 : k < A.length
  · have : k = B.length := by omega
    rw [List.drop_eq_getElem_cons h1, List.drop_of_length_le (l := B) (by omega), decide_eq_false (by omega)]
    rfl
  · rw [List.drop_of_length_le (l := A) (by omega)]
    by_cases h2 : k < B.length
    · rw [List.drop_eq_getElem_cons h2, decide_eq_true (by omega)]
      rfl
    · rw [List.drop_of_length_le (l := B) (by omega), decide_eq_false (by omega)]
      rfl
theorem cmpP_nilL {A B : List (List UInt8)} {k : Nat} (ha : k = A.length) (hb : k ≤ B.length) : cmpP (A.drop k) (B.drop k) = if A.length < B.length then -1 else 0 := by
  rw [List.drop_of_length_le (l := A) (by omega)]
  by_cases h2 : k < B.length
  · rw [List.drop_eq_getElem_cons h2, if_pos (by omega)]
    rfl
  · rw [List.drop_of_length_le (l := B) (by omega), if_neg (by omega)]
    rfl
theorem cmpP_nilR {A B : List (List UInt8)} {k : Nat} (ha : k < A.length) (hb : B.length ≤ k) : cmpP (A.drop k) (B.drop k) = 1 := by
  rw [List.drop_eq_getElem_cons ha, List.drop_of_length_le (l := B) hb]
  rfl

/-! ### Below a path -/
def belowP (A B : List (List UInt8)) : Bool := decide (B.length < A.length) && (A.take B.length == B)
def belowL (a b : List UInt8) : Bool := decide (b.length < a.length) && (a.take b.length == b) && (a.drop b.length).head? == some 47
theorem below_cut (a b : List UInt8) : belowP (cutAt 47 a) (cutAt 47 b) = belowL a b := by
  rw [Bool.eq_iff_iff]
  unfold belowP belowL
  simp only [Bool.and_eq_true, decide_eq_true_eq, beq_iff_eq]
  constructor
  · rintro ⟨hl, ht⟩
    have e : cutAt 47 a = cutAt 47 b ++ (cutAt 47 a).drop (cutAt 47 b).length := by
      conv => lhs; rw [← List.take_append_drop (cutAt 47 b).length (cutAt 47 a), ht]
    have hC : (cutAt 47 a).drop (cutAt 47 b).length ≠ [] := by
      intro h
      have := congrArg List.length h
      simp at this
      omega
    have e2 := join_append _ _ (cutAt_ne 47 b) hC
    rw [← e, join_cut, join_cut] at e2
    rw [e2]
    simp
  · rintro ⟨⟨hl, ht⟩, hh⟩
    cases hd : a.drop b.length with
    | nil => rw [hd] at hh; cases hh
    | cons c r =>
      rw [hd] at hh
      simp at hh
      subst hh
      have e : a = b ++ 47 :: r := by
        conv => lhs; rw [← List.take_append_drop b.length a, ht, hd]
      have e2 := cutAt_append 47 b r
      rw [← e] at e2
      have := cutAt_pos 47 r
      rw [e2]
      simp
      omega

end Go.Proofs.YtibekkfbpmloiabGreatDoor

/- Layers as plain lists of records: the place of a path, the first fault, what lies under an opaque directory, the canonical form. -/
namespace Go.Proofs.YtibekkfbpmloiabGreatDoor.Recs
open Go.RowKit Paths

/-- The place of the first record of a path, counted from n on; -1 of none. -/
def atFrom : List R → Nat → ByteArray → Int
  | [], _, _ => -1
  | r :: t, n, q => if r.p = q then (n : Int) else atFrom t (n + 1) q
def atL (l : List R) (q : ByteArray) : Int := atFrom l 0 q
theorem atFrom_step {l : List R} {k : Nat} (h : k < l.length) (q : ByteArray) : atFrom (l.drop k) k q = if l[k].p = q then (k : Int) else atFrom (l.drop (k + 1)) (k + 1) q := by
  rw [List.drop_eq_getElem_cons h]
  rfl
theorem atFrom_end {l : List R} {k : Nat} (h : l.length ≤ k) (q : ByteArray) : atFrom (l.drop k) k q = -1 := by
  rw [List.drop_eq_nil_of_le h]
  rfl
theorem atFrom_cases : ∀ (l : List R) (n : Nat) (q : ByteArray), (atFrom l n q = -1 ∧ ∀ r ∈ l, r.p ≠ q) ∨ ∃ i : Nat, ∃ h : i < l.length, atFrom l n q = ((n + i : Nat) : Int) ∧ l[i].p = q ∧ ∀ j (hj : j < i), l[j].p ≠ q
  | [], _, _ => .inl ⟨rfl, fun r hr => by cases hr⟩
  | r :: t, n, q => by
    by_cases h : r.p = q
    · exact .inr ⟨0, by simp, by simp [atFrom, h], h, fun j hj => by omega⟩
    · have e : atFrom (r :: t) n q = atFrom t (n + 1) q := by simp [atFrom, h]
      rcases atFrom_cases t (n + 1) q with ⟨h1, h2⟩ | ⟨i, hi, h1, h2, h3⟩
      · refine .inl ⟨e.trans h1, fun x hx => ?_⟩
        rcases List.mem_cons.1 hx with rfl | hx
        · exact h
        · exact h2 x hx
      · refine .inr ⟨i + 1, by simpa using hi, by rw [e, h1]; congr 1; omega, by simpa using h2, fun j hj => ?_⟩
        cases j with
        | zero => simpa using h
        | succ j => simpa using h3 j (by omega)
theorem atL_cases (l : List R) (q : ByteArray) : (atL l q = -1 ∧ ∀ r ∈ l, r.p ≠ q) ∨ ∃ i : Nat, ∃ h : i < l.length, atL l q = (i : Int) ∧ l[i].p = q ∧ ∀ j (hj : j < i), l[j].p ≠ q := by
  rcases atFrom_cases l 0 q with h | ⟨i, hi, h1, h2⟩
  · exact .inl h
  · exact .inr ⟨i, hi, by unfold atL; rw [h1]; simp, h2⟩

/-- The path without its last part, as a string. -/
def parO (p : ByteArray) : ByteArray := ⟨(parentL p.data.toList).toArray⟩
theorem parO_data (p : ByteArray) : (parO p).data.toList = parentL p.data.toList := rfl
/-- The record before a place. -/
def beforeL (l : List R) (i : Nat) : Option R := if i = 0 then none else l[i - 1]?
/-- What is wrong with the record r at place i of a layer; 0 of nothing. -/
def codeAt (l : List R) (i : Nat) (r : R) : Int :=
  if i = 16 then 6 else if r.fault ≠ 0 then r.fault
  else if (beforeL l i).any (fun x => x.p = r.p) then 18
  else if (beforeL l i).any (fun x => !lessP (cutAt 47 x.p.data.toList) (cutAt 47 r.p.data.toList)) then 11
  else if parentL r.p.data.toList = [] then 0
  else if atL (l.take i) (parO r.p) < 0 then 12
  else if (l[(atL (l.take i) (parO r.p)).toNat]?).any (fun x => x.k ≠ 3) then 13 else 0
/-- The place of the first invalid record from i on, and its code. -/
def faultFrom (l : List R) (i : Nat) : Int × Int :=
  if h : i < l.length then (if codeAt l i l[i] ≠ 0 then ((i : Int), codeAt l i l[i]) else faultFrom l (i + 1)) else (0, 0)
termination_by l.length - i
def layerFaultL (l : List R) : Int × Int := faultFrom l 0
def layerOK (l : List R) : Bool := (layerFaultL l).2 == 0
theorem faultFrom_bad {l : List R} {i : Nat} (h : i < l.length) (hc : codeAt l i l[i] ≠ 0) : faultFrom l i = ((i : Int), codeAt l i l[i]) := by
  rw [faultFrom, dif_pos h, if_pos hc]
theorem faultFrom_good {l : List R} {i : Nat} (h : i < l.length) (hc : codeAt l i l[i] = 0) : faultFrom l i = faultFrom l (i + 1) := by
  rw [faultFrom, dif_pos h, if_neg (by simp [hc])]
theorem faultFrom_end {l : List R} {i : Nat} (h : l.length ≤ i) : faultFrom l i = (0, 0) := by
  rw [faultFrom, dif_neg (by omega)]
theorem faultFrom_all (l : List R) : ∀ (n i : Nat), l.length - i = n → (faultFrom l i).2 = 0 → ∀ j (h : j < l.length), i ≤ j → codeAt l j l[j] = 0 := by
  intro n
  induction n with
  | zero => intro i hi _ j hj hij; omega
  | succ n ih =>
    intro i hi h0 j hj hij
    have hlt : i < l.length := by omega
    by_cases hc : codeAt l i l[i] = 0
    · rw [faultFrom_good hlt hc] at h0
      rcases Nat.eq_or_lt_of_le hij with rfl | hlt2
      · exact hc
      · exact ih (i + 1) (by omega) h0 j hj hlt2
    · rw [faultFrom_bad hlt hc] at h0
      exact absurd h0 hc
theorem layer_all {l : List R} (h : layerOK l = true) {j : Nat} (hj : j < l.length) : codeAt l j l[j] = 0 :=
  faultFrom_all l _ 0 rfl (by simpa [layerOK, layerFaultL] using h) j hj (Nat.zero_le _)
theorem codeAt_zero {l : List R} {i : Nat} {r : R} (h : codeAt l i r = 0) : i ≠ 16 ∧ r.fault = 0 := by
  unfold codeAt at h
  split at h
  · cases h
  · split at h
    · rename_i h1 h2; exact absurd h h2
    · rename_i h1 h2; exact ⟨h1, by simpa using h2⟩
theorem fault_path {r : R} (h : r.fault = 0) : pathB r.p.data.toList = true ∧ 1 ≤ r.k ∧ r.k ≤ 4 ∧ r.b.size ≤ 20 := by
  unfold R.fault faultI at h
  split at h
  · cases h
  · split at h
    · cases h
    · split at h
      · cases h
      · rename_i h1 h2 h3
        exact ⟨by simpa using h2, by omega, by omega, by omega⟩
/-- A layer has at most 16 records, each of them valid. -/
theorem layer_len {l : List R} (h : layerOK l = true) : l.length ≤ 16 := by
  rcases Nat.lt_or_ge 16 l.length with h1 | h1
  · exact absurd rfl (codeAt_zero (layer_all h h1)).1
  · exact h1
theorem layer_rec {l : List R} (h : layerOK l = true) {r : R} (hr : r ∈ l) : r.fault = 0 := by
  obtain ⟨j, hj, rfl⟩ := List.getElem_of_mem hr
  exact (codeAt_zero (layer_all h hj)).2

/-- The record of a path, if it is there, is Opaque. -/
def opaqueAt (l : List R) (q : ByteArray) : Bool := decide (0 ≤ atL l q) && (l[(atL l q).toNat]?).any (fun x => x.o)
/-- One of those above a path is Opaque; n bounds how far up. -/
def underF : Nat → List R → ByteArray → Bool
  | 0, _, _ => false
  | n + 1, l, q => if parentL q.data.toList = [] then false else opaqueAt l (parO q) || underF n l (parO q)
def underL (l : List R) (q : ByteArray) : Bool := underF 4 l q
/-- What the canonical form makes of a record. -/
def canonR (l : List R) (r : R) : Option R :=
  if underL l r.p then (if r.k = 4 then none else some { r with o := false })
  else some { r with o := r.o && decide ((cutAt 47 r.p.data.toList).length < 4) }
def canonL (l : List R) : List R := l.filterMap (canonR l)
end Go.Proofs.YtibekkfbpmloiabGreatDoor.Recs

/- Layers: the place of a path, the first fault: the model's side. -/
namespace Go.Proofs.YtibekkfbpmloiabGreatDoor.Recs
set_option maxRecDepth 100000
open Go.RowKit Paths

theorem str_eq_of {a b : ByteArray} (h : (a.toList == b.toList) = true) : a = b := by
  have := eq_of_beq h
  rw [Lib.toList_data, Lib.toList_data] at this
  exact ByteArray.ext (Array.toList_inj.1 this)

set_option maxHeartbeats 400000 in
theorem l03At_any (v : Value) (l : List R) (q : ByteArray) (w : World) (h : RecSl w v l) (hl : l.length ≤ 1048576) :
    Calls Tryz.prog 138 #[v, .string q] w fun e w' => e = .returned (.int .i64 (atL l q)) ∧ w = w' := by
  obtain ⟨A, cap, rfl, hcap, h⟩ := h
  have H := Lib.hid h
  clear h
  go_enter Tryz.func138, Tryz.ntmps138
  go_wp2
  go_loop [5] (fun i => ∃ k : Nat, k ≤ l.length ∧ i = .int .i64 k ∧ Hid (atL l q = atFrom (l.drop k) k q)) (fun i => l.length - (intOf i).toNat)
  case atStart => exact ⟨0, by omega, rfl, rfl⟩
  case round =>
    obtain ⟨k, hk, rfl, HK⟩ := hrel
    by_cases hlt : k < l.length
    · obtain ⟨b, off, rfl, hb, hcell⟩ := H.out (by omega)
      obtain ⟨_, hc1, _⟩ := hcell k l[k] (by simp [hlt])
      have HS := Lib.hid (HK.out.trans (atFrom_step hlt q))
      clear hcell HK
      have hi1 : (k : Int) < (l.length : Int) := by omega
      have hi0 : (0 : Int) ≤ (k : Int) := by omega
      rcases Bool.eq_false_or_eq_true (l[k].p.toList == q.toList) with he | he
      · have HE : Hid (atL l q = k) := by show _ = _; rw [HS.out, if_pos (str_eq_of he)]
        go_wp2
        go_ret
        exact ⟨ret_int HE.out.symm, rfl⟩
      · have HE : Hid (atL l q = atFrom (l.drop (k + 1)) (k + 1) q) := by show _ = _; rw [HS.out, if_neg (fun e => by rw [e] at he; simp at he)]
        go_wp2
        exact ⟨⟨k + 1, by omega, by go_num, HE⟩, by simp [intOf]; omega⟩
    · have HE := Lib.hid (HK.out.trans (atFrom_end (by omega) q))
      go_wp2
      go_ret
      exact ⟨ret_int HE.out.symm, rfl⟩
end Go.Proofs.YtibekkfbpmloiabGreatDoor.Recs

/- The laws' own marks: markText, and the marks written into a row of strings and read again; eqStringS. -/
namespace Go.Proofs.YtibekkfbpmloiabGreatDoor.Paths
open Go.RowKit

/-- A slice that reads as the strings L, wherever it lies. -/
def Strs (w : World) (v : Value) (L : List (List UInt8)) : Prop :=
  ∃ A cap, v = .slice A L.length cap ∧ L.length ≤ cap ∧ (0 < L.length → ∃ b off, A = some ⟨b, off, none⟩ ∧ b < w.heap.size ∧ ∀ k p, L[k]? = some p → w.cell? ⟨b, off + k, none⟩ = some (strV p))
theorem Strs.own {w : World} {base : Nat} {v : Value} {L : List (List UInt8)} (h : w.ownsRow base 9 1 v L.length (L.map strV)) : Strs w v L := by
  rcases h.2 with ⟨rfl, hn⟩ | ⟨g, cap, cur, rfl, hb, hg, hc, _⟩
  · exact ⟨none, 0, by rw [hn], by omega, fun h => by omega⟩
  · refine ⟨_, cap, rfl, hc, fun _ => ⟨g, 0, rfl, (Array.getElem?_eq_some_iff.1 hg).1, fun k p hk => ?_⟩⟩
    have := h.cells (g := g) rfl k (strV p) (by simp [hk])
    simpa [Addr.add_lit] using this
theorem Strs.below {w w' : World} {v : Value} {L : List (List UInt8)} (h : Strs w v L) (hb : Below w.heap.size w w') : Strs w' v L := by
  obtain ⟨A, cap, rfl, hc, h⟩ := h
  refine ⟨A, cap, rfl, hc, fun hn => ?_⟩
  obtain ⟨b, off, rfl, hlt, hcell⟩ := h hn
  exact ⟨b, off, rfl, Nat.lt_of_lt_of_le hlt hb.size, fun k p hk => (hb.cell (p := ⟨b, off + k, none⟩) hlt).trans (hcell k p hk)⟩

theorem take_snoc_eq {α : Type} [DecidableEq α] {A B : List α} {k : Nat} (ha : k < A.length) (hb : k < B.length) (h : A.take k = B.take k) (he : A[k] = B[k]) : A.take (k + 1) = B.take (k + 1) := by
  rw [List.take_succ_eq_append_getElem ha, List.take_succ_eq_append_getElem hb, h, he]
theorem getElem_of_eq {α : Type} {A B : List α} {k : Nat} (ha : k < A.length) (hb : k < B.length) (h : A = B) : A[k] = B[k] := by subst h; rfl

theorem grown_trans {a b c : World} {row : Option Nat} (h : a.grownBy b row) (k : b.grownBy c row) : a.grownBy c row :=
  ⟨k.os.trans h.os, k.tape.trans h.tape, k.output.trans h.output, Nat.le_trans h.size k.size, fun i hi hne => (k.block i (Nat.lt_of_lt_of_le hi h.size) hne).trans (h.block i hi hne)⟩

end Go.Proofs.YtibekkfbpmloiabGreatDoor.Paths

/- Slices of records in memory of their own: what is written into one; the laws' own size, copy and comparison of such slices. -/
namespace Go.Proofs.YtibekkfbpmloiabGreatDoor.Recs
set_option maxRecDepth 100000
open Go.RowKit Paths

/-- A record's five cells. -/
def R.cs (r : R) : List Value := [.int .i64 r.k, .string r.p, .string r.b, .int .i64 r.m, .bool r.o]
def flat (l : List R) : List Value := l.flatMap R.cs
theorem flat_len (l : List R) : (flat l).length = l.length * 5 := by
  induction l with
  | nil => rfl
  | cons r t ih => simp only [flat, List.flatMap_cons, List.length_append, List.length_cons] at ih ⊢; rw [ih]; simp [R.cs]; omega
theorem flat_get : ∀ (l : List R) (j : Nat), (flat l)[j]? = (l[j / 5]?).bind fun r => r.cs[j % 5]?
  | [], j => by simp [flat]
  | r :: t, j => by
    have ih := flat_get t (j - 5)
    by_cases hj : j < 5
    · have e1 : j / 5 = 0 := by omega
      have e2 : j % 5 = j := by omega
      rw [e1, e2]
      simp only [flat, List.flatMap_cons]
      rw [List.getElem?_append_left (by simp [R.cs]; omega)]
      simp
    · have e1 : j / 5 = (j - 5) / 5 + 1 := by omega
      have e2 : j % 5 = (j - 5) % 5 := by omega
      rw [e1, e2]
      simp only [flat, List.flatMap_cons]
      rw [List.getElem?_append_right (by simp [R.cs]; omega)]
      simp only [R.cs, List.length_cons, List.length_nil]
      exact ih
theorem flat_field {M : List R} {i c : Nat} {r : R} {u : Value} (hi : i < M.length) (hc : c < 5) (h : r.cs = M[i].cs.set c u) : flat (M.set i r) = (flat M).set (i * 5 + c) u := by
  apply List.ext_getElem?
  intro j
  rw [flat_get, List.getElem?_set, List.getElem?_set, flat_len, flat_get]
  by_cases hj : i = j / 5
  · rw [if_pos hj, if_pos (by omega)]
    simp only [Option.bind_some]
    rw [h, List.getElem?_set]
    by_cases hk : c = j % 5
    · rw [if_pos hk, if_pos (by simp [R.cs]; omega), if_pos (by omega), if_pos (by omega)]
    · rw [if_neg hk, if_neg (by omega), ← hj, List.getElem?_eq_getElem hi]
      rfl
  · rw [if_neg hj, if_neg (by omega)]

/-- A slice in memory of its own that holds the records M. -/
def RowOf (w : World) (base : Nat) (v : Value) (n : Nat) (M : List R) : Prop := M.length = n ∧ w.ownsRow base 53 5 v n (flat M)
theorem RowOf.below {w w' : World} {base : Nat} {v : Value} {n : Nat} {M : List R} (h : RowOf w base v n M) (hb : Below w.heap.size w w') : RowOf w' base v n M := ⟨h.1, own_below h.2 hb⟩
theorem RowOf.sl {w : World} {base : Nat} {v : Value} {n : Nat} {M : List R} (h : RowOf w base v n M) : RecSl w v M := by
  obtain ⟨rfl, h⟩ := h
  rcases h.2 with ⟨rfl, hn⟩ | ⟨g, cap, cur, rfl, hb, hg, hc, _⟩
  · exact ⟨none, 0, by rw [hn], by omega, fun h => by omega⟩
  · refine ⟨_, cap, rfl, hc, fun _ => ⟨g, 0, rfl, (Array.getElem?_eq_some_iff.1 hg).1, fun i r hi => ?_⟩⟩
    have hlt : i < M.length := (List.getElem?_eq_some_iff.1 hi).1
    have one : ∀ c, c < 5 → w.cell? ⟨g, i * 5 + c, none⟩ = r.cs[c]? := fun c hc => by
      rw [h.cellAt (i * 5 + c) (by omega), flat_get]
      have e1 : (i * 5 + c) / 5 = i := by omega
      have e2 : (i * 5 + c) % 5 = c := by omega
      rw [e1, e2, hi]
      rfl
    rw [Nat.zero_add]
    exact ⟨one 0 (by omega), one 1 (by omega), one 2 (by omega), one 3 (by omega), one 4 (by omega)⟩
theorem RowOf.field {w : World} {base g cap n : Nat} {M : List R} {i c : Nat} {r : R} {u : Value} (h : RowOf w base (.slice (some ⟨g, 0, none⟩) n cap) n M) (hi : i < M.length) (hc : c < 5) (hr : r.cs = M[i].cs.set c u) :
    RowOf (w.setCell ⟨g, i * 5 + c, none⟩ u) base (.slice (some ⟨g, 0, none⟩) n cap) n (M.set i r) ∧ w.grownBy (w.setCell ⟨g, i * 5 + c, none⟩ u) (some g) := by
  obtain ⟨h1, h2⟩ := h.2.stored (i * 5 + c) u
  exact ⟨⟨by rw [List.length_set]; exact h.1, by rw [flat_field hi hc hr]; exact h1⟩, h2⟩
theorem RowOf.frozen {w : World} {base g cap n : Nat} {M : List R} (h : RowOf w base (.slice (some ⟨g, 0, none⟩) n cap) n M) (j : Nat) : w.frozen? ⟨g, j, none⟩ = false := h.2.frozenAt j
theorem RowOf.cells {w : World} {base g cap n : Nat} {M : List R} (h : RowOf w base (.slice (some ⟨g, 0, none⟩) n cap) n M) {i : Nat} (hi : i < M.length) : RecCells w g (i * 5) M[i] := by
  have one : ∀ c, c < 5 → w.cell? ⟨g, i * 5 + c, none⟩ = M[i].cs[c]? := fun c hc => by
    rw [h.2.cellAt (i * 5 + c) (by rw [← h.1]; omega), flat_get]
    have e1 : (i * 5 + c) / 5 = i := by omega
    have e2 : (i * 5 + c) % 5 = c := by omega
    rw [e1, e2, List.getElem?_eq_getElem hi]
    rfl
  exact ⟨one 0 (by omega), one 1 (by omega), one 2 (by omega), one 3 (by omega), one 4 (by omega)⟩
/-- A whole record written. -/
theorem RowOf.store {w : World} {base g cap n : Nat} {M : List R} {i : Nat} (r : R) (h : RowOf w base (.slice (some ⟨g, 0, none⟩) n cap) n M) (hi : i < M.length) :
    RowOf (((((w.setCell ⟨g, i * 5, none⟩ (.int .i64 r.k)).setCell ⟨g, i * 5 + 1, none⟩ (.string r.p)).setCell ⟨g, i * 5 + 2, none⟩ (.string r.b)).setCell ⟨g, i * 5 + 3, none⟩ (.int .i64 r.m)).setCell ⟨g, i * 5 + 4, none⟩ (.bool r.o)) base (.slice (some ⟨g, 0, none⟩) n cap) n (M.set i r) ∧
    w.grownBy (((((w.setCell ⟨g, i * 5, none⟩ (.int .i64 r.k)).setCell ⟨g, i * 5 + 1, none⟩ (.string r.p)).setCell ⟨g, i * 5 + 2, none⟩ (.string r.b)).setCell ⟨g, i * 5 + 3, none⟩ (.int .i64 r.m)).setCell ⟨g, i * 5 + 4, none⟩ (.bool r.o)) (some g) := by
  obtain ⟨a1, b1⟩ := h.field (i := i) (c := 0) (r := { M[i] with k := r.k }) (u := .int .i64 r.k) hi (by omega) rfl
  obtain ⟨a2, b2⟩ := a1.field (i := i) (c := 1) (r := { M[i] with k := r.k, p := r.p }) (u := .string r.p) (by simpa using hi) (by omega) (by simp [R.cs])
  obtain ⟨a3, b3⟩ := a2.field (i := i) (c := 2) (r := { M[i] with k := r.k, p := r.p, b := r.b }) (u := .string r.b) (by simpa using hi) (by omega) (by simp [R.cs])
  obtain ⟨a4, b4⟩ := a3.field (i := i) (c := 3) (r := { M[i] with k := r.k, p := r.p, b := r.b, m := r.m }) (u := .int .i64 r.m) (by simpa using hi) (by omega) (by simp [R.cs])
  obtain ⟨a5, b5⟩ := a4.field (i := i) (c := 4) (r := r) (u := .bool r.o) (by simpa using hi) (by omega) (by simp [R.cs])
  refine ⟨?_, grown_trans (grown_trans (grown_trans (grown_trans b1 b2) b3) b4) b5⟩
  simp only [List.set_set] at a5
  exact a5

theorem flat_snoc (M : List R) (r : R) : flat (M ++ [r]) = flat M ++ r.cs := by unfold flat; rw [List.flatMap_append]; simp
theorem rec_cells_new (w : World) (r : R) (t : TypeId) (j : Nat) (u : Value) (h : r.cs[j]? = some u) : (w.alloc (.cells #[.int .i64 r.k, .string r.p, .string r.b, .int .i64 r.m, .bool r.o] t)).cell? ((⟨w.heap.size, 0, none⟩ : Addr).add j) = some u := by
  rw [Addr.add_lit]
  match j, h with
  | 0, h => cases h; go_simp
  | 1, h => cases h; go_simp
  | 2, h => cases h; go_simp
  | 3, h => cases h; go_simp
  | 4, h => cases h; go_simp
  | j + 5, h => simp [R.cs] at h
theorem rec_one (r : R) : ∀ u ∈ r.cs, u.oneCell' = true := by
  intro u hu
  simp only [R.cs, List.mem_cons, List.not_mem_nil, or_false] at hu
  rcases hu with rfl | rfl | rfl | rfl | rfl <;> rfl
theorem RowOf.ne {w : World} {base : Nat} {v : Value} {n : Nat} {M : List R} (h : RowOf w base v n M) : v.ownBlock ≠ some w.heap.size := fun e => by
  have := (h.2.lt _ e).2
  omega
theorem RowOf.form {w : World} {base : Nat} {v : Value} {n : Nat} {M : List R} (h : RowOf w base v n M) : ∃ A cap, v = .slice A n cap := own_form h.2

theorem row_snoc {w : World} {base : Nat} {v : Value} {M : List R} {r : R} (h : w.ownsRow base 53 5 v (M.length + 1) (flat M ++ r.cs)) : RowOf w base v (M ++ [r]).length (M ++ [r]) :=
  ⟨rfl, by rw [flat_snoc, List.length_append]; exact h⟩
end Go.Proofs.YtibekkfbpmloiabGreatDoor.Recs

/- The laws' own copy of a slice of records, its size, its comparison. -/
namespace Go.Proofs.YtibekkfbpmloiabGreatDoor.Recs
set_option maxRecDepth 100000
open Go.RowKit Paths

theorem recInfo : (Tryz.prog.info? 53).map (fun i => (i.zero, i.size, i.bytes)) = some (some (.agg #[.int .i64 0, .string ByteArray.empty, .string ByteArray.empty, .int .i64 0, .bool false]), 5, 56) := by kernel_rfl
end Go.Proofs.YtibekkfbpmloiabGreatDoor.Recs
