/- Parts of several texts of mine in one file (each begins with its own remark). -/
import Derived.Test.YtciflchaepchiaaDoorDA1
import Derived.Test.YtciflchaepchiaaDoorDA2
import Derived.Test.YtciflchaepchiaaDoorDA3
import Derived.Test.YtciflchaepchiaaDoorDA4
import Derived.Test.YtciflchaepchiaaDoorDB1
import Derived.Test.YtciflchaepchiaaDoorChecked
import Derived.Deep.Draws
import Derived.Deep.LoopGhost
import Derived.WalkKit
import Derived.WalkSpells
import Derived.WalkSmall
import Derived.Lib.OthersKept
import Derived.Lib.Hide
import Derived.Lib.Strings
import Derived.Deep.Slices
import Derived.OpenShut
import Derived.ShutString
import Derived.ChangeArms
import Derived.WideShapes
import Derived.Lib.LaidTab
import Derived.BigQuiet
import Derived.Deep.QuietTactic
import Derived.Deep.RegionHeld3
import Derived.StillTailTactics
import Derived.Lib.Join
import Derived.WalkLawsBesides
import Derived.Lib.ConvBytes
import Derived.Below
import Derived.BigRegion
import Derived.Laws.OwnMore
import Derived.Laws.BytesArg
/- Paths: PathOK and PartsOf, of the program and of its model. -/
namespace Go.Proofs.YtciflchaepchiaaDoor.Paths
open Go.RowKit

/-- The code that asks whether a string is a path. -/
def askC (s : ByteArray) : Int := if 65536 < s.size then 2 else if pathB s.data.toList then 0 else 10
theorem askC_long {s : ByteArray} (h : ¬ s.size ≤ 65536) : askC s = 2 := by unfold askC; rw [if_pos (by omega)]
theorem askC_yes {s : ByteArray} (h : s.size ≤ 65536) (hp : pathB s.data.toList = true) : askC s = 0 := by unfold askC; rw [if_neg (by omega), if_pos hp]
theorem askC_no {s : ByteArray} (h : s.size ≤ 65536) (hp : pathB s.data.toList = false) : askC s = 10 := by unfold askC; rw [if_neg (by omega), hp]; rfl
/-- What PartsOf answers: the parts in a row of its own, and the code. -/
def PartsPost (s : ByteArray) (w : World) (e : Ending) (w' : World) : Prop :=
  ∃ v, e = .returned (.tuple #[v, .int .i64 (askC s)]) ∧ Below w.heap.size w w' ∧ w'.ownsRow w.heap.size 9 1 v (partsOf s.data.toList).length ((partsOf s.data.toList).map strV)

theorem partsOf_no {l : List UInt8} (h : pathB l = false) : partsOf l = [] := by unfold partsOf; rw [h]; rfl
theorem partsOf_yes {l : List UInt8} (h : pathB l = true) : partsOf l = cutAt 47 l := by unfold partsOf; rw [h]; rfl

theorem partsOf_impl (s : ByteArray) (w : World) (hs : s.size ≤ maxLen) : Calls Tryd.prog 85 #[.string s] w (PartsPost s w) := by
  have hq := fun (w : World) (a : Option Addr) (n c n' c' : Nat) => Lib.run_eql_slice_nil (P := Tryd.prog) w 91 9 a n c n' c' Tryd.underlying91
  by_cases h : s.size ≤ 65536
  · have hd : decide ((65536 : Int) < (s.size : Int)) = false := by simp; omega
    go_enter Tryd.func85, Tryd.ntmps85
    go_wp2_with fail
    refine (longText_any s _).mono ?_
    rintro e w1 ⟨rfl, rfl⟩
    go_wp2_with fail
    refine (splitPath_any s _ hs).mono ?_
    rintro e w1 ⟨v, rfl, hp⟩
    obtain ⟨A, cap, rfl, hA⟩ := split_nil hp
    rcases Bool.eq_false_or_eq_true (pathB s.data.toList) with hB | hB
    · have HP := Lib.hid hp
      have HA : Hid (askC s = 0) := askC_yes h hB
      clear hp
      rw [hB] at hA
      go_wp2_with fail
      go_ret2
      exact ⟨_, by rw [HA.out]; rfl, HP.out.1, HP.out.2.1⟩
    · have HP := Lib.hid hp
      have HA : Hid (askC s = 10) := askC_no h hB
      have HN : Hid (partsOf s.data.toList = []) := partsOf_no hB
      clear hp
      rw [hB] at hA
      go_wp2_with fail
      go_ret2
      exact ⟨_, by rw [HA.out]; rfl, HP.out.1, by rw [HN.out]; exact World.ownsRow_nil _ _ _ _⟩
  · have hd : decide ((65536 : Int) < (s.size : Int)) = true := by simp; omega
    have HA : Hid (askC s = 2) := askC_long h
    have HN : Hid (partsOf s.data.toList = []) := partsOf_no (pathB_long (by omega))
    go_enter Tryd.func85, Tryd.ntmps85
    go_wp2_with fail
    refine (longText_any s _).mono ?_
    rintro e w1 ⟨rfl, rfl⟩
    go_wp2_with fail
    go_ret2
    exact ⟨_, by rw [HA.out]; rfl, Below.refl _ _, by rw [HN.out]; exact World.ownsRow_nil _ _ _ _⟩

end Go.Proofs.YtciflchaepchiaaDoor.Paths

/- Slices of records: what the memory holds where one reads as a list of records; a slice of records that came in. -/
namespace Go.Proofs.YtciflchaepchiaaDoor.Recs
set_option maxRecDepth 100000
open Go.RowKit Paths Go.WideShapes Go.ChangeShapes

section
variable {H : Type} {enc : TypeId × Value → H} {w : World} {base : Nat} {spare : Nat → Bool} {held : Bool}

/-- The records of a slice of records that came in. -/
theorem open_recs {t : TypeId} {fuel : Nat} {cs : List Value} {x : DataW H × List MemPlace} (ht : Tryd.prog.underlying t = some (.slice 23))
    (h : DataW.trod enc Tryd.prog w base spare held fuel t cs = some x) :
    ∃ (v : Value) (L : List R), cs = [v] ∧ RecSl w v L ∧ L.length ≤ maxLen ∧ ∀ r ∈ L, r.p.size ≤ maxLen ∧ r.b.size ≤ maxLen := by
  rcases DataW.trod_slice ht h with ⟨rfl, _⟩ | ⟨a, len, cap, elems, rest, n, _, rfl, _, _, hl, hm0, hel, hat, _, _⟩
  · exact ⟨_, [], rfl, ⟨none, 0, rfl, Nat.le_refl _, fun h => by cases h⟩, Nat.zero_le _, fun r hr => by cases hr⟩
  · rw [cR] at hat
    have hone : ∀ i, i < len → ∃ r : R, w.cells? base (a.add (i * 5)) 5 = some [.int .i64 r.k, .string r.p, .string r.b, .int .i64 r.m, .bool r.o] ∧ r.p.size ≤ maxLen ∧ r.b.size ≤ maxLen := by
      intro i hi
      have h1 := hat i hi
      rw [List.getElem?_eq_getElem (by omega)] at h1
      obtain ⟨cs', hc, htr⟩ := Option.bind_eq_some_iff.1 h1
      obtain ⟨k, m, p, b, o, rfl, hp, hb, _⟩ := rec_of_trod htr
      exact ⟨⟨k, m, p, b, o⟩, hc, hp, hb⟩
    have hall : ∀ m, m ≤ len → ∃ L : List R, L.length = m ∧ (∀ i r, L[i]? = some r → w.cells? base (a.add (i * 5)) 5 = some [.int .i64 r.k, .string r.p, .string r.b, .int .i64 r.m, .bool r.o]) ∧ ∀ r ∈ L, r.p.size ≤ maxLen ∧ r.b.size ≤ maxLen := by
      intro m
      induction m with
      | zero => exact fun _ => ⟨[], rfl, fun i r hi => by simp at hi, fun r hr => by cases hr⟩
      | succ m ih =>
        intro hm
        obtain ⟨L, hL, h1, h2⟩ := ih (by omega)
        obtain ⟨r, hr, hs⟩ := hone m (by omega)
        refine ⟨L ++ [r], by simp [hL], fun i q hi => ?_, fun q hq => ?_⟩
        · rcases Nat.lt_trichotomy i m with hj | hj | hj
          · rw [List.getElem?_append_left (by omega)] at hi
            exact h1 i q hi
          · subst hj
            rw [List.getElem?_append_right (by omega), hL] at hi
            simp at hi
            subst hi
            exact hr
          · rw [List.getElem?_append_right (by omega)] at hi
            rw [List.getElem?_eq_none (by simp; omega)] at hi
            cases hi
        · rcases List.mem_append.1 hq with hq | hq
          · exact h2 q hq
          · rw [List.mem_singleton.1 hq]; exact hs
    obtain ⟨L, hL, hc, hs⟩ := hall len (Nat.le_refl _)
    subst hL
    refine ⟨_, L, rfl, ⟨some a, cap, rfl, hl, fun hn => ?_⟩, Nat.le_trans hl hm0, hs⟩
    obtain ⟨b, off, spot⟩ := a
    have hfirst := hc 0 L[0] (by simp [hn])
    obtain ⟨_, _, hcell⟩ := World.cells?_some hfirst
    have h0 := hcell 0 (by omega)
    have hspot : spot = none := by simpa [Addr.add] using World.cell?_spot (h0.trans (by rfl))
    subst hspot
    refine ⟨b, off, rfl, World.block_lt_of_cell? w _ (h0.trans (by rfl)), fun i r hi => ?_⟩
    obtain ⟨_, _, hcell⟩ := World.cells?_some (hc i r hi)
    have c0 := hcell 0 (by omega)
    have c1 := hcell 1 (by omega)
    have c2 := hcell 2 (by omega)
    have c3 := hcell 3 (by omega)
    have c4 := hcell 4 (by omega)
    simp [Addr.add_lit] at c0 c1 c2 c3 c4
    exact ⟨c0, c1, c2, c3, c4⟩
end
end Go.Proofs.YtciflchaepchiaaDoor.Recs

/- Plain facts on lists of bytes: parents, joined paths, the order of paths, what is below a path. -/
namespace Go.Proofs.YtciflchaepchiaaDoor

theorem join_snoc (A : List (List UInt8)) (h : A ≠ []) (b : List UInt8) : Lib.join (A ++ [b]) [47] = Lib.join A [47] ++ 47 :: b := by
  cases A with
  | nil => exact absurd rfl h
  | cons a t =>
    rw [List.cons_append, Lib.join_cons, Lib.join_cons]
    simp [Lib.joinTail]
theorem Clear.start (s : ByteArray) : Clear s.data.toList s.size := by
  unfold Clear
  rw [drop_end s s.size (by omega)]
  simp
theorem Clear.down {s : ByteArray} {k : Nat} (hk : k < s.size) (h : Clear s.data.toList (k + 1)) (hne : s[k] ≠ 47) : Clear s.data.toList k := by
  unfold Clear
  rw [drop_cons s k hk]
  intro c hc
  rcases List.mem_cons.1 hc with rfl | hc
  · exact hne
  · exact h c hc
/-! ### A path and one part more -/
theorem pathB_parts {l : List UInt8} (h : pathB l = true) : (cutAt 47 l).length ≤ 4 ∧ (cutAt 47 l).all partB = true := by
  unfold pathB at h
  simp only [Bool.and_eq_true, decide_eq_true_eq] at h
  exact h
/-! ### The order of paths -/
def lessP : List (List UInt8) → List (List UInt8) → Bool
  | [], [] => false
  | [], _ :: _ => true
  | _ :: _, [] => false
  | a :: A, b :: B => if a = b then lessP A B else Op.bytesLess a b
def cmpP : List (List UInt8) → List (List UInt8) → Int
  | [], [] => 0
  | [], _ :: _ => -1
  | _ :: _, [] => 1
  | a :: A, b :: B => if Op.bytesLess a b then -1 else if a = b then cmpP A B else 1
theorem bytesLess_irrefl (a : List UInt8) : Op.bytesLess a a = false := by
  induction a with
  | nil => rfl
  | cons c r ih => simp [Op.bytesLess, ih]
theorem less_cmp : ∀ A B : List (List UInt8), decide (cmpP A B < 0) = lessP A B
  | [], [] => rfl
  | [], _ :: _ => rfl
  | _ :: _, [] => rfl
  | a :: A, b :: B => by
    by_cases h : a = b
    · subst h
      have e1 : cmpP (a :: A) (a :: B) = cmpP A B := by simp [cmpP, bytesLess_irrefl]
      have e2 : lessP (a :: A) (a :: B) = lessP A B := by simp [lessP]
      rw [e1, e2]
      exact less_cmp A B
    · have e2 : lessP (a :: A) (b :: B) = Op.bytesLess a b := by simp [lessP, h]
      have e1 : cmpP (a :: A) (b :: B) = if Op.bytesLess a b then -1 else 1 := by simp [cmpP, h]
      rw [e1, e2]
      cases Op.bytesLess a b <;> rfl
theorem lessP_drop {A B : List (List UInt8)} {k : Nat} (ha : k < A.length) (hb : k < B.length) :
    lessP (A.drop k) (B.drop k) = if A[k] = B[k] then lessP (A.drop (k + 1)) (B.drop (k + 1)) else Op.bytesLess A[k] B[k] := by
  rw [List.drop_eq_getElem_cons ha, List.drop_eq_getElem_cons hb]
  rfl
theorem cmpP_drop {A B : List (List UInt8)} {k : Nat} (ha : k < A.length) (hb : k < B.length) :
    cmpP (A.drop k) (B.drop k) = if Op.bytesLess A[k] B[k] then -1 else if A[k] = B[k] then cmpP (A.drop (k + 1)) (B.drop (k + 1)) else 1 := by
  rw [List.drop_eq_getElem_cons ha, List.drop_eq_getElem_cons hb]
  rfl
theorem lessP_end {A B : List (List UInt8)} {k : Nat} (h : ¬ (k < A.length ∧ k < B.length)) (ha : k ≤ A.length) (hb : k ≤ B.length) : lessP (A.drop k) (B.drop k) = decide (A.length < B.length) := by
  by_cases h1 : k < A.length
  · have : k = B.length := by omega
    rw [List.drop_eq_getElem_cons h1, List.drop_of_length_le (l := B) (by omega), decide_eq_false (by omega)]
    rfl
  · rw [List.drop_of_length_le (l := A) (by omega)]
    by_cases h2 : k < B.length
    · rw [List.drop_eq_getElem_cons h2, decide_eq_true (by omega)]
      rfl
    · rw [List.drop_of_length_le (l := B) (by omega), decide_eq_false (by omega)]
      rfl
theorem cmpP_nilL {A B : List (List UInt8)} {k : Nat} (ha : k = A.length) (hb : k ≤ B.length) : cmpP (A.drop k) (B.drop k) = if A.length < B.length then -1 else 0 := by
  rw [List.drop_of_length_le (l := A) (by omega)]
  by_cases h2 : k < B.length
  · rw [List.drop_eq_getElem_cons h2, if_pos (by omega)]
    rfl
  · rw [List.drop_of_length_le (l := B) (by omega), if_neg (by omega)]
    rfl
theorem cmpP_nilR {A B : List (List UInt8)} {k : Nat} (ha : k < A.length) (hb : B.length ≤ k) : cmpP (A.drop k) (B.drop k) = 1 := by
  rw [List.drop_eq_getElem_cons ha, List.drop_of_length_le (l := B) hb]
  rfl

/-! ### Below a path -/
end Go.Proofs.YtciflchaepchiaaDoor

/- Layers as plain lists of records: the place of a path, the first fault, what lies under an opaque directory, the canonical form. -/
namespace Go.Proofs.YtciflchaepchiaaDoor.Recs
open Go.RowKit Paths

/-- The place of the first record of a path, counted from n on; -1 of none. -/
def atFrom : List R → Nat → ByteArray → Int
  | [], _, _ => -1
  | r :: t, n, q => if r.p = q then (n : Int) else atFrom t (n + 1) q
def atL (l : List R) (q : ByteArray) : Int := atFrom l 0 q
theorem atFrom_step {l : List R} {k : Nat} (h : k < l.length) (q : ByteArray) : atFrom (l.drop k) k q = if l[k].p = q then (k : Int) else atFrom (l.drop (k + 1)) (k + 1) q := by
  rw [List.drop_eq_getElem_cons h]
  rfl
theorem atFrom_end {l : List R} {k : Nat} (h : l.length ≤ k) (q : ByteArray) : atFrom (l.drop k) k q = -1 := by
  rw [List.drop_eq_nil_of_le h]
  rfl
theorem atFrom_cases : ∀ (l : List R) (n : Nat) (q : ByteArray), (atFrom l n q = -1 ∧ ∀ r ∈ l, r.p ≠ q) ∨ ∃ i : Nat, ∃ h : i < l.length, atFrom l n q = ((n + i : Nat) : Int) ∧ l[i].p = q ∧ ∀ j (hj : j < i), l[j].p ≠ q
  | [], _, _ => .inl ⟨rfl, fun r hr => by cases hr⟩
  | r :: t, n, q => by
    by_cases h : r.p = q
    · exact .inr ⟨0, by simp, by simp [atFrom, h], h, fun j hj => by omega⟩
    · have e : atFrom (r :: t) n q = atFrom t (n + 1) q := by simp [atFrom, h]
      rcases atFrom_cases t (n + 1) q with ⟨h1, h2⟩ | ⟨i, hi, h1, h2, h3⟩
      · refine .inl ⟨e.trans h1, fun x hx => ?_⟩
        rcases List.mem_cons.1 hx with rfl | hx
        · exact h
        · exact h2 x hx
      · refine .inr ⟨i + 1, by simpa using hi, by rw [e, h1]; congr 1; omega, by simpa using h2, fun j hj => ?_⟩
        cases j with
        | zero => simpa using h
        | succ j => simpa using h3 j (by omega)
theorem atL_cases (l : List R) (q : ByteArray) : (atL l q = -1 ∧ ∀ r ∈ l, r.p ≠ q) ∨ ∃ i : Nat, ∃ h : i < l.length, atL l q = (i : Int) ∧ l[i].p = q ∧ ∀ j (hj : j < i), l[j].p ≠ q := by
  rcases atFrom_cases l 0 q with h | ⟨i, hi, h1, h2⟩
  · exact .inl h
  · exact .inr ⟨i, hi, by unfold atL; rw [h1]; simp, h2⟩

/-- The path without its last part, as a string. -/
def parO (p : ByteArray) : ByteArray := ⟨(parentL p.data.toList).toArray⟩
/-- The record before a place. -/
def beforeL (l : List R) (i : Nat) : Option R := if i = 0 then none else l[i - 1]?
/-- What is wrong with the record r at place i of a layer; 0 of nothing. -/
def codeAt (l : List R) (i : Nat) (r : R) : Int :=
  if i = 16 then 6 else if r.fault ≠ 0 then r.fault
  else if (beforeL l i).any (fun x => x.p = r.p) then 18
  else if (beforeL l i).any (fun x => !lessP (cutAt 47 x.p.data.toList) (cutAt 47 r.p.data.toList)) then 11
  else if parentL r.p.data.toList = [] then 0
  else if atL (l.take i) (parO r.p) < 0 then 12
  else if (l[(atL (l.take i) (parO r.p)).toNat]?).any (fun x => x.k ≠ 3) then 13 else 0
/-- The place of the first invalid record from i on, and its code. -/
def faultFrom (l : List R) (i : Nat) : Int × Int :=
  if h : i < l.length then (if codeAt l i l[i] ≠ 0 then ((i : Int), codeAt l i l[i]) else faultFrom l (i + 1)) else (0, 0)
termination_by l.length - i
def layerFaultL (l : List R) : Int × Int := faultFrom l 0
def layerOK (l : List R) : Bool := (layerFaultL l).2 == 0
theorem faultFrom_bad {l : List R} {i : Nat} (h : i < l.length) (hc : codeAt l i l[i] ≠ 0) : faultFrom l i = ((i : Int), codeAt l i l[i]) := by
  rw [faultFrom, dif_pos h, if_pos hc]
theorem faultFrom_good {l : List R} {i : Nat} (h : i < l.length) (hc : codeAt l i l[i] = 0) : faultFrom l i = faultFrom l (i + 1) := by
  rw [faultFrom, dif_pos h, if_neg (by simp [hc])]
theorem faultFrom_end {l : List R} {i : Nat} (h : l.length ≤ i) : faultFrom l i = (0, 0) := by
  rw [faultFrom, dif_neg (by omega)]
theorem faultFrom_all (l : List R) : ∀ (n i : Nat), l.length - i = n → (faultFrom l i).2 = 0 → ∀ j (h : j < l.length), i ≤ j → codeAt l j l[j] = 0 := by
  intro n
  induction n with
  | zero => intro i hi _ j hj hij; omega
  | succ n ih =>
    intro i hi h0 j hj hij
    have hlt : i < l.length := by omega
    by_cases hc : codeAt l i l[i] = 0
    · rw [faultFrom_good hlt hc] at h0
      rcases Nat.eq_or_lt_of_le hij with rfl | hlt2
      · exact hc
      · exact ih (i + 1) (by omega) h0 j hj hlt2
    · rw [faultFrom_bad hlt hc] at h0
      exact absurd h0 hc
theorem layer_all {l : List R} (h : layerOK l = true) {j : Nat} (hj : j < l.length) : codeAt l j l[j] = 0 :=
  faultFrom_all l _ 0 rfl (by simpa [layerOK, layerFaultL] using h) j hj (Nat.zero_le _)
theorem codeAt_zero {l : List R} {i : Nat} {r : R} (h : codeAt l i r = 0) : i ≠ 16 ∧ r.fault = 0 := by
  unfold codeAt at h
  split at h
  · cases h
  · split at h
    · rename_i h1 h2; exact absurd h h2
    · rename_i h1 h2; exact ⟨h1, by simpa using h2⟩
/-- A layer has at most 16 records, each of them valid. -/
theorem layer_len {l : List R} (h : layerOK l = true) : l.length ≤ 16 := by
  rcases Nat.lt_or_ge 16 l.length with h1 | h1
  · exact absurd rfl (codeAt_zero (layer_all h h1)).1
  · exact h1
theorem layer_rec {l : List R} (h : layerOK l = true) {r : R} (hr : r ∈ l) : r.fault = 0 := by
  obtain ⟨j, hj, rfl⟩ := List.getElem_of_mem hr
  exact (codeAt_zero (layer_all h hj)).2

end Go.Proofs.YtciflchaepchiaaDoor.Recs

/- Bytes of numbers and sums of bytes, plain. -/
namespace Go.Proofs.YtciflchaepchiaaDoor.Recs
open Go.RowKit

theorem twoB_len (n : Int) : (twoB n).length = 2 := rfl

/-- The sum of bytes. -/
def sumL (l : List UInt8) : Nat := l.foldl (fun n b => (263 * n + b.toNat + 1) % 65521) 1
theorem sum_step {l : List UInt8} {k : Nat} (hk : k < l.length) : sumL (l.take (k + 1)) = (263 * sumL (l.take k) + l[k].toNat + 1) % 65521 := by
  unfold sumL
  rw [List.take_add_one, List.getElem?_eq_getElem hk, Option.toList_some, List.foldl_append]
  rfl
theorem sum_fold (l : List UInt8) : ∀ n : Nat, n < 65521 → l.foldl (fun n b => (263 * n + b.toNat + 1) % 65521) n < 65521 := by
  induction l with
  | nil => intro n h; exact h
  | cons b l ih => intro n _; rw [List.foldl_cons]; exact ih _ (Nat.mod_lt _ (by omega))
theorem sum_lt (l : List UInt8) : sumL l < 65521 := sum_fold l 1 (by omega)
/-- A text with its sum behind it. -/
def withSumL (l : List UInt8) : List UInt8 := l ++ twoB (sumL l)
theorem withSum_len (l : List UInt8) : (withSumL l).length = l.length + 2 := by unfold withSumL; rw [List.length_append, twoB_len]

end Go.Proofs.YtciflchaepchiaaDoor.Recs

/- The binary encoding as plain lists of bytes: the sum, a record's bytes, a layer's bytes; the record at the head of a text; the reading of a whole layer. -/
namespace Go.Proofs.YtciflchaepchiaaDoor.Recs
open Go.RowKit Paths

theorem encR_len (r : R) : (encR r).length = r.p.size + r.b.size + 5 := by
  unfold encR
  simp only [List.length_append, List.length_cons, List.length_nil, twoB_len, ← Lib.size_eq]
  omega
/-- What lies ahead of a layer's own sum, of its first records. -/
def headL (n : Nat) (l : List R) : List UInt8 := [76, 89, 82] ++ [byI (n : Int)] ++ l.flatMap fun r => withSumL (encR r)
def encL (l : List R) : List UInt8 := withSumL (headL l.length l)
theorem head_snoc (n : Nat) {l : List R} {k : Nat} (hk : k < l.length) : headL n (l.take (k + 1)) = headL n (l.take k) ++ withSumL (encR l[k]) := by
  unfold headL
  rw [List.take_add_one, List.getElem?_eq_getElem hk, Option.toList_some, List.flatMap_append, List.append_assoc _ _ (withSumL _)]
  simp
theorem head_zero (n : Nat) (l : List R) : headL n (l.take 0) = [76, 89, 82] ++ [byI (n : Int)] := by simp [headL]
theorem flat_enc_le (l : List R) (h : ∀ r ∈ l, r.p.size ≤ 35 ∧ r.b.size ≤ 20) : (l.flatMap fun r => withSumL (encR r)).length ≤ 62 * l.length := by
  induction l with
  | nil => simp
  | cons r l ih =>
    have h1 := h r (by simp)
    have h2 := ih fun x hx => h x (List.mem_cons_of_mem _ hx)
    rw [List.flatMap_cons, List.length_append, withSum_len, encR_len, List.length_cons]
    omega
theorem head_le (n : Nat) {l : List R} (h : ∀ r ∈ l, r.p.size ≤ 35 ∧ r.b.size ≤ 20) (k : Nat) : (headL n (l.take k)).length ≤ 62 * l.length + 4 := by
  have h1 := flat_enc_le (l.take k) fun r hr => h r (List.mem_of_mem_take hr)
  have h2 : (l.take k).length ≤ l.length := by rw [List.length_take]; omega
  unfold headL
  simp only [List.length_append, List.length_cons, List.length_nil]
  omega

end Go.Proofs.YtciflchaepchiaaDoor.Recs

/- The sum of a text, LayerSum: of the program and of its model. No condition. -/
namespace Go.Proofs.YtciflchaepchiaaDoor.Recs
set_option maxRecDepth 100000
open Go.RowKit

theorem ret_i64 {a b : Int} (h : a = b) : Ending.returned (.int .i64 a) = .returned (.int .i64 b) := by rw [h]
set_option maxHeartbeats 800000 in
theorem l09Sum_any (s : ByteArray) (w : World) (hs : s.size ≤ maxLen) :
    Calls Tryd.prog 51 #[.string s] w fun e w' => e = .returned (.int .i64 (sumL s.data.toList : Int)) ∧ w = w' := by
  unfold maxLen at hs
  go_enter Tryd.func51, Tryd.ntmps51
  go_wp2_with fail
  go_loop [3, 4] (fun n i => ∃ k S : Nat, k ≤ s.size ∧ i = .int .i64 k ∧ n = .int .i64 S ∧ Hid (S = sumL (s.data.toList.take k))) (fun _ i => s.size - (intOf i).toNat)
  case atStart => exact ⟨0, 1, by omega, rfl, rfl, rfl⟩
  case round =>
    obtain ⟨k, S, hk, rfl, rfl, HS⟩ := hrel
    have hlt65 : S < 65521 := by rw [HS.out]; exact sum_lt _
    by_cases hlt : k < s.size
    · have hst := sum_step (l := s.data.toList) (k := k) (by rw [← Lib.size_eq]; exact hlt)
      have HN : Hid ((263 * S + s[k].toNat + 1) % 65521 = sumL (s.data.toList.take (k + 1))) := by
        show _ = _
        rw [hst, ← HS.out]
        rfl
      have hb := s[k].toNat_lt
      clear hst
      go_wp2_with fail
      exact ⟨⟨k + 1, (263 * S + s[k].toNat + 1) % 65521, by omega, by go_num, by go_num, HN⟩, by simp [intOf]; omega⟩
    · have HE : Hid (S = sumL s.data.toList) := by show _ = _; rw [HS.out, List.take_of_length_le (by rw [← Lib.size_eq]; omega)]
      go_wp2_with fail
      go_ret
      exact ⟨ret_i64 (by rw [HE.out]), rfl⟩

set_option maxHeartbeats 800000 in
theorem sumOf_any (s : ByteArray) (w : World) (hs : s.size ≤ maxLen) :
    Calls Tryd.prog 56 #[.string s] w fun e w' => e = .returned (.int .i64 (sumL s.data.toList : Int)) ∧ Below w.heap.size w w' := by
  have kc := fun (w : World) => Lib.run_convert_string_bytes (P := Tryd.prog) w 9 63 5 s Tryd.underlying9 Tryd.underlying63 Tryd.underlying5
  have hB0 : Below w.heap.size w (Lib.bytesWorld w 5 s) := bytes_below w 5 s
  have HC : Hid (∀ j (h : j < s.size), (Lib.bytesWorld w 5 s).cell? ⟨w.heap.size, j, none⟩ = some (.int .u8 s[j].toNat)) := fun j h => bytes_cell w 5 s h
  generalize hcap : grownCap w s.size 0 5 = cap at *
  clear hcap
  unfold maxLen at hs
  go_enter Tryd.func56, Tryd.ntmps56
  go_wp2_with fail
  generalize Lib.bytesWorld w 5 s = W at *
  go_loop [3, 9] (fun n i => ∃ k S : Nat, k ≤ s.size ∧ i = .int .i64 k ∧ n = .int .i64 S ∧ Hid (S = sumL (s.data.toList.take k))) (fun _ i => s.size - (intOf i).toNat)
  case atStart => exact ⟨0, 1, by omega, rfl, rfl, rfl⟩
  case round =>
    obtain ⟨k, S, hk, rfl, rfl, HS⟩ := hrel
    have hlt65 : S < 65521 := by rw [HS.out]; exact sum_lt _
    by_cases hlt : k < s.size
    · have hst := sum_step (l := s.data.toList) (k := k) (by rw [← Lib.size_eq]; exact hlt)
      have HN : Hid ((263 * S + s[k].toNat + 1) % 65521 = sumL (s.data.toList.take (k + 1))) := by
        show _ = _
        rw [hst, ← HS.out]
        rfl
      have hb := s[k].toNat_lt
      have cc := HC.out k hlt
      generalize s[k].toNat = q at *
      have hi1 : (k : Int) < (s.size : Int) := by omega
      have hi0 : (0 : Int) ≤ (k : Int) := by omega
      clear hst
      go_wp2_with fail
      exact ⟨⟨k + 1, (263 * S + q + 1) % 65521, by omega, by go_num, by go_num, HN⟩, by simp [intOf]; omega⟩
    · have HE : Hid (S = sumL s.data.toList) := by show _ = _; rw [HS.out, List.take_of_length_le (by rw [← Lib.size_eq]; omega)]
      go_wp2_with fail
      go_ret
      exact ⟨ret_i64 (by rw [HE.out]), hB0⟩
end Go.Proofs.YtciflchaepchiaaDoor.Recs

/- Layers: the place of a path, the first fault: the model's side. -/
namespace Go.Proofs.YtciflchaepchiaaDoor.Recs
set_option maxRecDepth 100000
open Go.RowKit Paths

theorem str_eq_of {a b : ByteArray} (h : (a.toList == b.toList) = true) : a = b := by
  have := eq_of_beq h
  rw [Lib.toList_data, Lib.toList_data] at this
  exact ByteArray.ext (Array.toList_inj.1 this)

set_option maxHeartbeats 400000 in
theorem l03At_any (v : Value) (l : List R) (q : ByteArray) (w : World) (h : RecSl w v l) (hl : l.length ≤ 1048576) :
    Calls Tryd.prog 66 #[v, .string q] w fun e w' => e = .returned (.int .i64 (atL l q)) ∧ w = w' := by
  obtain ⟨A, cap, rfl, hcap, h⟩ := h
  have H := Lib.hid h
  clear h
  go_enter Tryd.func66, Tryd.ntmps66
  go_wp2
  go_loop [5] (fun i => ∃ k : Nat, k ≤ l.length ∧ i = .int .i64 k ∧ Hid (atL l q = atFrom (l.drop k) k q)) (fun i => l.length - (intOf i).toNat)
  case atStart => exact ⟨0, by omega, rfl, rfl⟩
  case round =>
    obtain ⟨k, hk, rfl, HK⟩ := hrel
    by_cases hlt : k < l.length
    · obtain ⟨b, off, rfl, hb, hcell⟩ := H.out (by omega)
      obtain ⟨_, hc1, _⟩ := hcell k l[k] (by simp [hlt])
      have HS := Lib.hid (HK.out.trans (atFrom_step hlt q))
      clear hcell HK
      have hi1 : (k : Int) < (l.length : Int) := by omega
      have hi0 : (0 : Int) ≤ (k : Int) := by omega
      rcases Bool.eq_false_or_eq_true (l[k].p.toList == q.toList) with he | he
      · have HE : Hid (atL l q = k) := by show _ = _; rw [HS.out, if_pos (str_eq_of he)]
        go_wp2
        go_ret
        exact ⟨ret_int HE.out.symm, rfl⟩
      · have HE : Hid (atL l q = atFrom (l.drop (k + 1)) (k + 1) q) := by show _ = _; rw [HS.out, if_neg (fun e => by rw [e] at he; simp at he)]
        go_wp2
        exact ⟨⟨k + 1, by omega, by go_num, HE⟩, by simp [intOf]; omega⟩
    · have HE := Lib.hid (HK.out.trans (atFrom_end (by omega) q))
      go_wp2
      go_ret
      exact ⟨ret_int HE.out.symm, rfl⟩
end Go.Proofs.YtciflchaepchiaaDoor.Recs

/- Slices of records in memory of their own: what is written into one; the laws' own size, copy and comparison of such slices. -/
namespace Go.Proofs.YtciflchaepchiaaDoor.Recs
set_option maxRecDepth 100000
open Go.RowKit Paths

theorem RowOf.sl {w : World} {base : Nat} {v : Value} {n : Nat} {M : List R} (h : RowOf w base v n M) : RecSl w v M := by
  obtain ⟨rfl, h⟩ := h
  rcases h.2 with ⟨rfl, hn⟩ | ⟨g, cap, cur, rfl, hb, hg, hc, _⟩
  · exact ⟨none, 0, by rw [hn], by omega, fun h => by omega⟩
  · refine ⟨_, cap, rfl, hc, fun _ => ⟨g, 0, rfl, (Array.getElem?_eq_some_iff.1 hg).1, fun i r hi => ?_⟩⟩
    have hlt : i < M.length := (List.getElem?_eq_some_iff.1 hi).1
    have one : ∀ c, c < 5 → w.cell? ⟨g, i * 5 + c, none⟩ = r.cs[c]? := fun c hc => by
      rw [h.cellAt (i * 5 + c) (by omega), flat_get]
      have e1 : (i * 5 + c) / 5 = i := by omega
      have e2 : (i * 5 + c) % 5 = c := by omega
      rw [e1, e2, hi]
      rfl
    rw [Nat.zero_add]
    exact ⟨one 0 (by omega), one 1 (by omega), one 2 (by omega), one 3 (by omega), one 4 (by omega)⟩
end Go.Proofs.YtciflchaepchiaaDoor.Recs

/- The laws' own copy of a slice of records, its size, its comparison. -/
namespace Go.Proofs.YtciflchaepchiaaDoor.Recs
set_option maxRecDepth 100000
open Go.RowKit Paths

theorem recInfo : (Tryd.prog.info? 27).map (fun i => (i.zero, i.size, i.bytes)) = some (some (.agg #[.int .i64 0, .string ByteArray.empty, .string ByteArray.empty, .int .i64 0, .bool false]), 5, 56) := by kernel_rfl
theorem made_flat (n : Nat) : (madeCells (Value.agg #[.int .i64 0, .string ByteArray.empty, .string ByteArray.empty, .int .i64 0, .bool false]).cells (n * 5)).toList = flat (List.replicate n zR) := by
  apply List.ext_getElem?
  intro j
  rw [flat_get]
  by_cases hj : j < n * 5
  · have h1 : j / 5 < n := by omega
    rw [List.getElem?_replicate, if_pos h1]
    have h5 : j % 5 < 5 := Nat.mod_lt _ (by omega)
    have e : j % 5 = 0 ∨ j % 5 = 1 ∨ j % 5 = 2 ∨ j % 5 = 3 ∨ j % 5 = 4 := by omega
    rcases e with e | e | e | e | e <;> simp [madeCells, hj, Value.cells, R.cs, zR, e]
  · have h1 : ¬ j / 5 < n := by omega
    rw [List.getElem?_replicate, if_neg h1]
    simp [madeCells, hj]

theorem set_take {M l : List R} {j : Nat} (hm : j < M.length) (hl : j < l.length) (h : M.take j = l.take j) : (M.set j l[j]).take (j + 1) = l.take (j + 1) := by
  rw [List.take_succ_eq_append_getElem (by simpa using hm), List.take_succ_eq_append_getElem hl, List.take_set, List.set_eq_of_length_le (by rw [List.length_take]; omega), h]
  simp

set_option maxHeartbeats 800000 in
theorem toRecordS_any (v : Value) (l : List R) (w : World) (h : RecSl w v l) (hl : l.length ≤ 1048576) :
    Calls Tryd.prog 17 #[v] w fun e w' => ∃ x, e = .returned x ∧ Below w.heap.size w w' ∧ RowOf w' w.heap.size x l.length l := by
  obtain ⟨i0, hi, hz0, hz1, hz2⟩ := info_parts recInfo
  obtain ⟨A, cap, rfl, hcap, h⟩ := h
  have H := Lib.hid h
  clear h
  obtain ⟨w0, hr, hown, hg⟩ := run_make_full (P := Tryd.prog) w w.heap.size 37 27 i0 _ 5 Tryd.underlying37 hi hz0 hz1 .i64 .i64 l.length (by rw [hz2]; omega) (by unfold maxLen; omega) (Nat.le_refl _)
  rw [made_flat] at hown
  have hrow : RowOf w0 w.heap.size (.slice (some ⟨w.heap.size, 0, none⟩) l.length l.length) l.length (List.replicate l.length zR) := ⟨by simp, hown⟩
  have hb0 : Below w.heap.size w w0 := (Below.refl _ _).grown hg (Nat.le_refl _) (fun k hk => by cases hk)
  clear hown hg
  go_enter Tryd.func17, Tryd.ntmps17
  go_wp2
  go_loopw [4] (fun i wr => ∃ (j : Nat) (M : List R), j ≤ l.length ∧ i = .int .i64 j ∧ RowOf wr w.heap.size (.slice (some ⟨w.heap.size, 0, none⟩) l.length l.length) l.length M ∧ Hid (M.take j = l.take j) ∧ Below w.heap.size w wr) (fun i _ => l.length - (intOf i).toNat)
  case atStart => exact ⟨0, _, by omega, rfl, hrow, rfl, hb0⟩
  case round =>
    obtain ⟨j, M, hj, rfl, hrj, HM, hbw⟩ := hrel
    by_cases hlt : j < l.length
    · obtain ⟨b, off, rfl, hb, hcell⟩ := H.out (by omega)
      obtain ⟨c0, c1, c2, c3, c4⟩ := (hcell j l[j] (by simp [hlt])).below hbw hb
      clear hcell
      have hi1 : (j : Int) < (l.length : Int) := by omega
      have hi0 : (0 : Int) ≤ (j : Int) := by omega
      go_wp2_with fail
      refine (toRecord_any _ _ _ _ _ _).mono ?_
      rintro e w1 ⟨rfl, hb1⟩
      have hr1 := hrj.below hb1
      have hm : j < M.length := by rw [hrj.1]; exact hlt
      obtain ⟨d0, d1, d2, d3, d4⟩ := hr1.cells hm
      have hf := hr1.frozen
      have HS := Lib.hid (hr1.store l[j] hm)
      have HT := Lib.hid (set_take hm hlt HM.out)
      have hbw1 := hbw.trans (hb1.mono hbw.size)
      clear hr1 c0 c1 c2 c3 c4
      go_wp2
      go_roundw
      case rel => exact ⟨j + 1, _, by omega, by go_num, HS.out.1, HT, hbw1.grown HS.out.2 hbw1.size (fun k hk => by cases hk; exact Nat.le_refl _)⟩
      case measure => simp [intOf]; omega
    · obtain rfl : j = l.length := by omega
      go_wp2
      go_ret
      refine ⟨_, rfl, hbw, ?_⟩
      have := HM.out
      rw [List.take_of_length_le (by rw [hrj.1]; exact Nat.le_refl _), List.take_of_length_le (Nat.le_refl _)] at this
      subst this
      exact hrj

set_option maxHeartbeats 800000 in
theorem eqRecordS_same (v1 v2 : Value) (l : List R) (w : World) (h1 : RecSl w v1 l) (h2 : RecSl w v2 l) (hl : l.length ≤ 1048576) :
    Calls Tryd.prog 19 #[v1, v2] w fun e w' => e = .returned (.bool true) ∧ Below w.heap.size w w' := by
  obtain ⟨A1, cap1, rfl, hcap1, h1⟩ := h1
  obtain ⟨A2, cap2, rfl, hcap2, h2⟩ := h2
  have H1 := Lib.hid h1
  have H2 := Lib.hid h2
  clear h1 h2
  go_enter Tryd.func19, Tryd.ntmps19
  go_wp2
  go_loopw [5] (fun i wr => ∃ (j : Nat), j ≤ l.length ∧ i = .int .i64 j ∧ Below w.heap.size w wr) (fun i _ => l.length - (intOf i).toNat)
  case atStart => exact ⟨0, by omega, rfl, Below.refl _ _⟩
  case round =>
    obtain ⟨j, hj, rfl, hbw⟩ := hrel
    by_cases hlt : j < l.length
    · obtain ⟨b1, off1, rfl, hb1, hcell1⟩ := H1.out (by omega)
      obtain ⟨b2, off2, rfl, hb2, hcell2⟩ := H2.out (by omega)
      obtain ⟨c0, c1, c2, c3, c4⟩ := (hcell1 j l[j] (by simp [hlt])).below hbw hb1
      obtain ⟨d0, d1, d2, d3, d4⟩ := (hcell2 j l[j] (by simp [hlt])).below hbw hb2
      clear hcell1 hcell2
      have hi1 : (j : Int) < (l.length : Int) := by omega
      have hi0 : (0 : Int) ≤ (j : Int) := by omega
      go_wp2_with fail
      go_still_tail 8, (by kernel_rfl)
      change wpList _ _ _ _ _ wr.drew
      have hbw' : Below w.heap.size w wr.drew := hbw.drew
      clear hbw
      generalize wr.drew = W2 at *
      go_wp2_with fail
      refine (eqRecord_any _ _ _ _ _ _).mono ?_
      rintro e w1 ⟨rfl, hb1⟩
      go_wp2_with fail
      go_roundw
      case rel => exact ⟨j + 1, by omega, by go_num, hbw'.trans (hb1.mono hbw'.size)⟩
      case measure => simp [intOf]; omega
    · obtain rfl : j = l.length := by omega
      go_wp2
      go_ret
      exact ⟨rfl, hbw⟩
end Go.Proofs.YtciflchaepchiaaDoor.Recs
