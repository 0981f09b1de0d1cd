/- Parts of several texts of mine in one file (each begins with its own remark). -/
import Derived.Test.YtibekkfbpmloiabGreatDoorCA1
import Derived.Test.YtibekkfbpmloiabGreatDoorCA2
import Derived.Test.YtibekkfbpmloiabGreatDoorCA3
import Derived.Test.YtibekkfbpmloiabGreatDoorCA4
import Derived.Test.YtibekkfbpmloiabGreatDoorChecked
import Derived.StillTailTactics
import Derived.Laws.OwnMore
import Derived.BigQuiet
import Derived.BigRegion
import Derived.Deep.QuietTactic
import Derived.Deep.RegionHeld3
import Derived.Deep.Slices
import Derived.OpenShut
import Derived.ShutString
import Derived.ChangeArms
import Derived.WideShapes
import Derived.Lib.LaidTab
import Derived.Deep.Draws
import Derived.Deep.LoopGhost
import Derived.WalkKit
import Derived.WalkSpells
import Derived.WalkSmall
import Derived.Lib.OthersKept
import Derived.Lib.Hide
import Derived.Lib.Strings
import Derived.Lib.Join
import Derived.Laws.BytesArg
/- Slices of nodes in memory of their own; the laws' own copy, size and comparison of slices of nodes. -/
namespace Go.Proofs.YtibekkfbpmloiabGreatDoor.Recs
set_option maxRecDepth 100000
open Go.RowKit Paths

/-- A node's four cells. -/
def R.ns (r : R) : List Value := [.int .i64 r.k, .string r.p, .string r.b, .int .i64 r.m]
def flatN (l : List R) : List Value := l.flatMap R.ns
theorem flatN_len (l : List R) : (flatN l).length = l.length * 4 := by
  induction l with
  | nil => rfl
  | cons r t ih => simp only [flatN, List.flatMap_cons, List.length_append, List.length_cons] at ih ⊢; rw [ih]; simp [R.ns]; omega
theorem flatN_get : ∀ (l : List R) (j : Nat), (flatN l)[j]? = (l[j / 4]?).bind fun r => r.ns[j % 4]?
  | [], j => by simp [flatN]
  | r :: t, j => by
    have ih := flatN_get t (j - 4)
    by_cases hj : j < 4
    · have e1 : j / 4 = 0 := by omega
      have e2 : j % 4 = j := by omega
      rw [e1, e2]
      simp only [flatN, List.flatMap_cons]
      rw [List.getElem?_append_left (by simp [R.ns]; omega)]
      simp
    · have e1 : j / 4 = (j - 4) / 4 + 1 := by omega
      have e2 : j % 4 = (j - 4) % 4 := by omega
      rw [e1, e2]
      simp only [flatN, List.flatMap_cons]
      rw [List.getElem?_append_right (by simp [R.ns]; omega)]
      simp only [R.ns, List.length_cons, List.length_nil]
      exact ih
theorem flatN_field {M : List R} {i c : Nat} {r : R} {u : Value} (hi : i < M.length) (hc : c < 4) (h : r.ns = M[i].ns.set c u) : flatN (M.set i r) = (flatN M).set (i * 4 + c) u := by
  apply List.ext_getElem?
  intro j
  rw [flatN_get, List.getElem?_set, List.getElem?_set, flatN_len, flatN_get]
  by_cases hj : i = j / 4
  · rw [if_pos hj, if_pos (by omega)]
    simp only [Option.bind_some]
    rw [h, List.getElem?_set]
    by_cases hk : c = j % 4
    · rw [if_pos hk, if_pos (by simp [R.ns]; omega), if_pos (by omega), if_pos (by omega)]
    · rw [if_neg hk, if_neg (by omega), ← hj, List.getElem?_eq_getElem hi]
      rfl
  · rw [if_neg hj, if_neg (by omega)]

/-- A slice in memory of its own that holds the nodes M. -/
def RowN (w : World) (base : Nat) (v : Value) (n : Nat) (M : List R) : Prop := M.length = n ∧ w.ownsRow base 68 4 v n (flatN M) ∧ ∀ r ∈ M, r.o = false
theorem RowN.below {w w' : World} {base : Nat} {v : Value} {n : Nat} {M : List R} (h : RowN w base v n M) (hb : Below w.heap.size w w') : RowN w' base v n M := ⟨h.1, own_below h.2.1 hb, h.2.2⟩
theorem RowN.sl {w : World} {base : Nat} {v : Value} {n : Nat} {M : List R} (h : RowN w base v n M) : NodSl w v M := by
  obtain ⟨rfl, h, ho⟩ := h
  refine ⟨ho, ?_⟩
  rcases h.2 with ⟨rfl, hn⟩ | ⟨g, cap, cur, rfl, hb, hg, hc, _⟩
  · exact ⟨none, 0, by rw [hn], by omega, fun h => by omega⟩
  · refine ⟨_, cap, rfl, hc, fun _ => ⟨g, 0, rfl, (Array.getElem?_eq_some_iff.1 hg).1, fun i r hi => ?_⟩⟩
    have hlt : i < M.length := (List.getElem?_eq_some_iff.1 hi).1
    have one : ∀ c, c < 4 → w.cell? ⟨g, i * 4 + c, none⟩ = r.ns[c]? := fun c hc => by
      rw [h.cellAt (i * 4 + c) (by omega), flatN_get]
      have e1 : (i * 4 + c) / 4 = i := by omega
      have e2 : (i * 4 + c) % 4 = c := by omega
      rw [e1, e2, hi]
      rfl
    rw [Nat.zero_add]
    exact ⟨one 0 (by omega), one 1 (by omega), one 2 (by omega), one 3 (by omega)⟩
theorem RowN.field {w : World} {base g cap n : Nat} {M : List R} {i c : Nat} {r : R} {u : Value} (h : RowN w base (.slice (some ⟨g, 0, none⟩) n cap) n M) (hi : i < M.length) (hc : c < 4) (hr : r.ns = M[i].ns.set c u) (ho : r.o = false) :
    RowN (w.setCell ⟨g, i * 4 + c, none⟩ u) base (.slice (some ⟨g, 0, none⟩) n cap) n (M.set i r) ∧ w.grownBy (w.setCell ⟨g, i * 4 + c, none⟩ u) (some g) := by
  obtain ⟨h1, h2⟩ := h.2.1.stored (i * 4 + c) u
  exact ⟨⟨by rw [List.length_set]; exact h.1, by rw [flatN_field hi hc hr]; exact h1, fun x hx => (List.mem_or_eq_of_mem_set hx).elim (h.2.2 x) (fun e => by rw [e]; exact ho)⟩, h2⟩
theorem RowN.frozen {w : World} {base g cap n : Nat} {M : List R} (h : RowN w base (.slice (some ⟨g, 0, none⟩) n cap) n M) (j : Nat) : w.frozen? ⟨g, j, none⟩ = false := h.2.1.frozenAt j
theorem RowN.cells {w : World} {base g cap n : Nat} {M : List R} (h : RowN w base (.slice (some ⟨g, 0, none⟩) n cap) n M) {i : Nat} (hi : i < M.length) : NodCells w g (i * 4) M[i] := by
  have one : ∀ c, c < 4 → w.cell? ⟨g, i * 4 + c, none⟩ = M[i].ns[c]? := fun c hc => by
    rw [h.2.1.cellAt (i * 4 + c) (by rw [← h.1]; omega), flatN_get]
    have e1 : (i * 4 + c) / 4 = i := by omega
    have e2 : (i * 4 + c) % 4 = c := by omega
    rw [e1, e2, List.getElem?_eq_getElem hi]
    rfl
  exact ⟨one 0 (by omega), one 1 (by omega), one 2 (by omega), one 3 (by omega)⟩
/-- A whole node written. -/
theorem RowN.store {w : World} {base g cap n : Nat} {M : List R} {i : Nat} (r : R) (h : RowN w base (.slice (some ⟨g, 0, none⟩) n cap) n M) (hi : i < M.length) (ho : r.o = false) :
    RowN ((((w.setCell ⟨g, i * 4, none⟩ (.int .i64 r.k)).setCell ⟨g, i * 4 + 1, none⟩ (.string r.p)).setCell ⟨g, i * 4 + 2, none⟩ (.string r.b)).setCell ⟨g, i * 4 + 3, none⟩ (.int .i64 r.m)) base (.slice (some ⟨g, 0, none⟩) n cap) n (M.set i r) ∧
    w.grownBy ((((w.setCell ⟨g, i * 4, none⟩ (.int .i64 r.k)).setCell ⟨g, i * 4 + 1, none⟩ (.string r.p)).setCell ⟨g, i * 4 + 2, none⟩ (.string r.b)).setCell ⟨g, i * 4 + 3, none⟩ (.int .i64 r.m)) (some g) := by
  have hM := h.2.2 M[i] (List.getElem_mem hi)
  obtain ⟨a1, b1⟩ := h.field (i := i) (c := 0) (r := { M[i] with k := r.k }) (u := .int .i64 r.k) hi (by omega) rfl hM
  obtain ⟨a2, b2⟩ := a1.field (i := i) (c := 1) (r := { M[i] with k := r.k, p := r.p }) (u := .string r.p) (by simpa using hi) (by omega) (by simp [R.ns]) hM
  obtain ⟨a3, b3⟩ := a2.field (i := i) (c := 2) (r := { M[i] with k := r.k, p := r.p, b := r.b }) (u := .string r.b) (by simpa using hi) (by omega) (by simp [R.ns]) hM
  obtain ⟨a4, b4⟩ := a3.field (i := i) (c := 3) (r := r) (u := .int .i64 r.m) (by simpa using hi) (by omega) (by simp [R.ns]) ho
  refine ⟨?_, grown_trans (grown_trans (grown_trans b1 b2) b3) b4⟩
  simp only [List.set_set] at a4
  exact a4

theorem nodInfo : (Tryz.prog.info? 68).map (fun i => (i.zero, i.size, i.bytes)) = some (some (.agg #[.int .i64 0, .string ByteArray.empty, .string ByteArray.empty, .int .i64 0]), 4, 48) := by kernel_rfl
end Go.Proofs.YtibekkfbpmloiabGreatDoor.Recs

/- Plain facts on paths: a path is its parent and one part; the order of paths is strict and total; what is below a path follows it at once. -/
namespace Go.Proofs.YtibekkfbpmloiabGreatDoor

theorem bytesLess_cons (c d : UInt8) (a b : List UInt8) : Op.bytesLess (c :: a) (d :: b) = if c = d then Op.bytesLess a b else decide (c < d) := by
  simp only [Op.bytesLess]
  by_cases h : c = d
  · subst h; simp
  · simp [h]
theorem bytesLess_asymm : ∀ a b : List UInt8, Op.bytesLess a b = true → Op.bytesLess b a = false
  | [], [], h => by simp [Op.bytesLess] at h
  | [], _ :: _, _ => by simp [Op.bytesLess]
  | _ :: _, [], h => by simp [Op.bytesLess] at h
  | c :: a, d :: b, h => by
    rw [bytesLess_cons] at h ⊢
    by_cases e : c = d
    · subst e
      simp only [if_true] at h ⊢
      exact bytesLess_asymm a b h
    · rw [if_neg e] at h
      rw [if_neg (fun x => e x.symm)]
      simp at h ⊢
      exact UInt8.le_of_lt h
theorem bytesLess_total : ∀ a b : List UInt8, Op.bytesLess a b = false → Op.bytesLess b a = false → a = b
  | [], [], _, _ => rfl
  | [], _ :: _, h, _ => by simp [Op.bytesLess] at h
  | _ :: _, [], _, h => by simp [Op.bytesLess] at h
  | c :: a, d :: b, h, k => by
    rw [bytesLess_cons] at h k
    by_cases e : c = d
    · subst e
      simp only [if_true] at h k
      rw [bytesLess_total a b h k]
    · rw [if_neg e] at h
      rw [if_neg (fun x => e x.symm)] at k
      simp at h k
      exact absurd (UInt8.le_antisymm k h) e

theorem lessP_asymm : ∀ A B : List (List UInt8), lessP A B = true → lessP B A = false
  | [], [], h => by simp [lessP] at h
  | [], _ :: _, _ => rfl
  | _ :: _, [], h => by simp [lessP] at h
  | a :: A, b :: B, h => by
    simp only [lessP] at h ⊢
    by_cases e : a = b
    · subst e
      simp only [if_true] at h ⊢
      exact lessP_asymm A B h
    · rw [if_neg e] at h
      rw [if_neg (fun x => e x.symm)]
      exact bytesLess_asymm a b h
theorem lessP_total : ∀ A B : List (List UInt8), lessP A B = false → lessP B A = false → A = B
  | [], [], _, _ => rfl
  | [], _ :: _, h, _ => by simp [lessP] at h
  | _ :: _, [], _, h => by simp [lessP] at h
  | a :: A, b :: B, h, k => by
    simp only [lessP] at h k
    by_cases e : a = b
    · subst e
      simp only [if_true] at h k
      rw [lessP_total A B h k]
    · rw [if_neg e] at h
      rw [if_neg (fun x => e x.symm)] at k
      exact absurd (bytesLess_total a b h k) e
theorem lessP_prefix : ∀ (A : List (List UInt8)) (c : List UInt8) (C : List (List UInt8)), lessP A (A ++ c :: C) = true
  | [], _, _ => rfl
  | a :: A, c, C => by
    simp only [List.cons_append, lessP, if_true]
    exact lessP_prefix A c C
/-! ### A path is its parent and one part -/
theorem cut_parent (l : List UInt8) : cutAt 47 l = (cutAt 47 l).dropLast ++ [(cutAt 47 l).getLast (cutAt_ne 47 l)] := (List.dropLast_concat_getLast (cutAt_ne 47 l)).symm
theorem last_part {l : List UInt8} (h : pathB l = true) : partB ((cutAt 47 l).getLast (cutAt_ne 47 l)) = true :=
  List.all_eq_true.1 (pathB_parts h).2 _ (List.getLast_mem _)
theorem clean_of_all {L : List (List UInt8)} (h : L.all partB = true) (hn : L ≠ []) : cutAt 47 (Lib.join L [47]) = L := by
  induction L with
  | nil => exact absurd rfl hn
  | cons a r ih =>
    simp only [List.all_cons, Bool.and_eq_true] at h
    cases r with
    | nil => rw [Lib.join_one, cut_last h.1]
    | cons b t =>
      rw [join_two, cutAt_append, cut_last h.1, ih h.2 (by simp)]
      rfl
/-- What the parent of a path is: the root, or a path of one part less. -/
theorem parent_cases {l : List UInt8} (h : pathB l = true) :
    (parentL l = [] ∧ cutAt 47 l = [l] ∧ partB l = true) ∨
    (pathB (parentL l) = true ∧ cutAt 47 (parentL l) = (cutAt 47 l).dropLast ∧ parentL l ≠ [] ∧ l = parentL l ++ 47 :: (cutAt 47 l).getLast (cutAt_ne 47 l) ∧ (cutAt 47 l).dropLast ≠ []) := by
  obtain ⟨h4, ha⟩ := pathB_parts h
  have e := cut_parent l
  by_cases hd : (cutAt 47 l).dropLast = []
  · left
    rw [hd] at e
    have e2 := join_cut l
    rw [e, List.nil_append, Lib.join_one] at e2
    have hl := last_part h
    refine ⟨by unfold parentL; rw [hd]; rfl, ?_, by rw [e2] at hl; exact hl⟩
    rw [e, List.nil_append, e2]
  · right
    have hall : (cutAt 47 l).dropLast.all partB = true := by
      rw [List.all_eq_true] at ha ⊢
      exact fun x hx => ha x ((List.dropLast_sublist _).subset hx)
    have hc := clean_of_all hall hd
    have hp : pathB (parentL l) = true := by
      unfold pathB parentL
      rw [hc, hall, decide_eq_true (by rw [List.length_dropLast]; omega)]
      rfl
    refine ⟨hp, hc, pathB_ne hp, ?_, hd⟩
    have e2 := join_cut l
    rw [e, join_snoc _ hd] at e2
    exact e2.symm

end Go.Proofs.YtibekkfbpmloiabGreatDoor

/- Layers as plain lists of records: in a layer the paths increase, so each path is there once; a parent that is no root stands before its record, and is a directory; how far up one can go. -/
namespace Go.Proofs.YtibekkfbpmloiabGreatDoor.Recs
open Go.RowKit Paths

theorem bytesLess_trans : ∀ a b c : List UInt8, Op.bytesLess a b = true → Op.bytesLess b c = true → Op.bytesLess a c = true
  | [], [], _, h, _ => by simp [Op.bytesLess] at h
  | [], _ :: _, [], _, k => by simp [Op.bytesLess] at k
  | [], _ :: _, _ :: _, _, _ => by simp [Op.bytesLess]
  | _ :: _, [], _, h, _ => by simp [Op.bytesLess] at h
  | _ :: _, _ :: _, [], _, k => by simp [Op.bytesLess] at k
  | x :: a, y :: b, z :: c, h, k => by
    rw [bytesLess_cons] at h k ⊢
    by_cases e1 : x = y
    · subst e1
      by_cases e2 : x = z
      · subst e2
        simp only [if_true] at h k ⊢
        exact bytesLess_trans a b c h k
      · rw [if_neg e2] at k ⊢
        exact k
    · rw [if_neg e1] at h
      by_cases e2 : y = z
      · subst e2
        rw [if_neg e1]
        exact h
      · rw [if_neg e2] at k
        simp only [decide_eq_true_eq] at h k
        have h3 := UInt8.lt_trans h k
        rw [if_neg (fun e => by rw [e] at h3; exact absurd h3 (UInt8.lt_irrefl _))]
        simpa using h3
theorem lessP_trans : ∀ A B C : List (List UInt8), lessP A B = true → lessP B C = true → lessP A C = true
  | [], [], _, h, _ => by simp [lessP] at h
  | [], _ :: _, [], _, k => by simp [lessP] at k
  | [], _ :: _, _ :: _, _, _ => rfl
  | _ :: _, [], _, h, _ => by simp [lessP] at h
  | _ :: _, _ :: _, [], _, k => by simp [lessP] at k
  | a :: A, b :: B, c :: C, h, k => by
    simp only [lessP] at h k ⊢
    by_cases e1 : a = b
    · subst e1
      by_cases e2 : a = c
      · subst e2
        simp only [if_true] at h k ⊢
        exact lessP_trans A B C h k
      · rw [if_neg e2] at k ⊢
        simp only [if_true] at h
        exact k
    · rw [if_neg e1] at h
      by_cases e2 : b = c
      · subst e2
        rw [if_neg e1]
        exact h
      · rw [if_neg e2] at k
        have h3 := bytesLess_trans a b c h k
        rw [if_neg (fun e => by rw [e] at h3; rw [bytesLess_irrefl] at h3; cases h3)]
        exact h3
theorem lessP_irrefl (A : List (List UInt8)) : lessP A A = false := by
  rcases Bool.eq_false_or_eq_true (lessP A A) with h | h
  · have := lessP_asymm A A h; rw [h] at this; cases this
  · exact h

def lessR (x r : R) : Bool := lessP (cutAt 47 x.p.data.toList) (cutAt 47 r.p.data.toList)

/-- What a record that is fine says: the one before is less; the parent, where there is one, stands before, and is a directory. -/
theorem codeAt_parts {l : List R} {i : Nat} {r : R} (h : codeAt l i r = 0) :
    (∀ x, beforeL l i = some x → lessR x r = true) ∧ (parentL r.p.data.toList ≠ [] → 0 ≤ atL (l.take i) (parO r.p) ∧ ∀ x, l[(atL (l.take i) (parO r.p)).toNat]? = some x → x.k = 3) := by
  unfold codeAt at h
  split at h
  · cases h
  split at h
  · rename_i h1 h2; exact absurd h h2
  split at h
  · cases h
  split at h
  · cases h
  rename_i h4
  refine ⟨fun x hx => ?_, fun hp => ?_⟩
  · rw [hx] at h4
    simpa [lessR] using h4
  · rw [if_neg hp] at h
    split at h
    · cases h
    split at h
    · cases h
    rename_i h5 h6
    refine ⟨by omega, fun x hx => ?_⟩
    rw [hx] at h6
    simpa using h6

theorem layer_next {l : List R} (h : layerOK l = true) {i : Nat} (hi : i + 1 < l.length) : lessR (l[i]'(by omega)) l[i + 1] = true := by
  refine (codeAt_parts (layer_all h hi)).1 _ ?_
  unfold beforeL
  rw [if_neg (by omega)]
  simp [show i < l.length by omega]
theorem layer_less {l : List R} (h : layerOK l = true) : ∀ (n i j : Nat) (hj : j < l.length) (hij : j = i + 1 + n), lessR (l[i]'(by omega)) l[j] = true := by
  intro n
  induction n with
  | zero => intro i j hj hij; subst hij; exact layer_next h hj
  | succ n ih =>
    intro i j hj hij
    subst hij
    have h1 := ih i (i + 1 + n) (by omega) rfl
    have h2 := layer_next h (i := i + 1 + n) (by omega)
    exact lessP_trans _ _ _ h1 h2
theorem layer_lt {l : List R} (h : layerOK l = true) {i j : Nat} (hj : j < l.length) (hij : i < j) : lessR (l[i]'(by omega)) l[j] = true :=
  layer_less h (j - i - 1) i j hj (by omega)
/-- The parent of a record of a layer, where it is no root, stands before it and is a directory. -/
theorem layer_parent {l : List R} (h : layerOK l = true) {i : Nat} (hi : i < l.length) (hp : parentL l[i].p.data.toList ≠ []) :
    ∃ k, ∃ hk : k < i, (l[k]'(by omega)).p = parO l[i].p ∧ (l[k]'(by omega)).k = 3 := by
  obtain ⟨h1, h2⟩ := (codeAt_parts (layer_all h hi)).2 hp
  rcases atL_cases (l.take i) (parO l[i].p) with ⟨h3, _⟩ | ⟨k, hk, h3, h4, _⟩
  · omega
  · have hki : k < i := by rw [List.length_take] at hk; omega
    refine ⟨k, hki, by simpa using h4, h2 _ ?_⟩
    rw [h3]
    simp [show k < l.length by omega]

/-- How many parts a path has: one less for its parent. -/
theorem parts_parent {q : ByteArray} (h : pathB q.data.toList = true) (hp : parentL q.data.toList ≠ []) :
    pathB (parO q).data.toList = true ∧ (cutAt 47 (parO q).data.toList).length + 1 = (cutAt 47 q.data.toList).length := by
  rcases parent_cases h with ⟨h1, _⟩ | ⟨h1, h2, _, _, h5⟩
  · exact absurd h1 hp
  · rw [parO_data, h2]
    refine ⟨h1, ?_⟩
    rw [List.length_dropLast]
    have : (cutAt 47 q.data.toList).length ≠ 0 := fun e => cutAt_ne 47 _ (List.eq_nil_of_length_eq_zero e)
    omega
end Go.Proofs.YtibekkfbpmloiabGreatDoor.Recs

/- Layers as plain lists of records: when a list is a layer; the records of a canonical form; it is a layer. -/
namespace Go.Proofs.YtibekkfbpmloiabGreatDoor.Recs
open Go.RowKit Paths

/-- Increasing paths. -/
def Sorted (l : List R) : Prop := l.Pairwise fun x r => lessR x r = true
theorem layer_sorted {l : List R} (h : layerOK l = true) : Sorted l := by
  unfold Sorted
  rw [List.pairwise_iff_getElem]
  exact fun i j _ hj hij => layer_lt h hj hij

/-- The parent of each record, where it is no root, is a directory of the list. -/
def Housed (l : List R) : Prop := ∀ r ∈ l, parentL r.p.data.toList ≠ [] → ∃ x ∈ l, x.p = parO r.p ∧ x.k = 3
theorem layer_housed {l : List R} (h : layerOK l = true) : Housed l := by
  intro r hr hp
  obtain ⟨i, hi, rfl⟩ := List.getElem_of_mem hr
  obtain ⟨k, hk, h1, h2⟩ := layer_parent h hi hp
  exact ⟨_, List.getElem_mem _, h1, h2⟩

theorem lessR_irrefl (r : R) : lessR r r = false := lessP_irrefl _
theorem parent_less {q : ByteArray} (h : pathB q.data.toList = true) (hp : parentL q.data.toList ≠ []) : lessP (cutAt 47 (parO q).data.toList) (cutAt 47 q.data.toList) = true := by
  rcases parent_cases h with ⟨h1, _⟩ | ⟨_, h2, _, _, _⟩
  · exact absurd h1 hp
  · have e := cut_parent q.data.toList
    rw [parO_data, h2]
    rw [e]
    simp only [List.dropLast_concat]
    exact lessP_prefix _ _ _

theorem sorted_get {l : List R} (h : Sorted l) {i j : Nat} (hj : j < l.length) (hij : i < j) : lessR (l[i]'(by omega)) l[j] = true :=
  (List.pairwise_iff_getElem.1 h) i j (by omega) hj hij
theorem sorted_once {l : List R} (h : Sorted l) {i j : Nat} (hi : i < l.length) (hj : j < l.length) (he : l[i].p = l[j].p) : i = j := by
  rcases Nat.lt_trichotomy i j with h1 | h1 | h1
  · have := sorted_get h hj h1
    unfold lessR at this; rw [he, lessP_irrefl] at this; cases this
  · exact h1
  · have := sorted_get h hi h1
    unfold lessR at this; rw [he, lessP_irrefl] at this; cases this

/-- What makes a list a layer. -/
theorem layerOK_of {l : List R} (hl : l.length ≤ 16) (hf : ∀ r ∈ l, r.fault = 0) (hs : Sorted l) (hh : Housed l) : layerOK l = true := by
  have hall : ∀ i (hi : i < l.length), codeAt l i l[i] = 0 := by
    intro i hi
    have hfi := hf _ (List.getElem_mem hi)
    have hpath := (fault_path hfi).1
    have hbef : ∀ x, beforeL l i = some x → lessR x l[i] = true := by
      intro x hx
      unfold beforeL at hx
      split at hx
      · cases hx
      · rename_i h0
        have hlt : i - 1 < l.length := by omega
        rw [List.getElem?_eq_getElem hlt] at hx
        cases hx
        exact sorted_get hs hi (by omega)
    unfold codeAt
    rw [if_neg (by omega), if_neg (by simp [hfi])]
    have e1 : (beforeL l i).any (fun x => decide (x.p = l[i].p)) = false := by
      cases hb : beforeL l i with
      | none => rfl
      | some x =>
        have := hbef x hb
        simp only [Option.any_some, decide_eq_false_iff_not]
        intro e
        unfold lessR at this
        rw [e, lessP_irrefl] at this
        cases this
    have e2 : (beforeL l i).any (fun x => !lessP (cutAt 47 x.p.data.toList) (cutAt 47 l[i].p.data.toList)) = false := by
      cases hb : beforeL l i with
      | none => rfl
      | some x =>
        have := hbef x hb
        unfold lessR at this
        simp [this]
    rw [if_neg (by rw [e1]; decide), if_neg (by rw [e2]; decide)]
    by_cases hp : parentL l[i].p.data.toList = []
    · rw [if_pos hp]
    · rw [if_neg hp]
      obtain ⟨x, hx, hxp, hxk⟩ := hh _ (List.getElem_mem hi) hp
      obtain ⟨k, hk, rfl⟩ := List.getElem_of_mem hx
      have hki : k < i := by
        rcases Nat.lt_trichotomy k i with h1 | h1 | h1
        · exact h1
        · subst h1
          have h2 := parent_less hpath hp
          rw [← hxp, lessP_irrefl] at h2
          cases h2
        · have h2 := parent_less hpath hp
          have h3 := sorted_get hs hk h1
          unfold lessR at h3
          rw [hxp] at h3
          rw [lessP_asymm _ _ h2] at h3
          cases h3
      rcases atL_cases (l.take i) (parO l[i].p) with ⟨_, h2⟩ | ⟨j, hj, h1, h2, _⟩
      · exact absurd hxp (h2 _ (List.mem_take_iff_getElem.2 ⟨k, by omega, rfl⟩))
      · have hji : j < i := by rw [List.length_take] at hj; omega
        have h2' : (l[j]'(by omega)).p = parO l[i].p := by simpa using h2
        have ejk : j = k := sorted_once hs (by omega) hk (h2'.trans hxp.symm)
        subst ejk
        rw [if_neg (by omega), h1]
        simp [show j < l.length by omega, hxk]
  have hfrom : ∀ n i, l.length - i = n → faultFrom l i = (0, 0) := by
    intro n
    induction n with
    | zero => intro i hi; exact faultFrom_end (by omega)
    | succ n ih =>
      intro i hi
      rw [faultFrom_good (by omega) (hall i (by omega))]
      exact ih (i + 1) (by omega)
  unfold layerOK layerFaultL
  rw [hfrom _ 0 rfl]
  rfl

/-! ### The canonical form -/
end Go.Proofs.YtibekkfbpmloiabGreatDoor.Recs

/- Layers as plain lists of records: the canonical form is canonical; what is above a path, as a list; what a layer cuts off. -/
namespace Go.Proofs.YtibekkfbpmloiabGreatDoor.Recs
open Go.RowKit Paths

theorem sorted_mem_once {l : List R} (h : Sorted l) {x y : R} (hx : x ∈ l) (hy : y ∈ l) (he : x.p = y.p) : x = y := by
  obtain ⟨i, hi, rfl⟩ := List.getElem_of_mem hx
  obtain ⟨j, hj, rfl⟩ := List.getElem_of_mem hy
  have := sorted_once h hi hj he
  subst this
  rfl
/-- The record of a path. -/
def recAt (l : List R) (q : ByteArray) : Option R := l.find? fun r => decide (r.p = q)
theorem recAt_mem {l : List R} {q : ByteArray} {r : R} (h : recAt l q = some r) : r ∈ l ∧ r.p = q := by
  unfold recAt at h
  exact ⟨List.mem_of_find?_eq_some h, by simpa using List.find?_some h⟩
theorem recAt_none {l : List R} {q : ByteArray} (h : recAt l q = none) : ∀ r ∈ l, r.p ≠ q := by
  unfold recAt at h
  intro r hr
  simpa using List.find?_eq_none.1 h r hr
theorem recAt_of {l : List R} (h : Sorted l) {r : R} (hr : r ∈ l) : recAt l r.p = some r := by
  cases hc : recAt l r.p with
  | none => exact absurd rfl (recAt_none hc r hr)
  | some x =>
    obtain ⟨h1, h2⟩ := recAt_mem hc
    rw [sorted_mem_once h h1 hr h2]
/-- The place of a path and its record. -/
theorem atL_recAt (l : List R) (q : ByteArray) : (atL l q = -1 ∧ recAt l q = none) ∨ ∃ i : Nat, ∃ h : i < l.length, atL l q = (i : Int) ∧ recAt l q = some l[i] := by
  rcases atL_cases l q with ⟨h1, h2⟩ | ⟨i, hi, h1, h2, h3⟩
  · refine .inl ⟨h1, ?_⟩
    unfold recAt
    rw [List.find?_eq_none]
    intro r hr
    simpa using h2 r hr
  · refine .inr ⟨i, hi, h1, ?_⟩
    unfold recAt
    rw [List.find?_eq_some_iff_getElem]
    exact ⟨by simpa using h2, i, hi, rfl, fun j hj => by simpa using h3 j hj⟩
theorem opaqueAt_eq (l : List R) (q : ByteArray) : opaqueAt l q = (recAt l q).any (fun x => x.o) := by
  unfold opaqueAt
  rcases atL_recAt l q with ⟨h1, h2⟩ | ⟨i, hi, h1, h2⟩
  · rw [h1, h2]; rfl
  · rw [h1, h2]
    simp [hi]

/-- What is above a path: its parent, the parent of that, and so on; n bounds how far up. -/
def upF : Nat → ByteArray → List ByteArray
  | 0, _ => []
  | n + 1, q => if parentL q.data.toList = [] then [] else parO q :: upF n (parO q)
def ups (q : ByteArray) : List ByteArray := upF 4 q
theorem underF_any (l : List R) : ∀ (n : Nat) (q : ByteArray), underF n l q = (upF n q).any (opaqueAt l)
  | 0, _ => rfl
  | n + 1, q => by
    simp only [underF, upF]
    by_cases hp : parentL q.data.toList = []
    · rw [if_pos hp, if_pos hp]; rfl
    · rw [if_neg hp, if_neg hp, underF_any l n, List.any_cons]
theorem underL_any (l : List R) (q : ByteArray) : underL l q = (ups q).any (opaqueAt l) := underF_any l 4 q
/-- A record stops what is below it from being seen. -/
def stops (r : R) : Bool := decide (r.k ≠ 3) || r.o
def stopsAt (l : List R) (q : ByteArray) : Bool := (recAt l q).any stops
def cutsL (l : List R) (q : ByteArray) : Bool := (ups q).any (stopsAt l)
end Go.Proofs.YtibekkfbpmloiabGreatDoor.Recs

/- Sorted lists of records are told by their members; what is above a path; a housed list has all that is above its records. -/
namespace Go.Proofs.YtibekkfbpmloiabGreatDoor.Recs
open Go.RowKit Paths

theorem sorted_ext : ∀ a b : List R, Sorted a → Sorted b → (∀ x, x ∈ a ↔ x ∈ b) → a = b
  | [], [], _, _, _ => rfl
  | [], y :: b, _, _, h => by have := (h y).2 (by simp); cases this
  | x :: a, [], _, _, h => by have := (h x).1 (by simp); cases this
  | x :: a, y :: b, ha, hb, h => by
    unfold Sorted at ha hb
    rw [List.pairwise_cons] at ha hb
    have exy : x = y := by
      rcases List.mem_cons.1 ((h x).1 (by simp)) with e | hx
      · exact e
      rcases List.mem_cons.1 ((h y).2 (by simp)) with e | hy
      · exact e.symm
      have h1 := hb.1 x hx
      have h2 := ha.1 y hy
      unfold lessR at h1 h2
      rw [lessP_asymm _ _ h1] at h2
      cases h2
    subst exy
    rw [sorted_ext a b ha.2 hb.2 fun z => ?_]
    constructor
    · intro hz
      rcases List.mem_cons.1 ((h z).1 (by simp [hz])) with e | hz'
      · subst e
        have := ha.1 z hz
        rw [lessR_irrefl] at this
        cases this
      · exact hz'
    · intro hz
      rcases List.mem_cons.1 ((h z).2 (by simp [hz])) with e | hz'
      · subst e
        have := hb.1 z hz
        rw [lessR_irrefl] at this
        cases this
      · exact hz'

theorem upF_more : ∀ (n : Nat) (q : ByteArray), pathB q.data.toList = true → (cutAt 47 q.data.toList).length ≤ n → ∀ m, n ≤ m → upF m q = upF n q := by
  intro n
  induction n with
  | zero =>
    intro q _ hl
    exact absurd (List.eq_nil_of_length_eq_zero (show (cutAt 47 q.data.toList).length = 0 by omega)) (cutAt_ne 47 _)
  | succ n ih =>
    intro q hq hl m hm
    obtain ⟨m', rfl⟩ : ∃ m', m = m' + 1 := ⟨m - 1, by omega⟩
    simp only [upF]
    by_cases hp : parentL q.data.toList = []
    · rw [if_pos hp, if_pos hp]
    · obtain ⟨h1, h2⟩ := parts_parent hq hp
      rw [if_neg hp, if_neg hp, ih (parO q) h1 (by omega) m' (by omega)]
theorem ups_step {q : ByteArray} (h : pathB q.data.toList = true) : ups q = if parentL q.data.toList = [] then [] else parO q :: ups (parO q) := by
  have e : ups q = if parentL q.data.toList = [] then [] else parO q :: upF 3 (parO q) := rfl
  by_cases hp : parentL q.data.toList = []
  · rw [e, if_pos hp, if_pos hp]
  · obtain ⟨h1, h2⟩ := parts_parent h hp
    have h3 := (pathB_parts h).1
    have h4 : ups (parO q) = upF 3 (parO q) := upF_more 3 (parO q) h1 (by omega) 4 (by omega)
    rw [e, if_neg hp, if_neg hp, h4]
/-- To show a thing of a path, show it where it holds of its parent. -/
theorem path_ind {P : ByteArray → Prop} (hr : ∀ q : ByteArray, pathB q.data.toList = true → parentL q.data.toList = [] → P q)
    (hs : ∀ q : ByteArray, pathB q.data.toList = true → parentL q.data.toList ≠ [] → pathB (parO q).data.toList = true → P (parO q) → P q) : ∀ q : ByteArray, pathB q.data.toList = true → P q := by
  have hn : ∀ n, ∀ q : ByteArray, pathB q.data.toList = true → (cutAt 47 q.data.toList).length ≤ n → P q := by
    intro n
    induction n with
    | zero =>
      intro q _ hl
      exact absurd (List.eq_nil_of_length_eq_zero (show (cutAt 47 q.data.toList).length = 0 by omega)) (cutAt_ne 47 _)
    | succ n ih =>
      intro q hq hl
      by_cases hp : parentL q.data.toList = []
      · exact hr q hq hp
      · obtain ⟨h1, h2⟩ := parts_parent hq hp
        exact hs q hq hp h1 (ih _ h1 (by omega))
  exact fun q hq => hn _ q hq (Nat.le_refl _)
theorem ups_path {q : ByteArray} (h : pathB q.data.toList = true) : ∀ a ∈ ups q, pathB a.data.toList = true := by
  refine path_ind (P := fun q => ∀ a ∈ ups q, pathB a.data.toList = true) ?_ ?_ q h
  · intro q hq hp a ha
    rw [ups_step hq, if_pos hp] at ha
    cases ha
  · intro q hq hp h1 ih a ha
    rw [ups_step hq, if_neg hp] at ha
    rcases List.mem_cons.1 ha with rfl | ha
    · exact h1
    · exact ih a ha
theorem ups_less {q : ByteArray} (h : pathB q.data.toList = true) : ∀ a ∈ ups q, lessP (cutAt 47 a.data.toList) (cutAt 47 q.data.toList) = true := by
  refine path_ind (P := fun q => ∀ a ∈ ups q, lessP (cutAt 47 a.data.toList) (cutAt 47 q.data.toList) = true) ?_ ?_ q h
  · intro q hq hp a ha
    rw [ups_step hq, if_pos hp] at ha
    cases ha
  · intro q hq hp h1 ih a ha
    rw [ups_step hq, if_neg hp] at ha
    have h2 := parent_less hq hp
    rcases List.mem_cons.1 ha with rfl | ha
    · exact h2
    · exact lessP_trans _ _ _ (ih a ha) h2
theorem ups_trans {c : ByteArray} (h : pathB c.data.toList = true) : ∀ a b, b ∈ ups c → a ∈ ups b → a ∈ ups c := by
  refine path_ind (P := fun c => ∀ a b, b ∈ ups c → a ∈ ups b → a ∈ ups c) ?_ ?_ c h
  · intro q hq hp a b hb
    rw [ups_step hq, if_pos hp] at hb
    cases hb
  · intro q hq hp h1 ih a b hb ha
    rw [ups_step hq, if_neg hp] at hb ⊢
    rcases List.mem_cons.1 hb with rfl | hb
    · exact List.mem_cons_of_mem _ ha
    · exact List.mem_cons_of_mem _ (ih a b hb ha)
/-- All that is above a record of a housed list is a directory of it. -/
theorem housed_ups {t : List R} (hh : Housed t) {q : ByteArray} (h : pathB q.data.toList = true) : ∀ x ∈ t, x.p = q → ∀ a ∈ ups q, ∃ n ∈ t, n.p = a ∧ n.k = 3 := by
  refine path_ind (P := fun q => ∀ x ∈ t, x.p = q → ∀ a ∈ ups q, ∃ n ∈ t, n.p = a ∧ n.k = 3) ?_ ?_ q h
  · intro q hq hp x _ _ a ha
    rw [ups_step hq, if_pos hp] at ha
    cases ha
  · intro q hq hp h1 ih x hx hxq a ha
    rw [ups_step hq, if_neg hp] at ha
    subst hxq
    obtain ⟨n, hn, hnp, hnk⟩ := hh x hx hp
    rcases List.mem_cons.1 ha with rfl | ha
    · exact ⟨n, hn, hnp, hnk⟩
    · exact ih n hn hnp a ha
end Go.Proofs.YtibekkfbpmloiabGreatDoor.Recs
