/- Parts of several texts of mine in one file (each begins with its own remark). -/
import Derived.Test.YthopokiablgjoabDoorCA1
import Derived.Test.YthopokiablgjoabDoorCA12
import Derived.Test.YthopokiablgjoabDoorCA2
import Derived.Test.YthopokiablgjoabDoorCA3
import Derived.Test.YthopokiablgjoabDoorCA4
import Derived.Test.YthopokiablgjoabDoorCA5
import Derived.Test.YthopokiablgjoabDoorCA8
import Derived.Test.YthopokiablgjoabDoorCA9
import Derived.Test.YthopokiablgjoabDoorChecked
import Derived.Test.YthopokiablgjoabDoorShelf
import Derived.Test.YthopokiablgjoabDoorProg
import Derived.Test.YthopokiablgjoabDoorRows
import Derived.Deep.Slices
import Derived.OpenShut
import Derived.ShutString
import Derived.ChangeArms
import Derived.WideShapes
import Derived.Lib.LaidTab
import Derived.BigQuiet
import Derived.Deep.QuietTactic
import Derived.Deep.RegionHeld3
import Derived.StillTailTactics
import Derived.Deep.Draws
import Derived.Deep.LoopGhost
import Derived.WalkKit
import Derived.WalkSpells
import Derived.WalkSmall
import Derived.Lib.OthersKept
import Derived.Lib.Hide
import Derived.Lib.Strings
import Derived.Lib.Join
import Derived.Laws.OwnMore
import Derived.BigRegion
import Derived.Laws.BytesArg
import Derived.Stop.LaidErr
import Derived.WalkLawsBesides
import Derived.LaidEql
import Derived.Stop.Asserts
import Derived.Below
import Derived.Stop.LaidTwo
import Derived.ChangeVars
import Derived.Deep.DeepHandedRow
/- The canonical form is told by the effect: two canonical layers that have the same effect on every tree are one; so combining is associative. -/
namespace Go.Proofs.YthopokiablgjoabDoor.Recs
open Go.RowKit Paths

theorem fault_more {r : R} (h : r.fault = 0) : (r.o = true → r.k = 3) ∧ (r.k = 4 → r.b.size = 0 ∧ r.m = 0 ∧ r.o = false) := by
  unfold R.fault faultI at h
  split at h
  · cases h
  split at h
  · cases h
  split at h
  · cases h
  split at h
  · cases h
  split at h
  · cases h
  rename_i h1 h2 h3 h4 h5
  have h6 : r.o = true → r.k = 3 := fun ho => by
    refine Classical.byContradiction fun hk => h4 (.inr ⟨ho, hk⟩)
  refine ⟨h6, fun hk => ⟨?_, ?_, ?_⟩⟩
  · refine Classical.byContradiction fun hz => h4 (.inl ⟨hz, .inr hk⟩)
  · refine Classical.byContradiction fun hz => h5 (.inr (.inr ⟨hz, .inl hk⟩))
  · cases ho : r.o with
    | false => rfl
    | true => have := h6 ho; omega
section
variable {a b : List R} (ha : Canon a) (hb : Canon b) (hlen : a.length + b.length < 4096) (he : ∀ t, IsTree t → applyL a t = applyL b t)
include ha hb he
include hlen
end
end Go.Proofs.YthopokiablgjoabDoor.Recs

/- Combining many layers, plain: the highest layer that cuts a path off; the records considered at a path; what is seen there. -/
namespace Go.Proofs.YthopokiablgjoabDoor.Recs
set_option maxRecDepth 100000
open Go.RowKit Paths

theorem cutR_le : ∀ (s : List (List R)) (q : ByteArray), cutR s q ≤ s.length
  | [], _ => Nat.le_refl _
  | l :: s, q => by
    rw [cutR]
    have := cutR_le s q
    split
    · exact Nat.le_refl _
    · simp only [List.length_cons]; omega
theorem cut_le (LL : List (List R)) (q : ByteArray) : cutD LL q ≤ LL.length := by
  have := cutR_le LL.reverse q
  rw [List.length_reverse] at this
  exact this

/-- The records of a path, with the numbers of their layers. -/
def grpN : List (List R) → Nat → ByteArray → List (R × Nat)
  | [], _, _ => []
  | l :: s, n, q => match recAt l q with
    | some r => (r, n + 1) :: grpN s (n + 1) q
    | none => grpN s (n + 1) q
theorem grpN_append : ∀ (a b : List (List R)) (n : Nat) (q : ByteArray), grpN (a ++ b) n q = grpN a n q ++ grpN b (n + a.length) q
  | [], b, n, q => rfl
  | l :: a, b, n, q => by
    have ih := grpN_append a b (n + 1) q
    simp only [List.cons_append, grpN]
    rw [ih]
    have e : n + 1 + a.length = n + (l :: a).length := by simp only [List.length_cons]; omega
    rw [e]
    cases recAt l q <;> rfl
theorem grpN_num : ∀ (s : List (List R)) (n : Nat) (q : ByteArray), ∀ p ∈ grpN s n q, n < p.2 ∧ p.2 ≤ n + s.length
  | [], _, _, _, h => by cases h
  | l :: s, n, q, p, h => by
    simp only [grpN] at h
    have ih := grpN_num s (n + 1) q
    simp only [List.length_cons]
    cases hr : recAt l q with
    | none =>
      rw [hr] at h
      have := ih p h
      omega
    | some r =>
      rw [hr] at h
      rcases List.mem_cons.1 h with rfl | h
      · dsimp only; omega
      · have := ih p h
        omega
theorem grpN_mem : ∀ (s : List (List R)) (n : Nat) (q : ByteArray), ∀ p ∈ grpN s n q, p.1.p = q ∧ ∃ h : p.2 - n - 1 < s.length, p.1 ∈ s[p.2 - n - 1]
  | [], _, _, _, h => by cases h
  | l :: s, n, q, p, h => by
    simp only [grpN] at h
    have ih := grpN_mem s (n + 1) q
    have tl : p ∈ grpN s (n + 1) q → p.1.p = q ∧ ∃ h : p.2 - n - 1 < (l :: s).length, p.1 ∈ (l :: s)[p.2 - n - 1] := fun h => by
      obtain ⟨h1, h2, h3⟩ := ih p h
      have h4 := grpN_num s (n + 1) q p h
      have e : p.2 - n - 1 = p.2 - (n + 1) - 1 + 1 := by omega
      refine ⟨h1, by rw [e]; simp only [List.length_cons]; omega, ?_⟩
      have e2 : (l :: s)[p.2 - n - 1]? = some s[p.2 - (n + 1) - 1] := by rw [e, List.getElem?_cons_succ, List.getElem?_eq_getElem h2]
      have e3 := (List.getElem?_eq_some_iff.1 e2).2
      rw [e3]
      exact h3
    cases hr : recAt l q with
    | none =>
      rw [hr] at h
      exact tl h
    | some r =>
      rw [hr] at h
      rcases List.mem_cons.1 h with rfl | h
      · obtain ⟨h1, h2⟩ := recAt_mem hr
        have e : n + 1 - n - 1 = 0 := by omega
        refine ⟨h2, by dsimp only; rw [e]; simp, ?_⟩
        dsimp only
        have e2 : (l :: s)[n + 1 - n - 1]? = some l := by rw [e]; rfl
        have e3 := (List.getElem?_eq_some_iff.1 e2).2
        rw [e3]
        exact h1
      · exact tl h
def grp (LL : List (List R)) (q : ByteArray) : List (R × Nat) := grpN LL 0 q
theorem grp_take {LL : List (List R)} {k : Nat} (h : k < LL.length) (q : ByteArray) : grp (LL.take (k + 1)) q = match recAt LL[k] q with | some r => grp (LL.take k) q ++ [(r, k + 1)] | none => grp (LL.take k) q := by
  unfold grp
  rw [List.take_succ_eq_append_getElem h, grpN_append, List.length_take, Nat.min_eq_left (by omega), Nat.zero_add]
  simp only [grpN]
  cases recAt LL[k] q
  · exact List.append_nil _
  · rfl
/-- Those of the layers from the one that cuts the path off upwards. -/
def consd (LL : List (List R)) (q : ByteArray) : List (R × Nat) := grpN (LL.drop (cutD LL q - 1)) (cutD LL q - 1) q
theorem consd_filter (LL : List (List R)) (q : ByteArray) : consd LL q = (grp LL q).filter fun p => decide (cutD LL q ≤ p.2) := by
  have hc := cut_le LL q
  unfold consd
  generalize cutD LL q = c at *
  have e : grp LL q = grpN (LL.take (c - 1)) 0 q ++ grpN (LL.drop (c - 1)) (c - 1) q := by
    have := grpN_append (LL.take (c - 1)) (LL.drop (c - 1)) 0 q
    rw [List.take_append_drop, List.length_take, Nat.min_eq_left (by omega), Nat.zero_add] at this
    exact this
  rw [e, List.filter_append]
  have h1 : (grpN (LL.take (c - 1)) 0 q).filter (fun p => decide (c ≤ p.2)) = [] := by
    rw [List.filter_eq_nil_iff]
    intro p hp
    have := grpN_num _ _ _ p hp
    rw [List.length_take] at this
    simp only [decide_eq_true_eq]
    omega
  have h2 : (grpN (LL.drop (c - 1)) (c - 1) q).filter (fun p => decide (c ≤ p.2)) = grpN (LL.drop (c - 1)) (c - 1) q := by
    rw [List.filter_eq_self]
    intro p hp
    have := grpN_num _ _ _ p hp
    simp only [decide_eq_true_eq]
    omega
  rw [h1, h2, List.nil_append]
/-- The last of them; a directory is opaque if one of them stops. -/
def overC (C : List (R × Nat)) : R × Nat := match C.getLast? with
  | none => (zR, 0)
  | some p => (if p.1.k = 3 ∧ C.any (fun x => stops x.1) = true then { p.1 with o := true } else p.1, p.2)
def winC (LL : List (List R)) (q : ByteArray) : R × Nat := overC (consd LL q)

/-- The program's way: from the lowest on. -/
def wst (cut : Nat) (st : (R × Nat) × Bool) (p : R × Nat) : (R × Nat) × Bool := if cut ≤ p.2 then (p, st.2 || stops p.1) else st
theorem wst_snoc (cut : Nat) (G : List (R × Nat)) (p : R × Nat) (st : (R × Nat) × Bool) : (G ++ [p]).foldl (wst cut) st = wst cut (G.foldl (wst cut) st) p := by rw [List.foldl_append]; rfl
theorem wst_all (cut : Nat) (G : List (R × Nat)) : G.foldl (wst cut) ((zR, 0), false) = (((G.filter fun p => decide (cut ≤ p.2)).getLast?).getD (zR, 0), (G.filter fun p => decide (cut ≤ p.2)).any fun x => stops x.1) := by
  rw [← List.reverse_reverse G]
  generalize G.reverse = H
  induction H with
  | nil => rfl
  | cons p H ih =>
    rw [List.reverse_cons, wst_snoc, ih, List.filter_append]
    unfold wst
    by_cases h : cut ≤ p.2
    · have e : [p].filter (fun p => decide (cut ≤ p.2)) = [p] := by simp [h]
      rw [if_pos h, e]
      simp
    · have e : [p].filter (fun p => decide (cut ≤ p.2)) = [] := by simp [h]
      rw [if_neg h, e, List.append_nil]
def placedL (r : R) (c : Bool) : R := if r.k = 3 ∧ c = true then { r with o := true } else r
theorem over_fold (cut : Nat) (G : List (R × Nat)) : (placedL (G.foldl (wst cut) ((zR, 0), false)).1.1 (G.foldl (wst cut) ((zR, 0), false)).2, (G.foldl (wst cut) ((zR, 0), false)).1.2) = overC (G.filter fun p => decide (cut ≤ p.2)) := by
  rw [wst_all]
  unfold overC placedL
  cases (G.filter fun p => decide (cut ≤ p.2)).getLast? with
  | none => simp [zR]
  | some p => rfl
theorem win_fold (LL : List (List R)) (q : ByteArray) : (placedL ((grp LL q).foldl (wst (cutD LL q)) ((zR, 0), false)).1.1 ((grp LL q).foldl (wst (cutD LL q)) ((zR, 0), false)).2, ((grp LL q).foldl (wst (cutD LL q)) ((zR, 0), false)).1.2) = winC LL q := by
  rw [over_fold, ← consd_filter]
  rfl

/-- The model's way: from the highest on. What has been looked at from layer i on. -/
def topG (LL : List (List R)) (q : ByteArray) (i : Nat) : List (R × Nat) := grpN (LL.drop i) i q
theorem top_end (LL : List (List R)) (q : ByteArray) : topG LL q LL.length = [] := by
  unfold topG
  rw [List.drop_eq_nil_of_le (Nat.le_refl _)]
  rfl
theorem top_step {LL : List (List R)} {i : Nat} (h : i < LL.length) (q : ByteArray) : topG LL q i = match recAt LL[i] q with | some r => (r, i + 1) :: topG LL q (i + 1) | none => topG LL q (i + 1) := by
  unfold topG
  rw [List.drop_eq_getElem_cons h]
  simp only [grpN]
theorem top_consd (LL : List (List R)) (q : ByteArray) : topG LL q (cutD LL q - 1) = consd LL q := rfl
theorem top_split {LL : List (List R)} {i j : Nat} (h : i ≤ j) (hj : j ≤ LL.length) (q : ByteArray) : ∃ P, topG LL q i = P ++ topG LL q j := by
  refine ⟨grpN ((LL.drop i).take (j - i)) i q, ?_⟩
  unfold topG
  have := grpN_append ((LL.drop i).take (j - i)) ((LL.drop i).drop (j - i)) i q
  rw [List.take_append_drop, List.drop_drop, List.length_take, List.length_drop, Nat.min_eq_left (by omega)] at this
  have e : i + (j - i) = j := by omega
  rw [e] at this
  exact this
/-- The last one of a list, or the zero record. -/
def lastG (C : List (R × Nat)) : R × Nat := C.getLast?.getD (zR, 0)
theorem last_cons (p : R × Nat) (C : List (R × Nat)) : lastG (p :: C) = if (lastG C).2 = 0 ∧ C = [] then p else lastG C := by
  unfold lastG
  cases C with
  | nil => simp
  | cons a t => simp
theorem over_quiet {C : List (R × Nat)} (h : C.any (fun x => stops x.1) = false) : overC C = lastG C := by
  unfold overC lastG
  cases C.getLast? with
  | none => rfl
  | some p => simp [h]
theorem over_stop {P C : List (R × Nat)} {x : R × Nat} (hs : stops x.1 = true) (ho : ∀ p ∈ x :: C, p.1.k ≠ 3 → p.1.o = false) : overC (P ++ x :: C) = ({ (lastG (x :: C)).1 with o := decide ((lastG (x :: C)).1.k = 3) }, (lastG (x :: C)).2) := by
  have hl : (P ++ x :: C).getLast? = (x :: C).getLast? := by rw [List.getLast?_append]; cases h : (x :: C).getLast? with | none => simp at h | some p => rfl
  have ha : (P ++ x :: C).any (fun x => stops x.1) = true := by rw [List.any_append, List.any_cons, hs]; simp
  unfold overC lastG
  rw [hl, ha]
  cases h : (x :: C).getLast? with
  | none => simp at h
  | some p =>
    have hm : p ∈ x :: C := List.mem_of_getLast? h
    by_cases hk : p.1.k = 3
    · simp [hk]
    · have := ho p hm hk
      simp [hk]
      cases hp : p.1
      rw [hp] at this
      simp at this
      simp [this]
theorem last_num {LL : List (List R)} {q : ByteArray} {i : Nat} : (topG LL q i = [] ∧ lastG (topG LL q i) = (zR, 0)) ∨ (topG LL q i ≠ [] ∧ i < (lastG (topG LL q i)).2 ∧ (lastG (topG LL q i)).2 ≤ i + (LL.drop i).length) := by
  cases h : topG LL q i with
  | nil => exact .inl ⟨rfl, rfl⟩
  | cons a t =>
    refine .inr ⟨by simp, ?_⟩
    have hm : lastG (topG LL q i) ∈ topG LL q i := by
      unfold lastG
      cases hg : (topG LL q i).getLast? with
      | none => rw [h] at hg; simp at hg
      | some p => exact List.mem_of_getLast? hg
    rw [← h]
    exact grpN_num _ _ _ _ hm

end Go.Proofs.YthopokiablgjoabDoor.Recs

/- Layers: Canonical and IsCanonical, of the program and of its model. Conditions (of the program's): the table of kinds, the two sentinels. -/
namespace Go.Proofs.YthopokiablgjoabDoor.Recs
set_option maxRecDepth 100000
open Go.RowKit Paths Errs

theorem own_le {w : World} {base base' : Nat} {e : TypeId} {size : Nat} {v : Value} {n : Nat} {xs : List Value} (h : w.ownsRow base e size v n xs) (hb : base' ≤ base) : w.ownsRow base' e size v n xs := by
  obtain ⟨h1, h2⟩ := h
  refine ⟨h1, ?_⟩
  rcases h2 with h2 | ⟨g, cap', cur, a, b, c⟩
  · exact .inl h2
  · exact .inr ⟨g, cap', cur, a, Nat.le_trans hb b, c⟩

end Go.Proofs.YthopokiablgjoabDoor.Recs

/- Slices in memory of their own, of any element that lies in a fixed number of cells. -/
namespace Go.Proofs.YthopokiablgjoabDoor.Recs
set_option maxRecDepth 100000
open Go.RowKit Paths

section
variable {α : Type} {cs : α → List Value} {k : Nat}
def flatG (cs : α → List Value) (l : List α) : List Value := l.flatMap cs
theorem flatG_snoc (l : List α) (a : α) : flatG cs (l ++ [a]) = flatG cs l ++ cs a := by unfold flatG; rw [List.flatMap_append]; simp
theorem flatG_len (hcs : ∀ a, (cs a).length = k) : ∀ l : List α, (flatG cs l).length = l.length * k
  | [] => by simp [flatG]
  | a :: t => by
    have ih := flatG_len hcs t
    have : flatG cs (a :: t) = cs a ++ flatG cs t := by simp [flatG]
    rw [this, List.length_append, hcs, ih, List.length_cons, Nat.succ_mul, Nat.add_comm]
theorem flatG_get (hcs : ∀ a, (cs a).length = k) (hk : 0 < k) : ∀ (l : List α) (j : Nat), (flatG cs l)[j]? = (l[j / k]?).bind fun a => (cs a)[j % k]?
  | [], j => by simp [flatG]
  | a :: t, j => by
    have ih := flatG_get hcs hk t (j - k)
    have hc : flatG cs (a :: t) = cs a ++ flatG cs t := by simp [flatG]
    rw [hc]
    by_cases hj : j < k
    · rw [Nat.div_eq_of_lt hj, Nat.mod_eq_of_lt hj, List.getElem?_append_left (by rw [hcs]; exact hj)]
      rfl
    · rw [Nat.div_eq_sub_div hk (by omega), Nat.mod_eq_sub_mod (by omega), List.getElem?_append_right (by rw [hcs]; omega), hcs, List.getElem?_cons_succ]
      exact ih
theorem div_here {i c : Nat} (hc : c < k) : (i * k + c) / k = i ∧ (i * k + c) % k = c := by
  constructor
  · rw [Nat.add_comm, Nat.add_mul_div_right _ _ (by omega), Nat.div_eq_of_lt hc, Nat.zero_add]
  · rw [Nat.add_comm, Nat.add_mul_mod_self_right, Nat.mod_eq_of_lt hc]
theorem at_here {i c j : Nat} (hc : c < k) : i * k + c = j ↔ i = j / k ∧ c = j % k := by
  constructor
  · rintro rfl
    exact ⟨(div_here hc).1.symm, (div_here hc).2.symm⟩
  · rintro ⟨rfl, rfl⟩
    rw [Nat.mul_comm]
    exact Nat.div_add_mod j k
theorem flatG_field (hcs : ∀ a, (cs a).length = k) {M : List α} {i c : Nat} {a : α} {u : Value} (hi : i < M.length) (hc : c < k) (h : cs a = (cs M[i]).set c u) : flatG cs (M.set i a) = (flatG cs M).set (i * k + c) u := by
  apply List.ext_getElem?
  intro j
  rw [flatG_get hcs (by omega), List.getElem?_set, List.getElem?_set, flatG_len hcs, flatG_get hcs (by omega)]
  have hlt : i * k + c < M.length * k := by
    have := Nat.mul_le_mul_right k (show i + 1 ≤ M.length from hi)
    rw [Nat.succ_mul] at this
    omega
  by_cases hj : i = j / k
  · rw [if_pos hj, if_pos hi]
    simp only [Option.bind_some]
    rw [h, List.getElem?_set]
    by_cases hq : c = j % k
    · rw [if_pos hq, if_pos (by rw [hcs]; omega), if_pos ((at_here hc).2 ⟨hj, hq⟩), if_pos hlt]
    · rw [if_neg hq, if_neg (fun e => hq ((at_here hc).1 e).2), ← hj, List.getElem?_eq_getElem hi]
      rfl
  · rw [if_neg hj, if_neg (fun e => hj ((at_here hc).1 e).1)]

/-- A slice in memory of its own that holds the things M. -/
def RowG (cs : α → List Value) (k : Nat) (T : TypeId) (w : World) (base : Nat) (v : Value) (n : Nat) (M : List α) : Prop := M.length = n ∧ w.ownsRow base T k v n (flatG cs M)
variable {T : TypeId} {w w' : World} {base : Nat} {v : Value} {n : Nat} {M : List α}
theorem RowG.below (h : RowG cs k T w base v n M) (hb : Below w.heap.size w w') : RowG cs k T w' base v n M := ⟨h.1, own_below h.2 hb⟩
theorem RowG.form (h : RowG cs k T w base v n M) : ∃ A cap, v = .slice A n cap := own_form h.2
theorem RowG.nil : RowG cs k T w base (.slice none 0 0) 0 [] := ⟨rfl, World.ownsRow_nil _ _ _ _⟩
theorem RowG.down {base' : Nat} (h : RowG cs k T w base v n M) (hb : base' ≤ base) : RowG cs k T w base' v n M := ⟨h.1, own_le h.2 hb⟩
theorem RowG.cell (hcs : ∀ a, (cs a).length = k) {g cap : Nat} (h : RowG cs k T w base (.slice (some ⟨g, 0, none⟩) n cap) n M) {i c : Nat} (hi : i < M.length) (hc : c < k) : w.cell? ⟨g, i * k + c, none⟩ = (cs M[i])[c]? := by
  have hlt : i * k + c < n * k := by
    have := Nat.mul_le_mul_right k (show i + 1 ≤ M.length from hi)
    rw [Nat.succ_mul, h.1] at this
    omega
  rw [h.2.cellAt (i * k + c) hlt, flatG_get hcs (by omega), (div_here hc).1, (div_here hc).2, List.getElem?_eq_getElem hi]
  rfl
theorem RowG.field (hcs : ∀ a, (cs a).length = k) {g cap : Nat} (h : RowG cs k T w base (.slice (some ⟨g, 0, none⟩) n cap) n M) {i c : Nat} {a : α} {u : Value} (hi : i < M.length) (hc : c < k) (ha : cs a = (cs M[i]).set c u) :
    RowG cs k T (w.setCell ⟨g, i * k + c, none⟩ u) base (.slice (some ⟨g, 0, none⟩) n cap) n (M.set i a) ∧ w.grownBy (w.setCell ⟨g, i * k + c, none⟩ u) (some g) := by
  obtain ⟨h1, h2⟩ := h.2.stored (i * k + c) u
  exact ⟨⟨by rw [List.length_set]; exact h.1, by rw [flatG_field hcs hi hc ha]; exact h1⟩, h2⟩
theorem RowG.frozen {g cap : Nat} (h : RowG cs k T w base (.slice (some ⟨g, 0, none⟩) n cap) n M) (j : Nat) : w.frozen? ⟨g, j, none⟩ = false := h.2.frozenAt j
theorem RowG.kept {row : Option Nat} (h : RowG cs k T w base v n M) (hg : w.grownBy w' row) (hr : v.ownBlock = none ∨ v.ownBlock ≠ row) : RowG cs k T w' base v n M := ⟨h.1, h.2.kept hg hr⟩
end
end Go.Proofs.YthopokiablgjoabDoor.Recs

/- Combining two layers, of the program. -/
namespace Go.Proofs.YthopokiablgjoabDoor.Recs
set_option maxRecDepth 100000
open Go.RowKit Paths Errs

/-- An upper record over a covered one. -/
def placed (y : R) (c : Bool) : R := if y.k = 3 ∧ c = true then { y with o := true } else y
theorem placed_any (y : R) (c : Bool) (w : World) :
    Calls Tryd.prog 47 #[y.val, .bool c] w fun e w' => e = .returned (placed y c).val ∧ Below w.heap.size w w' := by
  obtain ⟨rk, rm, rp, rb, ro⟩ := y
  unfold R.val
  dsimp only
  by_cases h3 : rk = 3
  · have q3 : (rk == 3) = true := by simp [h3]
    cases c with
    | true =>
      have HE : Hid (placed ⟨rk, rm, rp, rb, ro⟩ true = ⟨rk, rm, rp, rb, true⟩) := if_pos ⟨h3, rfl⟩
      clear h3
      go_enter Tryd.func47, Tryd.ntmps47
      go_wp2_with fail
      refine bodyPost_ret (v := .agg #[.int .i64 rk, .string rp, .string rb, .int .i64 rm, .bool true]) (by simp [results, Tryd.results47, go_sem]) rfl ⟨by rw [HE.out], ?_⟩
      repeat (refine Below.setCell ?_ (by simp) _)
      exact ((Below.refl _ _).alloc (Nat.le_refl _) _).alloc (by simp) _
    | false =>
      have HE : Hid (placed ⟨rk, rm, rp, rb, ro⟩ false = ⟨rk, rm, rp, rb, ro⟩) := if_neg (fun h => by cases h.2)
      clear h3
      go_enter Tryd.func47, Tryd.ntmps47
      go_wp2_with fail
      refine bodyPost_ret (v := .agg #[.int .i64 rk, .string rp, .string rb, .int .i64 rm, .bool ro]) (by simp [results, Tryd.results47, go_sem]) rfl ⟨by rw [HE.out], ?_⟩
      repeat (refine Below.setCell ?_ (by simp) _)
      exact ((Below.refl _ _).alloc (Nat.le_refl _) _).alloc (by simp) _
  · have q3 : (rk == 3) = false := by simp [h3]
    have HE : Hid (placed ⟨rk, rm, rp, rb, ro⟩ c = ⟨rk, rm, rp, rb, ro⟩) := if_neg (fun h => h3 h.1)
    clear h3
    go_enter Tryd.func47, Tryd.ntmps47
    go_wp2_with fail
    refine bodyPost_ret (v := .agg #[.int .i64 rk, .string rp, .string rb, .int .i64 rm, .bool ro]) (by simp [results, Tryd.results47, go_sem]) rfl ⟨by rw [HE.out], ?_⟩
    repeat (refine Below.setCell ?_ (by simp) _)
    exact ((Below.refl _ _).alloc (Nat.le_refl _) _).alloc (by simp) _

end Go.Proofs.YthopokiablgjoabDoor.Recs
