/- Parts of several texts of mine in one file (each begins with its own remark). -/
import Derived.Test.YtcnjiphoahoojaaDoorCA1
import Derived.Test.YtcnjiphoahoojaaDoorCA2
import Derived.Test.YtcnjiphoahoojaaDoorCA3
import Derived.Test.YtcnjiphoahoojaaDoorCA4
import Derived.Test.YtcnjiphoahoojaaDoorCA5
import Derived.Test.YtcnjiphoahoojaaDoorCA6
import Derived.Test.YtcnjiphoahoojaaDoorCA7
import Derived.Test.YtcnjiphoahoojaaDoorCB1
import Derived.Test.YtcnjiphoahoojaaDoorCB2
import Derived.Test.YtcnjiphoahoojaaDoorChecked
import Derived.Test.YtcnjiphoahoojaaDoorShelf
import Derived.Test.YtcnjiphoahoojaaDoorProg
import Derived.Test.YtcnjiphoahoojaaDoorRows
import Derived.Stop.LaidErr
import Derived.StillTailTactics
import Derived.Laws.OwnMore
import Derived.BigQuiet
import Derived.BigRegion
import Derived.Deep.QuietTactic
import Derived.Deep.RegionHeld3
import Derived.Deep.Slices
import Derived.OpenShut
import Derived.ShutString
import Derived.ChangeArms
import Derived.WideShapes
import Derived.Lib.LaidTab
import Derived.Deep.Draws
import Derived.Deep.LoopGhost
import Derived.WalkKit
import Derived.WalkSpells
import Derived.WalkSmall
import Derived.Lib.OthersKept
import Derived.Lib.Hide
import Derived.Lib.Strings
import Derived.Lib.Join
import Derived.Laws.BytesArg
import Derived.WalkLawsBesides
import Derived.LaidEql
import Derived.Stop.Asserts
import Derived.Below
import Derived.Stop.LaidTwo
import Derived.ChangeVars
import Derived.Deep.DeepHandedRow
import Derived.Lib.Overlaps
import Derived.Lib.AppendZerosOnto
import Derived.Laws.NewBlocks
import Derived.Laws.IdiomCopy
import Derived.Deep.RegionLaw
/- Layers: the error of a list, the code of errors. Conditions: the table of kinds, the sentinels (as each states). -/
namespace Go.Proofs.YtcnjiphoahoojaaDoor.Recs
set_option maxRecDepth 100000
open Go.RowKit Paths Errs

theorem layerOK_impl (v : Value) (l : List R) (x : Addr) (w : World) (h : RecSl w v l) (hl : l.length ≤ 1048576) (hr : ∀ r ∈ l, r.p.size ≤ maxLen) (ht : Tab w) (hx : w.cell? ⟨0, 0, none⟩ = some (errV x)) :
    Calls Tryd.prog 47 #[v] w fun e w' => e = .returned (.bool (decide (l.length ≤ 4096) && layerOK l)) ∧ Below w.heap.size w w' := by
  have HC := checkLayer_any v l x w h hl hr ht hx
  obtain ⟨A, cap, rfl, hcap, _⟩ := h
  unfold checkV at HC
  by_cases h4 : 4096 < l.length
  · rw [if_pos h4] at HC
    have HE : Hid ((decide (l.length ≤ 4096) && layerOK l) = false) := by show _ = _; rw [decide_eq_false (by omega)]; rfl
    unfold errV at HC
    go_enter Tryd.func47, Tryd.ntmps47
    go_wp2_with fail
    refine HC.mono ?_
    rintro e w1 ⟨rfl, hb1⟩
    go_wp2_with fail
    go_ret
    exact ⟨ret_bool HE.out.symm, hb1⟩
  rw [if_neg h4] at HC
  by_cases hf : (layerFaultL l).2 = 0
  · rw [if_neg (by simpa using hf)] at HC
    have HE : Hid ((decide (l.length ≤ 4096) && layerOK l) = true) := by show _ = _; rw [decide_eq_true (by omega)]; simpa [layerOK] using hf
    clear hf
    go_enter Tryd.func47, Tryd.ntmps47
    go_wp2_with fail
    refine HC.mono ?_
    rintro e w1 ⟨rfl, hb1⟩
    go_wp2_with fail
    go_ret
    exact ⟨ret_bool HE.out.symm, hb1⟩
  · rw [if_pos hf] at HC
    have HE : Hid ((decide (l.length ≤ 4096) && layerOK l) = false) := by show _ = _; rw [decide_eq_true (by omega)]; simpa [layerOK] using hf
    clear hf
    unfold recV at HC
    go_enter Tryd.func47, Tryd.ntmps47
    go_wp2_with fail
    refine HC.mono ?_
    rintro e w1 ⟨rfl, hb1⟩
    go_wp2_with fail
    go_ret
    exact ⟨ret_bool HE.out.symm, hb1⟩
end Go.Proofs.YtcnjiphoahoojaaDoor.Recs

/- Layers: UnderOpaque, of the program and of its model. Conditions (of the program's): the table of kinds, the two sentinels. -/
namespace Go.Proofs.YtcnjiphoahoojaaDoor.Recs
set_option maxRecDepth 100000
open Go.RowKit Paths Errs

def pm : Value → Nat
  | .string s => if s.size = 0 then 0 else (cutAt 47 s.data.toList).length
  | _ => 0
end Go.Proofs.YtcnjiphoahoojaaDoor.Recs

/- Layers: Canonical and IsCanonical, of the program and of its model. Conditions (of the program's): the table of kinds, the two sentinels. -/
namespace Go.Proofs.YtcnjiphoahoojaaDoor.Recs
set_option maxRecDepth 100000
open Go.RowKit Paths Errs

theorem own_le {w : World} {base base' : Nat} {e : TypeId} {size : Nat} {v : Value} {n : Nat} {xs : List Value} (h : w.ownsRow base e size v n xs) (hb : base' ≤ base) : w.ownsRow base' e size v n xs := by
  obtain ⟨h1, h2⟩ := h
  refine ⟨h1, ?_⟩
  rcases h2 with h2 | ⟨g, cap', cur, a, b, c⟩
  · exact .inl h2
  · exact .inr ⟨g, cap', cur, a, Nat.le_trans hb b, c⟩

end Go.Proofs.YtcnjiphoahoojaaDoor.Recs

/- Slices in memory of their own, of any element that lies in a fixed number of cells. -/
namespace Go.Proofs.YtcnjiphoahoojaaDoor.Recs
set_option maxRecDepth 100000
open Go.RowKit Paths

section
variable {α : Type} {cs : α → List Value} {k : Nat}
def flatG (cs : α → List Value) (l : List α) : List Value := l.flatMap cs
theorem flatG_snoc (l : List α) (a : α) : flatG cs (l ++ [a]) = flatG cs l ++ cs a := by unfold flatG; rw [List.flatMap_append]; simp
theorem flatG_len (hcs : ∀ a, (cs a).length = k) : ∀ l : List α, (flatG cs l).length = l.length * k
  | [] => by simp [flatG]
  | a :: t => by
    have ih := flatG_len hcs t
    have : flatG cs (a :: t) = cs a ++ flatG cs t := by simp [flatG]
    rw [this, List.length_append, hcs, ih, List.length_cons, Nat.succ_mul, Nat.add_comm]
theorem flatG_get (hcs : ∀ a, (cs a).length = k) (hk : 0 < k) : ∀ (l : List α) (j : Nat), (flatG cs l)[j]? = (l[j / k]?).bind fun a => (cs a)[j % k]?
  | [], j => by simp [flatG]
  | a :: t, j => by
    have ih := flatG_get hcs hk t (j - k)
    have hc : flatG cs (a :: t) = cs a ++ flatG cs t := by simp [flatG]
    rw [hc]
    by_cases hj : j < k
    · rw [Nat.div_eq_of_lt hj, Nat.mod_eq_of_lt hj, List.getElem?_append_left (by rw [hcs]; exact hj)]
      rfl
    · rw [Nat.div_eq_sub_div hk (by omega), Nat.mod_eq_sub_mod (by omega), List.getElem?_append_right (by rw [hcs]; omega), hcs, List.getElem?_cons_succ]
      exact ih
theorem div_here {i c : Nat} (hc : c < k) : (i * k + c) / k = i ∧ (i * k + c) % k = c := by
  constructor
  · rw [Nat.add_comm, Nat.add_mul_div_right _ _ (by omega), Nat.div_eq_of_lt hc, Nat.zero_add]
  · rw [Nat.add_comm, Nat.add_mul_mod_self_right, Nat.mod_eq_of_lt hc]
theorem at_here {i c j : Nat} (hc : c < k) : i * k + c = j ↔ i = j / k ∧ c = j % k := by
  constructor
  · rintro rfl
    exact ⟨(div_here hc).1.symm, (div_here hc).2.symm⟩
  · rintro ⟨rfl, rfl⟩
    rw [Nat.mul_comm]
    exact Nat.div_add_mod j k
theorem flatG_field (hcs : ∀ a, (cs a).length = k) {M : List α} {i c : Nat} {a : α} {u : Value} (hi : i < M.length) (hc : c < k) (h : cs a = (cs M[i]).set c u) : flatG cs (M.set i a) = (flatG cs M).set (i * k + c) u := by
  apply List.ext_getElem?
  intro j
  rw [flatG_get hcs (by omega), List.getElem?_set, List.getElem?_set, flatG_len hcs, flatG_get hcs (by omega)]
  have hlt : i * k + c < M.length * k := by
    have := Nat.mul_le_mul_right k (show i + 1 ≤ M.length from hi)
    rw [Nat.succ_mul] at this
    omega
  by_cases hj : i = j / k
  · rw [if_pos hj, if_pos hi]
    simp only [Option.bind_some]
    rw [h, List.getElem?_set]
    by_cases hq : c = j % k
    · rw [if_pos hq, if_pos (by rw [hcs]; omega), if_pos ((at_here hc).2 ⟨hj, hq⟩), if_pos hlt]
    · rw [if_neg hq, if_neg (fun e => hq ((at_here hc).1 e).2), ← hj, List.getElem?_eq_getElem hi]
      rfl
  · rw [if_neg hj, if_neg (fun e => hj ((at_here hc).1 e).1)]

/-- A slice in memory of its own that holds the things M. -/
def RowG (cs : α → List Value) (k : Nat) (T : TypeId) (w : World) (base : Nat) (v : Value) (n : Nat) (M : List α) : Prop := M.length = n ∧ w.ownsRow base T k v n (flatG cs M)
variable {T : TypeId} {w w' : World} {base : Nat} {v : Value} {n : Nat} {M : List α}
theorem RowG.below (h : RowG cs k T w base v n M) (hb : Below w.heap.size w w') : RowG cs k T w' base v n M := ⟨h.1, own_below h.2 hb⟩
theorem RowG.form (h : RowG cs k T w base v n M) : ∃ A cap, v = .slice A n cap := own_form h.2
theorem RowG.nil : RowG cs k T w base (.slice none 0 0) 0 [] := ⟨rfl, World.ownsRow_nil _ _ _ _⟩
theorem RowG.down {base' : Nat} (h : RowG cs k T w base v n M) (hb : base' ≤ base) : RowG cs k T w base' v n M := ⟨h.1, own_le h.2 hb⟩
theorem RowG.atom (h : RowG cs k T w base v n M) (hn : 0 < n) : ∃ g cap, v = .slice (some ⟨g, 0, none⟩) n cap ∧ base ≤ g ∧ g < w.heap.size ∧ n ≤ cap ∧ cap ≤ maxLen := by
  rcases h.2.2 with ⟨_, h0⟩ | ⟨g, cap, cur, e, h1, h2, h3, h4, _⟩
  · omega
  · exact ⟨g, cap, e, h1, (Array.getElem?_eq_some_iff.1 h2).1, h3, h4⟩
theorem RowG.cell (hcs : ∀ a, (cs a).length = k) {g cap : Nat} (h : RowG cs k T w base (.slice (some ⟨g, 0, none⟩) n cap) n M) {i c : Nat} (hi : i < M.length) (hc : c < k) : w.cell? ⟨g, i * k + c, none⟩ = (cs M[i])[c]? := by
  have hlt : i * k + c < n * k := by
    have := Nat.mul_le_mul_right k (show i + 1 ≤ M.length from hi)
    rw [Nat.succ_mul, h.1] at this
    omega
  rw [h.2.cellAt (i * k + c) hlt, flatG_get hcs (by omega), (div_here hc).1, (div_here hc).2, List.getElem?_eq_getElem hi]
  rfl
theorem RowG.field (hcs : ∀ a, (cs a).length = k) {g cap : Nat} (h : RowG cs k T w base (.slice (some ⟨g, 0, none⟩) n cap) n M) {i c : Nat} {a : α} {u : Value} (hi : i < M.length) (hc : c < k) (ha : cs a = (cs M[i]).set c u) :
    RowG cs k T (w.setCell ⟨g, i * k + c, none⟩ u) base (.slice (some ⟨g, 0, none⟩) n cap) n (M.set i a) ∧ w.grownBy (w.setCell ⟨g, i * k + c, none⟩ u) (some g) := by
  obtain ⟨h1, h2⟩ := h.2.stored (i * k + c) u
  exact ⟨⟨by rw [List.length_set]; exact h.1, by rw [flatG_field hcs hi hc ha]; exact h1⟩, h2⟩
theorem RowG.frozen {g cap : Nat} (h : RowG cs k T w base (.slice (some ⟨g, 0, none⟩) n cap) n M) (j : Nat) : w.frozen? ⟨g, j, none⟩ = false := h.2.frozenAt j
theorem RowG.kept {row : Option Nat} (h : RowG cs k T w base v n M) (hg : w.grownBy w' row) (hr : v.ownBlock = none ∨ v.ownBlock ≠ row) : RowG cs k T w' base v n M := ⟨h.1, h.2.kept hg hr⟩
/-- A part from the front. -/
theorem RowG.front (hcs : ∀ a, (cs a).length = k) {g cap : Nat} (h : RowG cs k T w base (.slice (some ⟨g, 0, none⟩) n cap) n M) {m : Nat} (hm : m ≤ n) : RowG cs k T w base (.slice (some ⟨g, 0, none⟩) m cap) m (M.take m) := by
  refine ⟨by rw [List.length_take, h.1]; omega, ?_, ?_⟩
  · rw [flatG_len hcs, List.length_take, h.1, Nat.min_eq_left hm]
  · rcases h.2.2 with ⟨e, _⟩ | ⟨g', cap', cur, e, h1, h2, h3, h4, h5, h6⟩
    · cases e
    · cases e
      refine .inr ⟨g, cap, cur, rfl, h1, h2, by omega, h4, h5, ?_⟩
      have hl : (flatG cs (M.take m)).length = m * k := by rw [flatG_len hcs, List.length_take, h.1, Nat.min_eq_left hm]
      have e0 : flatG cs M = flatG cs (M.take m) ++ flatG cs (M.drop m) := by
        unfold flatG
        rw [← List.flatMap_append, List.take_append_drop]
      have e1 : flatG cs (M.take m) = (flatG cs M).take (m * k) := by rw [e0, List.take_left' hl]
      rw [e1, ← h6, List.take_take, Nat.min_eq_left (Nat.mul_le_mul_right k hm)]
end
end Go.Proofs.YtcnjiphoahoojaaDoor.Recs

/- Combining two layers, of the program. -/
namespace Go.Proofs.YtcnjiphoahoojaaDoor.Recs
set_option maxRecDepth 100000
open Go.RowKit Paths Errs

/-- A slice without its first record. -/
theorem tail_more {w : World} {b off n cap : Nat} {x : R} {t : List R} (h : RecSl w (.slice (some ⟨b, off, none⟩) n cap) (x :: t)) : RecSl w (.slice (some ⟨b, off + 5, none⟩) (n - 1) (cap - 1)) t := by
  obtain ⟨A, c, e, hc, h⟩ := h
  cases e
  obtain ⟨b', off', e, hb, hcell⟩ := h (by simp)
  cases e
  refine ⟨_, _, rfl, by simp at hc; omega, fun _ => ⟨b, off + 5, rfl, hb, fun i r hi => ?_⟩⟩
  have := hcell (i + 1) r (by simpa using hi)
  have e : off + (i + 1) * 5 = off + 5 + i * 5 := by omega
  rw [e] at this
  exact this
end Go.Proofs.YtcnjiphoahoojaaDoor.Recs

/- Trees as plain lists of nodes (records of which Opaque is false): the model's check, record by record, and what it says at once. -/
namespace Go.Proofs.YtcnjiphoahoojaaDoor.Recs
open Go.RowKit Paths

/-- What a tree is. -/
structure Tree (t : List R) : Prop where
  len : t.length ≤ 24
  kind : ∀ r ∈ t, r.k ≠ 4
  fault : ∀ r ∈ t, r.fault = 0
  sorted : Sorted t
  housed : Housed t
theorem Tree.is {t : List R} (h : Tree t) : IsTree t := ⟨h.sorted, h.housed, fun x hx => (fault_path (h.fault x hx)).1⟩
end Go.Proofs.YtcnjiphoahoojaaDoor.Recs

/- Resolving a path in a tree, part by part, and what comes out at once. -/
namespace Go.Proofs.YtcnjiphoahoojaaDoor.Recs
open Go.RowKit Paths

/-- The first i + 1 parts of a path. -/
def pre (q : ByteArray) (i : Nat) : ByteArray := ⟨(Lib.join ((cutAt 47 q.data.toList).take (i + 1)) [47]).toArray⟩
end Go.Proofs.YtcnjiphoahoojaaDoor.Recs

/- Adding a node to a tree and removing one, plain: where it goes, and that a tree stays a tree. -/
namespace Go.Proofs.YtcnjiphoahoojaaDoor.Recs
open Go.RowKit Paths

theorem lessR_trans {x y z : R} (h : lessR x y = true) (k : lessR y z = true) : lessR x z = true := lessP_trans _ _ _ h k
theorem lessR_asymm {x y : R} (h : lessR x y = true) : lessR y x = false := lessP_asymm _ _ h
theorem lessR_path {x y n : R} (h : x.p = y.p) : lessR x n = lessR y n := by unfold lessR; rw [h]
theorem put_head {t : List R} (h : Sorted t) (n : R) : t.takeWhile (fun x => lessR x n) = t.filter (fun x => lessR x n) := by
  induction t with
  | nil => rfl
  | cons x t ih =>
    unfold Sorted at h ih
    rw [List.pairwise_cons] at h
    rcases Bool.eq_false_or_eq_true (lessR x n) with hx | hx
    · rw [List.takeWhile_cons_of_pos (p := fun x => lessR x n) hx, List.filter_cons_of_pos (p := fun x => lessR x n) hx, ih h.2]
    · rw [List.takeWhile_cons_of_neg (p := fun x => lessR x n) (by simp [hx]), List.filter_cons_of_neg (p := fun x => lessR x n) (by simp [hx])]
      symm
      rw [List.filter_eq_nil_iff]
      intro y hy hn
      rw [lessR_trans (h.1 y hy) hn] at hx
      cases hx
theorem put_tail {t : List R} (h : Sorted t) (n : R) : t.filter (fun x => lessR n x) = (if (t.dropWhile (fun x => lessR x n)).head?.any (fun x => decide (x.p = n.p)) then (t.dropWhile (fun x => lessR x n)).tail else t.dropWhile (fun x => lessR x n)) := by
  induction t with
  | nil => rfl
  | cons x t ih =>
    unfold Sorted at h ih
    rw [List.pairwise_cons] at h
    rcases Bool.eq_false_or_eq_true (lessR x n) with hx | hx
    · rw [List.dropWhile_cons_of_pos (p := fun x => lessR x n) hx, List.filter_cons_of_neg (p := fun x => lessR n x) (by simp [lessR_asymm hx]), ih h.2]
    · rw [List.dropWhile_cons_of_neg (p := fun x => lessR x n) (by simp [hx])]
      simp only [List.head?_cons, Option.any_some, decide_eq_true_eq, List.tail_cons]
      by_cases he : x.p = n.p
      · rw [if_pos he, List.filter_cons_of_neg (p := fun x => lessR n x) (by rw [← lessR_path he, lessR_irrefl]; decide)]
        rw [List.filter_eq_self]
        intro y hy
        rw [← lessR_path he]
        exact h.1 y hy
      · rw [if_neg he]
        have hn : lessR n x = true := by
          rcases less_or he with h1 | h1
          · rw [h1] at hx; cases hx
          · exact h1
        rw [List.filter_cons_of_pos (p := fun x => lessR n x) hn]
        congr 1
        rw [List.filter_eq_self]
        intro y hy
        exact lessR_trans hn (h.1 y hy)
/-- The place where a node goes: behind those that are less. -/
def placeOf (t : List R) (n : R) : Nat := (t.takeWhile (fun x => lessR x n)).length
theorem place_take (t : List R) (n : R) : t.take (placeOf t n) = t.takeWhile (fun x => lessR x n) := by
  unfold placeOf
  conv => lhs; rw [← List.takeWhile_append_dropWhile (p := fun x => lessR x n) (l := t)]
  rw [List.takeWhile_append_dropWhile]
  conv => lhs; arg 2; rw [← List.takeWhile_append_dropWhile (p := fun x => lessR x n) (l := t)]
  rw [List.take_left' rfl]
theorem place_drop (t : List R) (n : R) : t.drop (placeOf t n) = t.dropWhile (fun x => lessR x n) := by
  unfold placeOf
  conv => lhs; arg 2; rw [← List.takeWhile_append_dropWhile (p := fun x => lessR x n) (l := t)]
  rw [List.drop_left' rfl]
/-- As the model puts it. -/
theorem put_is {t : List R} (h : Sorted t) (n : R) :
    putL t n = t.take (placeOf t n) ++ n :: (if (t[placeOf t n]?).any (fun x => decide (x.p = n.p)) then t.drop (placeOf t n + 1) else t.drop (placeOf t n)) := by
  unfold putL
  rw [← put_head h, put_tail h, place_take, place_drop]
  have e1 : (t.dropWhile (fun x => lessR x n)).head? = t[placeOf t n]? := by rw [← place_drop, List.head?_drop]
  have e2 : (t.dropWhile (fun x => lessR x n)).tail = t.drop (placeOf t n + 1) := by rw [← place_drop, List.tail_drop]
  rw [e1, e2]
end Go.Proofs.YtcnjiphoahoojaaDoor.Recs

/- Trees with what is directly below each node, plain. -/
namespace Go.Proofs.YtcnjiphoahoojaaDoor.Recs
open Go.RowKit Paths

/-- The last part of a path. -/
def lastB (p : ByteArray) : ByteArray := ⟨((cutAt 47 p.data.toList).getLast (cutAt_ne 47 _)).toArray⟩
/-- What the root of a tree is, as a node. -/
def rootR : R := ⟨3, 0, ByteArray.empty, ByteArray.empty, false⟩
/-- What is directly below a path. -/
def kids (t : List R) (p : ByteArray) : List R := t.filter fun c => decide (parO c.p = p)
theorem mem_kids {t : List R} {p : ByteArray} {c : R} : c ∈ kids t p ↔ c ∈ t ∧ parO c.p = p := by unfold kids; rw [List.mem_filter, decide_eq_true_eq]
theorem parO_empty {q : ByteArray} : parO q = ByteArray.empty ↔ parentL q.data.toList = [] := by
  constructor
  · intro h
    have := congrArg (fun b : ByteArray => b.data.toList) h
    rw [parO_data] at this
    exact this
  · intro h
    unfold parO
    rw [h]
    rfl
theorem path_nonempty {q : ByteArray} (h : pathB q.data.toList = true) : q ≠ ByteArray.empty := fun e => by
  rw [e] at h
  exact pathB_ne h rfl
theorem sorted_filter {t : List R} (h : Sorted t) (f : R → Bool) : Sorted (t.filter f) := List.Pairwise.filter _ h
theorem up_self {q : ByteArray} (h : pathB q.data.toList = true) : q ∉ ups q := fun hm => by
  have := ups_less h q hm
  rw [lessP_irrefl] at this
  cases this
theorem ups_of_par {q : ByteArray} (h : pathB q.data.toList = true) (hp : parO q ≠ ByteArray.empty) : ups q = parO q :: ups (parO q) := by
  rw [ups_step h, if_neg (fun e => hp (parO_empty.2 e))]
end Go.Proofs.YtcnjiphoahoojaaDoor.Recs

/- Trees, plain: all that is below a path, by what is directly below it; what putting a node in and taking one out do to what is directly below. -/
namespace Go.Proofs.YtcnjiphoahoojaaDoor.Recs
open Go.RowKit Paths

theorem kids_sorted {t : List R} (h : Sorted t) (p : ByteArray) : Sorted (kids t p) := sorted_filter h _
/-- Where a node has no fellow: it goes between those that are less and those that are not. -/
theorem put_new {t : List R} (h : Sorted t) {n : R} (hn : recAt t n.p = none) : putL t n = t.take (placeOf t n) ++ n :: t.drop (placeOf t n) := by
  rw [put_is h, if_neg]
  intro e
  cases hg : t[placeOf t n]? with
  | none => rw [hg] at e; cases e
  | some x =>
    rw [hg] at e
    have hm := List.mem_of_getElem? hg
    exact recAt_none hn x hm (by simpa using e)
theorem kids_put {t : List R} (h : Sorted t) {n : R} (hn : recAt t n.p = none) (p : ByteArray) : kids (putL t n) p = if parO n.p = p then putL (kids t p) n else kids t p := by
  have e := put_new h hn
  by_cases hp : parO n.p = p
  · rw [if_pos hp]
    unfold putL kids
    rw [List.filter_append, List.filter_cons_of_pos (by simpa using hp)]
    simp only [List.filter_filter, Bool.and_comm]
  · rw [if_neg hp, e]
    conv => rhs; rw [← List.take_append_drop (placeOf t n) t]
    unfold kids
    rw [List.filter_append, List.filter_cons_of_neg (by simpa using hp), List.filter_append]
theorem recAt_kids {t : List R} {q p : ByteArray} (h : recAt t q = none) : recAt (kids t p) q = none := by
  unfold recAt at h ⊢
  rw [List.find?_eq_none] at h ⊢
  exact fun x hx => h x (mem_kids.1 hx).1
end Go.Proofs.YtcnjiphoahoojaaDoor.Recs

/- A tree in memory: what each branch holds; finding a child of a branch, resolving parts. -/
namespace Go.Proofs.YtcnjiphoahoojaaDoor.Recs
set_option maxRecDepth 100000
open Go.RowKit Paths

/-- A branch's six cells. -/
def brCells (r : R) (s : Value) : Array Value := #[.string (lastB r.p), .int .i64 r.k, .string r.p, .string r.b, .int .i64 r.m, s]
def ptr (a : Nat) : Value := .pointer (some ⟨a, 0, none⟩)
def ptrs (A : ByteArray → Nat) (l : List R) : List Value := l.map fun c => ptr (A c.p)
/-- The tree t lies in memory from 'base' on: A tells the block of each branch, S its slice of what is directly below. -/
structure Tr (w : World) (base : Nat) (A : ByteArray → Nat) (S : ByteArray → Value) (t : List R) : Prop where
  block : ∀ r ∈ rootR :: t, w.heap[A r.p]? = some (.cells (brCells r (S r.p)) 122 (0, 0))
  own : ∀ r ∈ rootR :: t, base ≤ A r.p
  row : ∀ r ∈ rootR :: t, w.ownsRow base 103 1 (S r.p) (kids t r.p).length (ptrs A (kids t r.p))
  apart : ∀ r ∈ rootR :: t, ∀ x ∈ rootR :: t, r.p ≠ x.p → ∀ g, (S r.p).ownBlock = some g → (S x.p).ownBlock ≠ some g
section
variable {w w' : World} {base : Nat} {A : ByteArray → Nat} {S : ByteArray → Value} {t : List R} {r : R}
theorem Tr.lt (h : Tr w base A S t) (hr : r ∈ rootR :: t) : A r.p < w.heap.size := (Array.getElem?_eq_some_iff.1 (h.block r hr)).1
theorem Tr.below (h : Tr w base A S t) (hb : Below w.heap.size w w') : Tr w' base A S t :=
  ⟨fun r hr => (hb.block _ (h.lt hr)).trans (h.block r hr), h.own, fun r hr => own_below (h.row r hr) hb, h.apart⟩
theorem Tr.cells (h : Tr w base A S t) (hr : r ∈ rootR :: t) :
    w.cell? ⟨A r.p, 0, none⟩ = some (.string (lastB r.p)) ∧ w.cell? ⟨A r.p, 1, none⟩ = some (.int .i64 r.k) ∧ w.cell? ⟨A r.p, 2, none⟩ = some (.string r.p) ∧
    w.cell? ⟨A r.p, 3, none⟩ = some (.string r.b) ∧ w.cell? ⟨A r.p, 4, none⟩ = some (.int .i64 r.m) ∧ w.cell? ⟨A r.p, 5, none⟩ = some (S r.p) := by
  have := h.block r hr
  refine ⟨?_, ?_, ?_, ?_, ?_, ?_⟩ <;> (unfold World.cell?; simp only [this]; rfl)
theorem Tr.frozen (h : Tr w base A S t) (hr : r ∈ rootR :: t) (j : Nat) : w.frozen? ⟨A r.p, j, none⟩ = false := by
  have := h.block r hr
  unfold World.frozen?
  simp only [this]
  simp
theorem kid_mem {p : ByteArray} {c : R} (h : c ∈ kids t p) : c ∈ rootR :: t := List.mem_cons_of_mem _ (mem_kids.1 h).1
end

/-- A slice that reads as parts. -/
def PartSl (w : World) (v : Value) (L : List (List UInt8)) : Prop :=
  ∃ A cap, v = .slice A L.length cap ∧ L.length ≤ cap ∧ (0 < L.length → ∃ g, A = some ⟨g, 0, none⟩ ∧ g < w.heap.size ∧ ∀ i (hi : i < L.length), w.cell? ⟨g, i, none⟩ = some (strV L[i]))
theorem PartSl.below {w w' : World} {v : Value} {L : List (List UInt8)} (h : PartSl w v L) (hb : Below w.heap.size w w') : PartSl w' v L := by
  obtain ⟨A, cap, rfl, hc, h⟩ := h
  refine ⟨A, cap, rfl, hc, fun hn => ?_⟩
  obtain ⟨g, rfl, hlt, hcell⟩ := h hn
  exact ⟨g, rfl, Nat.lt_of_lt_of_le hlt hb.size, fun i hi => (hb.cell (p := ⟨g, i, none⟩) hlt).trans (hcell i hi)⟩
theorem PartSl.take {w : World} {sA : Option Addr} {cap : Nat} {L : List (List UInt8)} (h : PartSl w (.slice sA L.length cap) L) {k : Nat} (hk : k ≤ L.length) : PartSl w (.slice sA k cap) (L.take k) := by
  obtain ⟨A', cap', e, hc, h⟩ := h
  cases e
  refine ⟨sA, cap, by rw [List.length_take, Nat.min_eq_left hk], by rw [List.length_take]; omega, fun hn => ?_⟩
  rw [List.length_take] at hn
  obtain ⟨g, e, hb, hcell⟩ := h (by omega)
  refine ⟨g, e, hb, fun i hi => ?_⟩
  rw [List.length_take] at hi
  rw [hcell i (by omega), List.getElem_take]

end Go.Proofs.YtcnjiphoahoojaaDoor.Recs

/- slices.Insert of one pointer into a row of pointers of the call's own: what comes out, wherever it goes. -/
namespace Go.Proofs.YtcnjiphoahoojaaDoor.Recs
set_option maxRecDepth 100000
open Go.RowKit Paths

/-- 'copy' for the walk, where its run is known. -/
theorem wp_copy_known (w : World) {P : Program} {o : Oper} {a : Act} {K : Act → World → Prop} {Q : Exit → Act → World → Prop} (d s : Operand) (t t' : TypeId)
    (ho : o.op = .call { callee := .builtin .copy, args := #[d, s], argTypes := #[t, t'] }) (v u : Value) (hd : a.eval d = v) (hs : a.eval s = u) {v' : Value} {w' : World}
    (hr : (Builtin.copy_ #[t, t'] o.type #[v, u]).run P w = .ok v' w') (h : K (a.put o.dst v') w') : o.wp P a w K Q := by
  unfold Oper.wp execOp
  simp only [ho, resolve, invoke, builtin, Sem.run_bind, Sem.run_pure, Result.andThen_ok, List.map_toArray, List.map_cons, List.map_nil, hd, hs, hr]
  exact h
theorem wpList_copy_known (w : World) {P : Program} {ops : Array Oper} {rest : List Oper} {o : Oper} {a : Act} {Q : Exit → Act → World → Prop} (hgd : o.guard = none) (d s : Operand) (t t' : TypeId)
    (ho : o.op = .call { callee := .builtin .copy, args := #[d, s], argTypes := #[t, t'] }) (v u : Value) (hd : a.eval d = v) (hs : a.eval s = u) {v' : Value} {w' : World}
    (hr : (Builtin.copy_ #[t, t'] o.type #[v, u]).run P w = .ok v' w') (h : wpList P ops Q rest (a.put o.dst v') w') : wpList P ops Q (o :: rest) a w :=
  wpList_plain hgd fun _ hK => wp_copy_known w d s t t' ho v u hd hs hr (hK _ _ h)
end Go.Proofs.YtcnjiphoahoojaaDoor.Recs
