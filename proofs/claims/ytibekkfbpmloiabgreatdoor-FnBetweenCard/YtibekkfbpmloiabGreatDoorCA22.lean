/- Parts of several texts of mine in one file (each begins with its own remark). -/
import Derived.Test.YtibekkfbpmloiabGreatDoorCA1
import Derived.Test.YtibekkfbpmloiabGreatDoorCA10
import Derived.Test.YtibekkfbpmloiabGreatDoorCA14
import Derived.Test.YtibekkfbpmloiabGreatDoorCA15
import Derived.Test.YtibekkfbpmloiabGreatDoorCA16
import Derived.Test.YtibekkfbpmloiabGreatDoorCA17
import Derived.Test.YtibekkfbpmloiabGreatDoorCA2
import Derived.Test.YtibekkfbpmloiabGreatDoorCA20
import Derived.Test.YtibekkfbpmloiabGreatDoorCA21
import Derived.Test.YtibekkfbpmloiabGreatDoorCA3
import Derived.Test.YtibekkfbpmloiabGreatDoorCA4
import Derived.Test.YtibekkfbpmloiabGreatDoorCA5
import Derived.Test.YtibekkfbpmloiabGreatDoorCA6
import Derived.Test.YtibekkfbpmloiabGreatDoorCA7
import Derived.Test.YtibekkfbpmloiabGreatDoorCA9
import Derived.Test.YtibekkfbpmloiabGreatDoorChecked
import Derived.Test.YtibekkfbpmloiabGreatDoorShelf
import Derived.Test.YtibekkfbpmloiabGreatDoorProg
import Derived.Test.YtibekkfbpmloiabGreatDoorRows
import Derived.Deep.Slices
import Derived.OpenShut
import Derived.ShutString
import Derived.ChangeArms
import Derived.WideShapes
import Derived.Lib.LaidTab
import Derived.BigQuiet
import Derived.Deep.QuietTactic
import Derived.Deep.RegionHeld3
import Derived.StillTailTactics
import Derived.Deep.Draws
import Derived.Deep.LoopGhost
import Derived.WalkKit
import Derived.WalkSpells
import Derived.WalkSmall
import Derived.Lib.OthersKept
import Derived.Lib.Hide
import Derived.Lib.Strings
import Derived.Lib.Join
import Derived.Stop.LaidErr
import Derived.Laws.OwnMore
import Derived.BigRegion
import Derived.Laws.BytesArg
import Derived.WalkLawsBesides
import Derived.LaidEql
import Derived.Stop.Asserts
import Derived.Below
import Derived.Stop.LaidTwo
import Derived.ChangeVars
import Derived.Deep.DeepHandedRow
import Derived.Deep.RegionWith
import Derived.OneCell
import Derived.Lib.SliceRun
import Derived.Lib.Overlaps
import Derived.Lib.AppendZerosOnto
import Derived.Laws.NewBlocks
import Derived.Laws.IdiomCopy
import Derived.Deep.RegionLaw
import Derived.Deep.Cut
import Derived.Deep.CutRange
import Derived.Deep.CutBlock
import Derived.Deep.AppendLies
import Derived.RangeFuncNested
import Derived.RangeFuncBound
import Derived.RangeFuncCalls
import Derived.RangeFuncLeaves
import Derived.RangeFuncBox
import Derived.Shelf.Abstract
import Derived.Shelf.RegionOpen
import Derived.OwnWalkIn
import Derived.TacticsInMore
import Derived.LoopNIn
import Derived.LoopIn
import Derived.IntWalk
import Derived.RegionTactic
/- Combining many layers in one pass, plain: the canonical form of the winners at all paths is the combination of the stack. A stack is given highest layer first. -/
namespace Go.Proofs.YtibekkfbpmloiabGreatDoor.Recs
open Go.RowKit Paths

/-- At least one record of a path stops, of the layers down to the one that cuts the path off. -/
def lowStops : List (List R) → ByteArray → Bool
  | [], _ => false
  | l :: s, q => (recAt l q).any stops || (!cutsL l q && lowStops s q)
/-- The record that is seen at a path. -/
def winner : List (List R) → ByteArray → Option R
  | [], _ => none
  | l :: s, q => match recAt l q with
    | some y => some (if y.k = 3 ∧ cutsL l q = false ∧ lowStops s q = true then { y with o := true } else y)
    | none => if cutsL l q then none else winner s q
/-- A list of winners: sorted, with just the winners of the stack. -/
structure Winners (s : List (List R)) (m : List R) : Prop where
  sorted : Sorted m
  mem : ∀ r, r ∈ m ↔ ∃ q, pathB q.data.toList = true ∧ winner s q = some r
section
variable {s : List (List R)} {m : List R} (hs : ∀ l ∈ s, Fine l) (hm : Winners s m)
include hs hm
end
end Go.Proofs.YtibekkfbpmloiabGreatDoor.Recs

/- A heap as a list, plain: sinking, building it up, replacing and taking away its first one. -/
namespace Go.Proofs.YtibekkfbpmloiabGreatDoor.Heap
set_option maxRecDepth 100000

/-- The place above another one. -/
def par (c : Nat) : Nat := (c - 1) / 2
section
variable {α : Type} (lt : α → α → Bool)
/-- Which of a place and the two below it is first. -/
def pick (h : List α) (a c : Nat) : Nat := match h[c]?, h[a]? with
  | some x, some y => if lt x y then c else a
  | _, _ => a
def least (h : List α) (i : Nat) : Nat := pick lt h (pick lt h i (2 * i + 1)) (2 * i + 2)
/-- From place s on no one is before the one above it. -/
def Heap (s : Nat) (h : List α) : Prop := ∀ c x y, 0 < c → s ≤ par c → h[c]? = some x → h[par c]? = some y → lt x y = false
variable (has : ∀ a b, lt a b = true → lt b a = false) (hnt : ∀ a b c, lt a c = true → lt a b = true ∨ lt b c = true)
include has hnt in
include has hnt in
include has hnt in
include has hnt in
end
end Go.Proofs.YtibekkfbpmloiabGreatDoor.Heap

/- The code of the errors of a call's arguments. Conditions: the table of kinds, the two sentinels. -/
namespace Go.Proofs.YtibekkfbpmloiabGreatDoor.Recs
set_option maxRecDepth 100000
open Go.RowKit Paths Errs

/-- An error that a check hands back: none, the sentinel of long arguments, or the one that names a record. -/
inductive EK where
  | fine
  | long
  | bad (i c : Int)
def EK.val (x : Addr) : EK → Value
  | .fine => .nilIface
  | .long => errV x
  | .bad i c => recV i c
end Go.Proofs.YtibekkfbpmloiabGreatDoor.Recs

/- Layers: UnderOpaque, of the program and of its model. Conditions (of the program's): the table of kinds, the two sentinels. -/
namespace Go.Proofs.YtibekkfbpmloiabGreatDoor.Recs
set_option maxRecDepth 100000
open Go.RowKit Paths Errs

def pm : Value → Nat
  | .string s => if s.size = 0 then 0 else (cutAt 47 s.data.toList).length
  | _ => 0
theorem parO_size {p : ByteArray} (h : parentL p.data.toList = []) : (parO p).size = 0 := by rw [Lib.size_eq, parO_data, h]; rfl
theorem path_pos {p : ByteArray} (h : pathB p.data.toList = true) : p.size ≠ 0 := fun e => by rw [pathB_empty e] at h; cases h
theorem pm_down {p : ByteArray} (h : pathB p.data.toList = true) : pm (.string (parO p)) < pm (.string p) := by
  have h0 := path_pos h
  have h1 : 0 < (cutAt 47 p.data.toList).length := cutAt_pos 47 _
  show (if (parO p).size = 0 then 0 else (cutAt 47 (parO p).data.toList).length) < (if p.size = 0 then 0 else (cutAt 47 p.data.toList).length)
  rw [if_neg h0]
  by_cases hp : parentL p.data.toList = []
  · rw [if_pos (parO_size hp)]; exact h1
  · obtain ⟨h2, h3⟩ := parts_parent h hp
    rw [if_neg (path_pos h2)]
    omega
end Go.Proofs.YtibekkfbpmloiabGreatDoor.Recs

/- For laws over lists of records: the laws' own sizes with their sums; blocks between two numbers; two equal rows of strings. -/
namespace Go.Proofs.YtibekkfbpmloiabGreatDoor.Recs
set_option maxRecDepth 100000
open Go.RowKit Paths

/-- From w to w' nothing has turned but blocks from base on, below top; and new ones came. -/
structure Betw (base top : Nat) (w w' : World) : Prop where
  os : w'.os = w.os
  tape : w'.tape = w.tape
  output : w'.output = w.output
  size : w.heap.size ≤ w'.heap.size
  block : ∀ k, k < w.heap.size → (k < base ∨ top ≤ k) → w'.heap[k]? = w.heap[k]?
theorem Betw.refl (base top : Nat) (w : World) : Betw base top w w := ⟨rfl, rfl, rfl, Nat.le_refl _, fun _ _ _ => rfl⟩
theorem Betw.trans {base top : Nat} {a b c : World} (h : Betw base top a b) (k : Betw base top b c) : Betw base top a c :=
  ⟨k.os.trans h.os, k.tape.trans h.tape, k.output.trans h.output, Nat.le_trans h.size k.size, fun i hi hk => (k.block i (Nat.lt_of_lt_of_le hi h.size) hk).trans (h.block i hi hk)⟩
theorem Betw.below {base top B : Nat} {a w w' : World} (h : Below B a w) (hb : Betw base top w w') (hB : B ≤ base) (hB2 : B ≤ w.heap.size) : Below B a w' :=
  h.trans ⟨hb.os, hb.tape, hb.output, hb.size, fun k hk => hb.block k (by omega) (.inl (by omega))⟩
theorem Betw.own {base top : Nat} {w w' : World} (hb : Betw base top w w') {b : Nat} {e : TypeId} {s : Nat} {v : Value} {n : Nat} {xs : List Value} (h : w.ownsRow b e s v n xs) (hk : ∀ k, v.ownBlock = some k → k < base ∨ top ≤ k) : w'.ownsRow b e s v n xs := by
  obtain ⟨h1, h2⟩ := h
  refine ⟨h1, ?_⟩
  rcases h2 with h2 | ⟨g, cap, cur, rfl, b1, c, d⟩
  · exact .inl h2
  · exact .inr ⟨g, cap, cur, rfl, b1, by rw [hb.block g (Array.getElem?_eq_some_iff.1 c).1 (hk g rfl)]; exact c, d⟩
end Go.Proofs.YtibekkfbpmloiabGreatDoor.Recs

/- Layers: Canonical and IsCanonical, of the program and of its model. Conditions (of the program's): the table of kinds, the two sentinels. -/
namespace Go.Proofs.YtibekkfbpmloiabGreatDoor.Recs
set_option maxRecDepth 100000
open Go.RowKit Paths Errs

theorem own_le {w : World} {base base' : Nat} {e : TypeId} {size : Nat} {v : Value} {n : Nat} {xs : List Value} (h : w.ownsRow base e size v n xs) (hb : base' ≤ base) : w.ownsRow base' e size v n xs := by
  obtain ⟨h1, h2⟩ := h
  refine ⟨h1, ?_⟩
  rcases h2 with h2 | ⟨g, cap', cur, a, b, c⟩
  · exact .inl h2
  · exact .inr ⟨g, cap', cur, a, Nat.le_trans hb b, c⟩

end Go.Proofs.YtibekkfbpmloiabGreatDoor.Recs

/- Slices in memory of their own, of any element that lies in a fixed number of cells. -/
namespace Go.Proofs.YtibekkfbpmloiabGreatDoor.Recs
set_option maxRecDepth 100000
open Go.RowKit Paths

section
variable {α : Type} {cs : α → List Value} {k : Nat}
def flatG (cs : α → List Value) (l : List α) : List Value := l.flatMap cs
theorem flatG_len (hcs : ∀ a, (cs a).length = k) : ∀ l : List α, (flatG cs l).length = l.length * k
  | [] => by simp [flatG]
  | a :: t => by
    have ih := flatG_len hcs t
    have : flatG cs (a :: t) = cs a ++ flatG cs t := by simp [flatG]
    rw [this, List.length_append, hcs, ih, List.length_cons, Nat.succ_mul, Nat.add_comm]
theorem flatG_get (hcs : ∀ a, (cs a).length = k) (hk : 0 < k) : ∀ (l : List α) (j : Nat), (flatG cs l)[j]? = (l[j / k]?).bind fun a => (cs a)[j % k]?
  | [], j => by simp [flatG]
  | a :: t, j => by
    have ih := flatG_get hcs hk t (j - k)
    have hc : flatG cs (a :: t) = cs a ++ flatG cs t := by simp [flatG]
    rw [hc]
    by_cases hj : j < k
    · rw [Nat.div_eq_of_lt hj, Nat.mod_eq_of_lt hj, List.getElem?_append_left (by rw [hcs]; exact hj)]
      rfl
    · rw [Nat.div_eq_sub_div hk (by omega), Nat.mod_eq_sub_mod (by omega), List.getElem?_append_right (by rw [hcs]; omega), hcs, List.getElem?_cons_succ]
      exact ih
theorem div_here {i c : Nat} (hc : c < k) : (i * k + c) / k = i ∧ (i * k + c) % k = c := by
  constructor
  · rw [Nat.add_comm, Nat.add_mul_div_right _ _ (by omega), Nat.div_eq_of_lt hc, Nat.zero_add]
  · rw [Nat.add_comm, Nat.add_mul_mod_self_right, Nat.mod_eq_of_lt hc]
theorem at_here {i c j : Nat} (hc : c < k) : i * k + c = j ↔ i = j / k ∧ c = j % k := by
  constructor
  · rintro rfl
    exact ⟨(div_here hc).1.symm, (div_here hc).2.symm⟩
  · rintro ⟨rfl, rfl⟩
    rw [Nat.mul_comm]
    exact Nat.div_add_mod j k
theorem flatG_field (hcs : ∀ a, (cs a).length = k) {M : List α} {i c : Nat} {a : α} {u : Value} (hi : i < M.length) (hc : c < k) (h : cs a = (cs M[i]).set c u) : flatG cs (M.set i a) = (flatG cs M).set (i * k + c) u := by
  apply List.ext_getElem?
  intro j
  rw [flatG_get hcs (by omega), List.getElem?_set, List.getElem?_set, flatG_len hcs, flatG_get hcs (by omega)]
  have hlt : i * k + c < M.length * k := by
    have := Nat.mul_le_mul_right k (show i + 1 ≤ M.length from hi)
    rw [Nat.succ_mul] at this
    omega
  by_cases hj : i = j / k
  · rw [if_pos hj, if_pos hi]
    simp only [Option.bind_some]
    rw [h, List.getElem?_set]
    by_cases hq : c = j % k
    · rw [if_pos hq, if_pos (by rw [hcs]; omega), if_pos ((at_here hc).2 ⟨hj, hq⟩), if_pos hlt]
    · rw [if_neg hq, if_neg (fun e => hq ((at_here hc).1 e).2), ← hj, List.getElem?_eq_getElem hi]
      rfl
  · rw [if_neg hj, if_neg (fun e => hj ((at_here hc).1 e).1)]

/-- A slice in memory of its own that holds the things M. -/
def RowG (cs : α → List Value) (k : Nat) (T : TypeId) (w : World) (base : Nat) (v : Value) (n : Nat) (M : List α) : Prop := M.length = n ∧ w.ownsRow base T k v n (flatG cs M)
variable {T : TypeId} {w w' : World} {base : Nat} {v : Value} {n : Nat} {M : List α}
theorem RowG.below (h : RowG cs k T w base v n M) (hb : Below w.heap.size w w') : RowG cs k T w' base v n M := ⟨h.1, own_below h.2 hb⟩
theorem RowG.form (h : RowG cs k T w base v n M) : ∃ A cap, v = .slice A n cap := own_form h.2
theorem RowG.nil : RowG cs k T w base (.slice none 0 0) 0 [] := ⟨rfl, World.ownsRow_nil _ _ _ _⟩
theorem RowG.down {base' : Nat} (h : RowG cs k T w base v n M) (hb : base' ≤ base) : RowG cs k T w base' v n M := ⟨h.1, own_le h.2 hb⟩
theorem RowG.cell (hcs : ∀ a, (cs a).length = k) {g cap : Nat} (h : RowG cs k T w base (.slice (some ⟨g, 0, none⟩) n cap) n M) {i c : Nat} (hi : i < M.length) (hc : c < k) : w.cell? ⟨g, i * k + c, none⟩ = (cs M[i])[c]? := by
  have hlt : i * k + c < n * k := by
    have := Nat.mul_le_mul_right k (show i + 1 ≤ M.length from hi)
    rw [Nat.succ_mul, h.1] at this
    omega
  rw [h.2.cellAt (i * k + c) hlt, flatG_get hcs (by omega), (div_here hc).1, (div_here hc).2, List.getElem?_eq_getElem hi]
  rfl
theorem RowG.field (hcs : ∀ a, (cs a).length = k) {g cap : Nat} (h : RowG cs k T w base (.slice (some ⟨g, 0, none⟩) n cap) n M) {i c : Nat} {a : α} {u : Value} (hi : i < M.length) (hc : c < k) (ha : cs a = (cs M[i]).set c u) :
    RowG cs k T (w.setCell ⟨g, i * k + c, none⟩ u) base (.slice (some ⟨g, 0, none⟩) n cap) n (M.set i a) ∧ w.grownBy (w.setCell ⟨g, i * k + c, none⟩ u) (some g) := by
  obtain ⟨h1, h2⟩ := h.2.stored (i * k + c) u
  exact ⟨⟨by rw [List.length_set]; exact h.1, by rw [flatG_field hcs hi hc ha]; exact h1⟩, h2⟩
theorem RowG.frozen {g cap : Nat} (h : RowG cs k T w base (.slice (some ⟨g, 0, none⟩) n cap) n M) (j : Nat) : w.frozen? ⟨g, j, none⟩ = false := h.2.frozenAt j
theorem RowG.kept {row : Option Nat} (h : RowG cs k T w base v n M) (hg : w.grownBy w' row) (hr : v.ownBlock = none ∨ v.ownBlock ≠ row) : RowG cs k T w' base v n M := ⟨h.1, h.2.kept hg hr⟩
end
end Go.Proofs.YtibekkfbpmloiabGreatDoor.Recs

/- Combining two layers, of the program. -/
namespace Go.Proofs.YtibekkfbpmloiabGreatDoor.Recs
set_option maxRecDepth 100000
open Go.RowKit Paths Errs

/-- The length of a slice. -/
def lenV : Value → Nat
  | .slice _ n _ => n
  | _ => 0
theorem path_max {p : ByteArray} (h : pathB p.data.toList = true) : p.size ≤ maxLen := by
  have := path_short h
  unfold maxLen
  omega
end Go.Proofs.YtibekkfbpmloiabGreatDoor.Recs

/- The winner of the records of one path, and these records, of the program. -/
namespace Go.Proofs.YtibekkfbpmloiabGreatDoor.Recs
set_option maxRecDepth 100000
open Go.RowKit Paths

def csP (p : R × Nat) : List Value := [.int .i64 p.1.k, .string p.1.p, .string p.1.b, .int .i64 p.1.m, .bool p.1.o, .int .i64 (p.2 : Int)]
theorem csP_len (p : R × Nat) : (csP p).length = 6 := rfl
def PCells (w : World) (b off : Nat) (p : R × Nat) : Prop := RecCells w b off p.1 ∧ w.cell? ⟨b, off + 5, none⟩ = some (.int .i64 (p.2 : Int))
theorem PCells.below {w w' : World} {B b off : Nat} {p : R × Nat} (h : PCells w b off p) (hb : Below B w w') (hB : b < B) : PCells w' b off p := ⟨h.1.below hb hB, (hb.cell (p := ⟨b, off + 5, none⟩) hB).trans h.2⟩
def PSl (w : World) (v : Value) (G : List (R × Nat)) : Prop :=
  ∃ A cap, v = .slice A G.length cap ∧ G.length ≤ cap ∧ (0 < G.length → ∃ b off, A = some ⟨b, off, none⟩ ∧ b < w.heap.size ∧ ∀ i p, G[i]? = some p → PCells w b (off + i * 6) p)
theorem PSl.below {w w' : World} {v : Value} {G : List (R × Nat)} (h : PSl w v G) (hb : Below w.heap.size w w') : PSl w' v G := by
  obtain ⟨A, cap, rfl, hc, h⟩ := h
  refine ⟨A, cap, rfl, hc, fun hn => ?_⟩
  obtain ⟨b, off, rfl, hlt, hcell⟩ := h hn
  exact ⟨b, off, rfl, Nat.lt_of_lt_of_le hlt hb.size, fun i p hi => (hcell i p hi).below hb hlt⟩
abbrev RowP (w : World) (base : Nat) (v : Value) (n : Nat) (G : List (R × Nat)) : Prop := RowG csP 6 103 w base v n G
theorem RowP.sl {w : World} {base : Nat} {v : Value} {n : Nat} {G : List (R × Nat)} (h : RowP w base v n G) : PSl w v G := by
  have hh := h
  obtain ⟨rfl, h⟩ := h
  rcases h.2 with ⟨rfl, hn⟩ | ⟨g, cap, cur, rfl, hb, hg, hc, _⟩
  · exact ⟨none, 0, by rw [hn], by omega, fun h => by omega⟩
  · refine ⟨_, cap, rfl, hc, fun _ => ⟨g, 0, rfl, (Array.getElem?_eq_some_iff.1 hg).1, fun i p hi => ?_⟩⟩
    have hlt := (List.getElem?_eq_some_iff.1 hi).1
    have he := (List.getElem?_eq_some_iff.1 hi).2
    have one : ∀ c, c < 6 → w.cell? ⟨g, i * 6 + c, none⟩ = (csP p)[c]? := fun c hc => by
      rw [RowG.cell csP_len hh hlt hc, he]
    rw [Nat.zero_add]
    exact ⟨⟨one 0 (by omega), one 1 (by omega), one 2 (by omega), one 3 (by omega), one 4 (by omega)⟩, one 5 (by omega)⟩
/-- A block that holds one of them. -/
def Pbox (w : World) (B : Nat) (p : R × Nat) : Prop := w.heap[B]? = some (.cells #[.int .i64 p.1.k, .string p.1.p, .string p.1.b, .int .i64 p.1.m, .bool p.1.o, .int .i64 (p.2 : Int)] 103 (0, 0))
theorem Pbox.lt {w : World} {B : Nat} {p : R × Nat} (h : Pbox w B p) : B < w.heap.size := (Array.getElem?_eq_some_iff.1 h).1
theorem Pbox.cells {w : World} {B : Nat} {p : R × Nat} (h : Pbox w B p) : PCells w B 0 p := by
  refine ⟨⟨?_, ?_, ?_, ?_, ?_⟩, ?_⟩ <;> simp [World.cell?, show w.heap[B]? = _ from h]
theorem Pbox.frozen {w : World} {B : Nat} {p : R × Nat} (h : Pbox w B p) (j : Nat) : w.frozen? ⟨B, j, none⟩ = false := by simp [World.frozen?, show w.heap[B]? = _ from h]
theorem Pbox.below {w w' : World} {K B : Nat} {p : R × Nat} (h : Pbox w B p) (hb : Below K w w') (hB : B < K) : Pbox w' B p := (hb.block B hB).trans h
theorem setCell_heap {w : World} {B j : Nat} {u : Value} {cur : Array Value} {T : TypeId} {fz : Nat × Nat} (h : w.heap[B]? = some (.cells cur T fz)) : (w.setCell ⟨B, j, none⟩ u).heap[B]? = some (.cells (cur.setIfInBounds j u) T fz) := by
  have hlt := (Array.getElem?_eq_some_iff.1 h).1
  simp only [World.setCell, Array.getElem?_modify, h]
  simp
theorem Pbox.set {w : World} {B : Nat} {p : R × Nat} (h : Pbox w B p) (r : R) (n : Nat) :
    Pbox ((((((w.setCell ⟨B, 0, none⟩ (.int .i64 r.k)).setCell ⟨B, 1, none⟩ (.string r.p)).setCell ⟨B, 2, none⟩ (.string r.b)).setCell ⟨B, 3, none⟩ (.int .i64 r.m)).setCell ⟨B, 4, none⟩ (.bool r.o)).setCell ⟨B, 5, none⟩ (.int .i64 (n : Int))) B (r, n) := by
  have h1 := setCell_heap (j := 0) (u := .int .i64 r.k) h
  have h2 := setCell_heap (j := 1) (u := .string r.p) h1
  have h3 := setCell_heap (j := 2) (u := .string r.b) h2
  have h4 := setCell_heap (j := 3) (u := .int .i64 r.m) h3
  have h5 := setCell_heap (j := 4) (u := .bool r.o) h4
  have h6 := setCell_heap (j := 5) (u := .int .i64 (n : Int)) h5
  unfold Pbox
  rw [h6]
  rfl
theorem Pbox.other {w : World} {B B' j : Nat} {p : R × Nat} {u : Value} (h : Pbox w B p) (hne : B ≠ B') : Pbox (w.setCell ⟨B', j, none⟩ u) B p := by
  unfold Pbox at h ⊢
  simp only [World.setCell, Array.getElem?_modify, h]
  rw [if_neg (fun e => hne e.symm)]
/-- A block that holds a record. -/
def Rbox (w : World) (B : Nat) (r : R) : Prop := w.heap[B]? = some (.cells #[.int .i64 r.k, .string r.p, .string r.b, .int .i64 r.m, .bool r.o] 53 (0, 0))
theorem Rbox.lt {w : World} {B : Nat} {r : R} (h : Rbox w B r) : B < w.heap.size := (Array.getElem?_eq_some_iff.1 h).1
theorem Rbox.cells {w : World} {B : Nat} {r : R} (h : Rbox w B r) : RecCells w B 0 r := by
  refine ⟨?_, ?_, ?_, ?_, ?_⟩ <;> simp [World.cell?, show w.heap[B]? = _ from h]
theorem Rbox.frozen {w : World} {B : Nat} {r : R} (h : Rbox w B r) (j : Nat) : w.frozen? ⟨B, j, none⟩ = false := by simp [World.frozen?, show w.heap[B]? = _ from h]
theorem Rbox.below {w w' : World} {K B : Nat} {r : R} (h : Rbox w B r) (hb : Below K w w') (hB : B < K) : Rbox w' B r := (hb.block B hB).trans h
theorem Rbox.set {w : World} {B : Nat} {p : R} (h : Rbox w B p) (r : R) :
    Rbox (((((w.setCell ⟨B, 0, none⟩ (.int .i64 r.k)).setCell ⟨B, 1, none⟩ (.string r.p)).setCell ⟨B, 2, none⟩ (.string r.b)).setCell ⟨B, 3, none⟩ (.int .i64 r.m)).setCell ⟨B, 4, none⟩ (.bool r.o)) B r := by
  have h1 := setCell_heap (j := 0) (u := .int .i64 r.k) h
  have h2 := setCell_heap (j := 1) (u := .string r.p) h1
  have h3 := setCell_heap (j := 2) (u := .string r.b) h2
  have h4 := setCell_heap (j := 3) (u := .int .i64 r.m) h3
  have h5 := setCell_heap (j := 4) (u := .bool r.o) h4
  unfold Rbox
  rw [h5]
  rfl
theorem Rbox.other {w : World} {B B' j : Nat} {p : R} {u : Value} (h : Rbox w B p) (hne : B ≠ B') : Rbox (w.setCell ⟨B', j, none⟩ u) B p := by
  unfold Rbox at h ⊢
  simp only [World.setCell, Array.getElem?_modify, h]
  rw [if_neg (fun e => hne e.symm)]
end Go.Proofs.YtibekkfbpmloiabGreatDoor.Recs

/- The paths of a stack, of the model. -/
namespace Go.Proofs.YtibekkfbpmloiabGreatDoor.Recs
set_option maxRecDepth 100000
open Go.RowKit Paths

def vS (P : List ByteArray) : List Value := P.map Value.string
def StrRow (w : World) (b : Nat) (x : Value) (P : List ByteArray) : Prop := w.ownsRow b 9 1 x P.length (vS P) ∧ ∃ g cap, x = .slice (some ⟨g, 0, none⟩) P.length cap ∧ b ≤ g ∧ g < w.heap.size ∧ P.length ≤ cap ∧ cap ≤ maxLen
theorem StrRow.below {w w' : World} {b : Nat} {x : Value} {P : List ByteArray} (h : StrRow w b x P) (hb : Below w.heap.size w w') : StrRow w' b x P := by
  obtain ⟨h1, g, cap, e, h2, h3, h4, h5⟩ := h
  exact ⟨own_below h1 hb, g, cap, e, h2, Nat.lt_of_lt_of_le h3 hb.size, h4, h5⟩
theorem StrRow.of {w : World} {b m : Nat} {x : Value} {P : List ByteArray} {xs : List Value} (h : w.ownsRow b 9 1 x m xs) (hx : xs = vS P) (hm : m = P.length) (h0 : 0 < P.length) (hc : P.length ≤ 1000) : StrRow w b x P := by
  subst hx
  subst hm
  have hh := h
  rcases h.2 with ⟨_, hn⟩ | ⟨g, cap, cur, rfl, hb, hg, hcc, hcm, _⟩
  · omega
  · exact ⟨hh, g, cap, rfl, hb, (Array.getElem?_eq_some_iff.1 hg).1, hcc, hcm⟩
/-- The one string that is appended. -/
def ItemS (w : World) (g : Nat) (q : ByteArray) : Prop := w.heap[g]? = some (.cells #[.string q] 9 (0, 0))
theorem ItemS.lt {w : World} {g : Nat} {q : ByteArray} (h : ItemS w g q) : g < w.heap.size := (Array.getElem?_eq_some_iff.1 h).1
theorem ItemS.new (w : World) (q : ByteArray) : ItemS (w.alloc (.cells #[.string q] 9)) w.heap.size q := by
  show (w.heap.push _)[w.heap.size]? = some _
  exact Array.getElem?_push_size
theorem ItemS.below {w w' : World} {g : Nat} {q : ByteArray} (h : ItemS w g q) (hb : Below w.heap.size w w') : ItemS w' g q := (hb.block _ h.lt).trans h
theorem ItemS.grown {w w' : World} {g : Nat} {q : ByteArray} {row : Option Nat} (h : ItemS w g q) (hg : w.grownBy w' row) (hne : row ≠ some g) : ItemS w' g q := (hg.block g h.lt (fun e => hne e.symm)).trans h
theorem ItemS.cells {w : World} {g : Nat} {q : ByteArray} (h : ItemS w g q) : ∀ j u, [Value.string q][j]? = some u → w.cell? ((⟨g, 0, none⟩ : Addr).add j) = some u := by
  intro j u hj
  rw [Addr.add_lit, Nat.zero_add]
  unfold World.cell?
  unfold ItemS at h
  simp only [h]
  match j, hj with
  | 0, hj => cases hj; rfl
  | j + 1, hj => simp at hj
end Go.Proofs.YtibekkfbpmloiabGreatDoor.Recs

/- Cursors in memory; sinking one in the heap, of the program. -/
namespace Go.Proofs.YtibekkfbpmloiabGreatDoor.Recs
set_option maxRecDepth 100000
open Go.RowKit Paths Heap

/-- A cursor in memory: its layer and its slice. -/
def csU (c : Nat × Value) : List Value := [.int .i64 (c.1 : Int), c.2]
theorem csU_len (c : Nat × Value) : (csU c).length = 2 := rfl
abbrev RowU (w : World) (base : Nat) (v : Value) (n : Nat) (M : List (Nat × Value)) : Prop := RowG csU 2 171 w base v n M
/-- The slices of the cursors M read, ahead of all, as what is left of the layers. -/
structure CurOk (w0 : World) (M : List (Nat × Value)) (cs : List (Nat × List R)) : Prop where
  len : M.length = cs.length
  at_ : ∀ (i n : Nat) (u : Value), M[i]? = some (n, u) → ∃ x l, cs[i]? = some (n, x :: l) ∧ RecSl w0 u (x :: l) ∧ ∀ r ∈ x :: l, pathB r.p.data.toList = true
/-- Both cells of a cursor written. -/
theorem RowU.store {w : World} {base g cap n : Nat} {M : List (Nat × Value)} {i : Nat} (c : Nat × Value) (h : RowU w base (.slice (some ⟨g, 0, none⟩) n cap) n M) (hi : i < M.length) :
    RowU ((w.setCell ⟨g, i * 2, none⟩ (.int .i64 (c.1 : Int))).setCell ⟨g, i * 2 + 1, none⟩ c.2) base (.slice (some ⟨g, 0, none⟩) n cap) n (M.set i c) ∧
    w.grownBy ((w.setCell ⟨g, i * 2, none⟩ (.int .i64 (c.1 : Int))).setCell ⟨g, i * 2 + 1, none⟩ c.2) (some g) := by
  obtain ⟨a1, b1⟩ := RowG.field csU_len h (i := i) (c := 0) (a := (c.1, M[i].2)) (u := .int .i64 (c.1 : Int)) hi (by omega) rfl
  obtain ⟨a2, b2⟩ := RowG.field csU_len a1 (i := i) (c := 1) (a := c) (u := c.2) (by simpa using hi) (by omega) (by simp [csU])
  refine ⟨?_, grown_trans b1 b2⟩
  simp only [List.set_set] at a2
  exact a2
end Go.Proofs.YtibekkfbpmloiabGreatDoor.Recs

/- The cursors of a stack and the heap of them, of the program. -/
namespace Go.Proofs.YtibekkfbpmloiabGreatDoor.Recs
set_option maxRecDepth 100000
open Go.RowKit Paths Heap

theorem CurOk.nil (w0 : World) : CurOk w0 [] [] := ⟨rfl, fun i n u h => by simp at h⟩
end Go.Proofs.YtibekkfbpmloiabGreatDoor.Recs

/- One more record in the groups of records of one path, of the program. -/
namespace Go.Proofs.YtibekkfbpmloiabGreatDoor.Recs
set_option maxRecDepth 100000
open Go.RowKit Paths

/-- Cursors lie as they lay. -/
def KeepC (w w' : World) : Prop := ∀ (k : Nat) (cur : Array Value) (fz : Nat × Nat), w.heap[k]? = some (.cells cur 171 fz) → w'.heap[k]? = some (.cells cur 171 fz)
theorem KeepC.trans {a b c : World} (h : KeepC a b) (k : KeepC b c) : KeepC a c := fun i cur fz hi => k i cur fz (h i cur fz hi)
/-- Groups in memory of their own: the row of slices, the rows in it. -/
structure GrpOwn (w : World) (b : Nat) (v : Value) (us : List Value) (Gs : List (List (R × Nat))) : Prop where
  len : us.length = Gs.length
  own : w.ownsRow b 100 1 v Gs.length us
  rows : ∀ (i : Nat) (u : Value) (g : List (R × Nat)), us[i]? = some u → Gs[i]? = some g → RowP w b u g.length g
  apart : ∀ (i k : Nat) (u u' : Value) (c : Nat), us[i]? = some u → us[k]? = some u' → u.ownBlock = some c → u'.ownBlock = some c → i = k
theorem GrpOwn.nil (w : World) (b : Nat) : GrpOwn w b (.slice none 0 0) [] [] := ⟨rfl, World.ownsRow_nil _ _ _ _, fun i u g h => by simp at h, fun i k u u' c h => by simp at h⟩
theorem GrpOwn.below {w w' : World} {b : Nat} {v : Value} {us : List Value} {Gs : List (List (R × Nat))} (h : GrpOwn w b v us Gs) (hb : Below w.heap.size w w') : GrpOwn w' b v us Gs :=
  ⟨h.len, own_below h.own hb, fun i u g hi hg => RowG.below (h.rows i u g hi hg) hb, h.apart⟩
end Go.Proofs.YtibekkfbpmloiabGreatDoor.Recs

/- The groups of records of all paths, of the program: all layers passed through at once. -/
namespace Go.Proofs.YtibekkfbpmloiabGreatDoor.Recs
set_option maxRecDepth 100000
open Go.RowKit Paths Heap

/-- The cursor that is looked at. -/
def Abox (w : World) (B n : Nat) (u : Value) : Prop := w.heap[B]? = some (.cells #[.int .i64 (n : Int), u] 171 (0, 0))
theorem Abox.lt {w : World} {B n : Nat} {u : Value} (h : Abox w B n u) : B < w.heap.size := (Array.getElem?_eq_some_iff.1 h).1
theorem Abox.set {w : World} {B n : Nat} {u : Value} (h : Abox w B n u) (u' : Value) : Abox (w.setCell ⟨B, 1, none⟩ u') B n u' := by
  have h5 := setCell_heap (j := 1) (u := u') h
  unfold Abox
  rw [h5]
  rfl

end Go.Proofs.YtibekkfbpmloiabGreatDoor.Recs

/- Slices of bytes that came in: what the laws read off them. -/
namespace Go.Proofs.YtibekkfbpmloiabGreatDoor.Draw
open Go.RowKit Go.ChangeShapes Go.WideShapes

/-- What is known of a slice of integers that came in. -/
def IsRow (k : IntKind) (w : World) (a : Option Addr) (len cap : Nat) (zs : List Int) : Prop :=
  (a = none ∧ len = 0 ∧ cap = 0 ∧ zs = []) ∨
  ∃ x, a = some x ∧ len ≤ cap ∧ cap ≤ maxLen ∧ zs.length = cap ∧ (∀ i, i < zs.length → w.cell? (x.add i) = some (.int k (zs.getD i 0))) ∧ ∀ n ∈ zs, (Lit.int k n).wf = true
theorem IsRow.vals {w : World} {a : Option Addr} {len cap : Nat} {zs : List Int} (h : IsRow .u8 w a len cap zs) (hl : len ≤ 1048576) : Vals w a len (fun k => (zs.getD k 0).toNat) ∧ len ≤ cap ∧ (a = none → len = 0 ∧ cap = 0) := by
  rcases h with ⟨rfl, rfl, rfl, rfl⟩ | ⟨x, rfl, h1, h2, h3, h4, h5⟩
  · exact ⟨⟨by omega, fun h => by omega⟩, Nat.le_refl _, fun _ => ⟨rfl, rfl⟩⟩
  · refine ⟨⟨by omega, fun hn => ?_⟩, h1, fun h => by cases h⟩
    have hc := h4 0 (by omega)
    obtain ⟨b, off, spot⟩ := x
    have hspot : spot = none := by simpa [Addr.add] using World.cell?_spot hc
    subst hspot
    refine ⟨b, off, rfl, World.block_lt_of_cell? w _ (by simpa [Addr.add_lit] using hc), fun k hk => ?_⟩
    have hck := h4 k (by omega)
    have hw := h5 (zs.getD k 0) (by simp [List.getD, show k < zs.length by omega])
    have hb : 0 ≤ zs.getD k 0 ∧ zs.getD k 0 ≤ 255 := bounds_u8 hw
    refine ⟨by show (zs.getD k 0).toNat ≤ 255; omega, ?_⟩
    show w.cell? ⟨b, off + k, none⟩ = some (.int .u8 (((zs.getD k 0).toNat : Nat) : Int))
    rw [Int.toNat_of_nonneg hb.1]
    simpa [Addr.add_lit] using hck

theorem Vals.later {w w' : World} {A : Option Addr} {n : Nat} {f : Nat → Nat} (h : Vals w A n f) (hb : Below w.heap.size w w') : Byts w' w'.heap.size A n := (h.below hb).byts

end Go.Proofs.YtibekkfbpmloiabGreatDoor.Draw
