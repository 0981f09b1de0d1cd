/- Parts of several texts of mine in one file (each begins with its own remark). -/
import Derived.Test.YtciflchaepchiabGreatDoorUA1
import Derived.Test.YtciflchaepchiabGreatDoorUA12
import Derived.Test.YtciflchaepchiabGreatDoorUA14
import Derived.Test.YtciflchaepchiabGreatDoorUA16
import Derived.Test.YtciflchaepchiabGreatDoorUA2
import Derived.Test.YtciflchaepchiabGreatDoorUA3
import Derived.Test.YtciflchaepchiabGreatDoorUA4
import Derived.Test.YtciflchaepchiabGreatDoorUA6
import Derived.Test.YtciflchaepchiabGreatDoorUA7
import Derived.Test.YtciflchaepchiabGreatDoorUA8
import Derived.Test.YtciflchaepchiabGreatDoorUA9
import Derived.Test.YtciflchaepchiabGreatDoorChecked
import Derived.Test.YtciflchaepchiabGreatDoorShelf
import Derived.Test.YtciflchaepchiabGreatDoorProg
import Derived.Test.YtciflchaepchiabGreatDoorRows
import Derived.StillTailTactics
import Derived.Laws.OwnMore
import Derived.BigQuiet
import Derived.BigRegion
import Derived.Deep.QuietTactic
import Derived.Deep.RegionHeld3
import Derived.Deep.Slices
import Derived.OpenShut
import Derived.ShutString
import Derived.ChangeArms
import Derived.WideShapes
import Derived.Lib.LaidTab
import Derived.Deep.Draws
import Derived.Deep.LoopGhost
import Derived.WalkKit
import Derived.WalkSpells
import Derived.WalkSmall
import Derived.Lib.OthersKept
import Derived.Lib.Hide
import Derived.Lib.Strings
import Derived.Lib.Join
import Derived.Laws.BytesArg
import Derived.Stop.LaidErr
import Derived.WalkLawsBesides
import Derived.LaidEql
import Derived.Stop.Asserts
import Derived.Below
import Derived.Stop.LaidTwo
import Derived.ChangeVars
import Derived.Deep.DeepHandedRow
import Derived.Deep.RegionWith
import Derived.OneCell
import Derived.Lib.SliceRun
import Derived.Lib.Overlaps
import Derived.Lib.AppendZerosOnto
import Derived.Laws.NewBlocks
import Derived.Laws.IdiomCopy
import Derived.Deep.RegionLaw
/- For laws over lists of records: the laws' own sizes with their sums; blocks between two numbers; two equal rows of strings. -/
namespace Go.Proofs.YtciflchaepchiabGreatDoor.Recs
set_option maxRecDepth 100000
open Go.RowKit Paths

/-- From w to w' nothing has turned but blocks from base on, below top; and new ones came. -/
structure Betw (base top : Nat) (w w' : World) : Prop where
  os : w'.os = w.os
  tape : w'.tape = w.tape
  output : w'.output = w.output
  size : w.heap.size ≤ w'.heap.size
  block : ∀ k, k < w.heap.size → (k < base ∨ top ≤ k) → w'.heap[k]? = w.heap[k]?
theorem Betw.refl (base top : Nat) (w : World) : Betw base top w w := ⟨rfl, rfl, rfl, Nat.le_refl _, fun _ _ _ => rfl⟩
theorem Betw.trans {base top : Nat} {a b c : World} (h : Betw base top a b) (k : Betw base top b c) : Betw base top a c :=
  ⟨k.os.trans h.os, k.tape.trans h.tape, k.output.trans h.output, Nat.le_trans h.size k.size, fun i hi hk => (k.block i (Nat.lt_of_lt_of_le hi h.size) hk).trans (h.block i hi hk)⟩
theorem Betw.below {base top B : Nat} {a w w' : World} (h : Below B a w) (hb : Betw base top w w') (hB : B ≤ base) (hB2 : B ≤ w.heap.size) : Below B a w' :=
  h.trans ⟨hb.os, hb.tape, hb.output, hb.size, fun k hk => hb.block k (by omega) (.inl (by omega))⟩
theorem Betw.own {base top : Nat} {w w' : World} (hb : Betw base top w w') {b : Nat} {e : TypeId} {s : Nat} {v : Value} {n : Nat} {xs : List Value} (h : w.ownsRow b e s v n xs) (hk : ∀ k, v.ownBlock = some k → k < base ∨ top ≤ k) : w'.ownsRow b e s v n xs := by
  obtain ⟨h1, h2⟩ := h
  refine ⟨h1, ?_⟩
  rcases h2 with h2 | ⟨g, cap, cur, rfl, b1, c, d⟩
  · exact .inl h2
  · exact .inr ⟨g, cap, cur, rfl, b1, by rw [hb.block g (Array.getElem?_eq_some_iff.1 c).1 (hk g rfl)]; exact c, d⟩
end Go.Proofs.YtciflchaepchiabGreatDoor.Recs

/- Layers: Canonical and IsCanonical, of the program and of its model. Conditions (of the program's): the table of kinds, the two sentinels. -/
namespace Go.Proofs.YtciflchaepchiabGreatDoor.Recs
set_option maxRecDepth 100000
open Go.RowKit Paths Errs

theorem own_le {w : World} {base base' : Nat} {e : TypeId} {size : Nat} {v : Value} {n : Nat} {xs : List Value} (h : w.ownsRow base e size v n xs) (hb : base' ≤ base) : w.ownsRow base' e size v n xs := by
  obtain ⟨h1, h2⟩ := h
  refine ⟨h1, ?_⟩
  rcases h2 with h2 | ⟨g, cap', cur, a, b, c⟩
  · exact .inl h2
  · exact .inr ⟨g, cap', cur, a, Nat.le_trans hb b, c⟩

end Go.Proofs.YtciflchaepchiabGreatDoor.Recs

/- Slices in memory of their own, of any element that lies in a fixed number of cells. -/
namespace Go.Proofs.YtciflchaepchiabGreatDoor.Recs
set_option maxRecDepth 100000
open Go.RowKit Paths

section
variable {α : Type} {cs : α → List Value} {k : Nat}
def flatG (cs : α → List Value) (l : List α) : List Value := l.flatMap cs
theorem flatG_len (hcs : ∀ a, (cs a).length = k) : ∀ l : List α, (flatG cs l).length = l.length * k
  | [] => by simp [flatG]
  | a :: t => by
    have ih := flatG_len hcs t
    have : flatG cs (a :: t) = cs a ++ flatG cs t := by simp [flatG]
    rw [this, List.length_append, hcs, ih, List.length_cons, Nat.succ_mul, Nat.add_comm]
theorem flatG_get (hcs : ∀ a, (cs a).length = k) (hk : 0 < k) : ∀ (l : List α) (j : Nat), (flatG cs l)[j]? = (l[j / k]?).bind fun a => (cs a)[j % k]?
  | [], j => by simp [flatG]
  | a :: t, j => by
    have ih := flatG_get hcs hk t (j - k)
    have hc : flatG cs (a :: t) = cs a ++ flatG cs t := by simp [flatG]
    rw [hc]
    by_cases hj : j < k
    · rw [Nat.div_eq_of_lt hj, Nat.mod_eq_of_lt hj, List.getElem?_append_left (by rw [hcs]; exact hj)]
      rfl
    · rw [Nat.div_eq_sub_div hk (by omega), Nat.mod_eq_sub_mod (by omega), List.getElem?_append_right (by rw [hcs]; omega), hcs, List.getElem?_cons_succ]
      exact ih
theorem div_here {i c : Nat} (hc : c < k) : (i * k + c) / k = i ∧ (i * k + c) % k = c := by
  constructor
  · rw [Nat.add_comm, Nat.add_mul_div_right _ _ (by omega), Nat.div_eq_of_lt hc, Nat.zero_add]
  · rw [Nat.add_comm, Nat.add_mul_mod_self_right, Nat.mod_eq_of_lt hc]
theorem at_here {i c j : Nat} (hc : c < k) : i * k + c = j ↔ i = j / k ∧ c = j % k := by
  constructor
  · rintro rfl
    exact ⟨(div_here hc).1.symm, (div_here hc).2.symm⟩
  · rintro ⟨rfl, rfl⟩
    rw [Nat.mul_comm]
    exact Nat.div_add_mod j k
theorem flatG_field (hcs : ∀ a, (cs a).length = k) {M : List α} {i c : Nat} {a : α} {u : Value} (hi : i < M.length) (hc : c < k) (h : cs a = (cs M[i]).set c u) : flatG cs (M.set i a) = (flatG cs M).set (i * k + c) u := by
  apply List.ext_getElem?
  intro j
  rw [flatG_get hcs (by omega), List.getElem?_set, List.getElem?_set, flatG_len hcs, flatG_get hcs (by omega)]
  have hlt : i * k + c < M.length * k := by
    have := Nat.mul_le_mul_right k (show i + 1 ≤ M.length from hi)
    rw [Nat.succ_mul] at this
    omega
  by_cases hj : i = j / k
  · rw [if_pos hj, if_pos hi]
    simp only [Option.bind_some]
    rw [h, List.getElem?_set]
    by_cases hq : c = j % k
    · rw [if_pos hq, if_pos (by rw [hcs]; omega), if_pos ((at_here hc).2 ⟨hj, hq⟩), if_pos hlt]
    · rw [if_neg hq, if_neg (fun e => hq ((at_here hc).1 e).2), ← hj, List.getElem?_eq_getElem hi]
      rfl
  · rw [if_neg hj, if_neg (fun e => hj ((at_here hc).1 e).1)]

/-- A slice in memory of its own that holds the things M. -/
def RowG (cs : α → List Value) (k : Nat) (T : TypeId) (w : World) (base : Nat) (v : Value) (n : Nat) (M : List α) : Prop := M.length = n ∧ w.ownsRow base T k v n (flatG cs M)
variable {T : TypeId} {w w' : World} {base : Nat} {v : Value} {n : Nat} {M : List α}
theorem RowG.below (h : RowG cs k T w base v n M) (hb : Below w.heap.size w w') : RowG cs k T w' base v n M := ⟨h.1, own_below h.2 hb⟩
theorem RowG.form (h : RowG cs k T w base v n M) : ∃ A cap, v = .slice A n cap := own_form h.2
theorem RowG.nil : RowG cs k T w base (.slice none 0 0) 0 [] := ⟨rfl, World.ownsRow_nil _ _ _ _⟩
theorem RowG.down {base' : Nat} (h : RowG cs k T w base v n M) (hb : base' ≤ base) : RowG cs k T w base' v n M := ⟨h.1, own_le h.2 hb⟩
theorem RowG.cell (hcs : ∀ a, (cs a).length = k) {g cap : Nat} (h : RowG cs k T w base (.slice (some ⟨g, 0, none⟩) n cap) n M) {i c : Nat} (hi : i < M.length) (hc : c < k) : w.cell? ⟨g, i * k + c, none⟩ = (cs M[i])[c]? := by
  have hlt : i * k + c < n * k := by
    have := Nat.mul_le_mul_right k (show i + 1 ≤ M.length from hi)
    rw [Nat.succ_mul, h.1] at this
    omega
  rw [h.2.cellAt (i * k + c) hlt, flatG_get hcs (by omega), (div_here hc).1, (div_here hc).2, List.getElem?_eq_getElem hi]
  rfl
theorem RowG.field (hcs : ∀ a, (cs a).length = k) {g cap : Nat} (h : RowG cs k T w base (.slice (some ⟨g, 0, none⟩) n cap) n M) {i c : Nat} {a : α} {u : Value} (hi : i < M.length) (hc : c < k) (ha : cs a = (cs M[i]).set c u) :
    RowG cs k T (w.setCell ⟨g, i * k + c, none⟩ u) base (.slice (some ⟨g, 0, none⟩) n cap) n (M.set i a) ∧ w.grownBy (w.setCell ⟨g, i * k + c, none⟩ u) (some g) := by
  obtain ⟨h1, h2⟩ := h.2.stored (i * k + c) u
  exact ⟨⟨by rw [List.length_set]; exact h.1, by rw [flatG_field hcs hi hc ha]; exact h1⟩, h2⟩
theorem RowG.frozen {g cap : Nat} (h : RowG cs k T w base (.slice (some ⟨g, 0, none⟩) n cap) n M) (j : Nat) : w.frozen? ⟨g, j, none⟩ = false := h.2.frozenAt j
theorem RowG.kept {row : Option Nat} (h : RowG cs k T w base v n M) (hg : w.grownBy w' row) (hr : v.ownBlock = none ∨ v.ownBlock ≠ row) : RowG cs k T w' base v n M := ⟨h.1, h.2.kept hg hr⟩
end
end Go.Proofs.YtciflchaepchiabGreatDoor.Recs

/- Combining two layers, of the program. -/
namespace Go.Proofs.YtciflchaepchiabGreatDoor.Recs
set_option maxRecDepth 100000
open Go.RowKit Paths Errs

/-- The length of a slice. -/
def lenV : Value → Nat
  | .slice _ n _ => n
  | _ => 0
theorem path_max {p : ByteArray} (h : pathB p.data.toList = true) : p.size ≤ maxLen := by
  have := path_short h
  unfold maxLen
  omega
end Go.Proofs.YtciflchaepchiabGreatDoor.Recs

/- The winner of the records of one path, and these records, of the program. -/
namespace Go.Proofs.YtciflchaepchiabGreatDoor.Recs
set_option maxRecDepth 100000
open Go.RowKit Paths

/-- A record with the number of its layer: its value, its cells. -/
def pv (p : R × Nat) : Value := .agg #[.int .i64 p.1.k, .string p.1.p, .string p.1.b, .int .i64 p.1.m, .bool p.1.o, .int .i64 (p.2 : Int)]
theorem alloc_here (w : World) (o : Obj) : (w.alloc o).heap[w.heap.size]? = some o := by
  show (w.heap.push o)[w.heap.size]? = some o
  exact Array.getElem?_push_size
def csP (p : R × Nat) : List Value := [.int .i64 p.1.k, .string p.1.p, .string p.1.b, .int .i64 p.1.m, .bool p.1.o, .int .i64 (p.2 : Int)]
theorem csP_len (p : R × Nat) : (csP p).length = 6 := rfl
def PCells (w : World) (b off : Nat) (p : R × Nat) : Prop := RecCells w b off p.1 ∧ w.cell? ⟨b, off + 5, none⟩ = some (.int .i64 (p.2 : Int))
theorem PCells.below {w w' : World} {B b off : Nat} {p : R × Nat} (h : PCells w b off p) (hb : Below B w w') (hB : b < B) : PCells w' b off p := ⟨h.1.below hb hB, (hb.cell (p := ⟨b, off + 5, none⟩) hB).trans h.2⟩
def PSl (w : World) (v : Value) (G : List (R × Nat)) : Prop :=
  ∃ A cap, v = .slice A G.length cap ∧ G.length ≤ cap ∧ (0 < G.length → ∃ b off, A = some ⟨b, off, none⟩ ∧ b < w.heap.size ∧ ∀ i p, G[i]? = some p → PCells w b (off + i * 6) p)
theorem PSl.below {w w' : World} {v : Value} {G : List (R × Nat)} (h : PSl w v G) (hb : Below w.heap.size w w') : PSl w' v G := by
  obtain ⟨A, cap, rfl, hc, h⟩ := h
  refine ⟨A, cap, rfl, hc, fun hn => ?_⟩
  obtain ⟨b, off, rfl, hlt, hcell⟩ := h hn
  exact ⟨b, off, rfl, Nat.lt_of_lt_of_le hlt hb.size, fun i p hi => (hcell i p hi).below hb hlt⟩
abbrev RowP (w : World) (base : Nat) (v : Value) (n : Nat) (G : List (R × Nat)) : Prop := RowG csP 6 101 w base v n G
theorem RowP.sl {w : World} {base : Nat} {v : Value} {n : Nat} {G : List (R × Nat)} (h : RowP w base v n G) : PSl w v G := by
  have hh := h
  obtain ⟨rfl, h⟩ := h
  rcases h.2 with ⟨rfl, hn⟩ | ⟨g, cap, cur, rfl, hb, hg, hc, _⟩
  · exact ⟨none, 0, by rw [hn], by omega, fun h => by omega⟩
  · refine ⟨_, cap, rfl, hc, fun _ => ⟨g, 0, rfl, (Array.getElem?_eq_some_iff.1 hg).1, fun i p hi => ?_⟩⟩
    have hlt := (List.getElem?_eq_some_iff.1 hi).1
    have he := (List.getElem?_eq_some_iff.1 hi).2
    have one : ∀ c, c < 6 → w.cell? ⟨g, i * 6 + c, none⟩ = (csP p)[c]? := fun c hc => by
      rw [RowG.cell csP_len hh hlt hc, he]
    rw [Nat.zero_add]
    exact ⟨⟨one 0 (by omega), one 1 (by omega), one 2 (by omega), one 3 (by omega), one 4 (by omega)⟩, one 5 (by omega)⟩
/-- A block that holds one of them. -/
def Pbox (w : World) (B : Nat) (p : R × Nat) : Prop := w.heap[B]? = some (.cells #[.int .i64 p.1.k, .string p.1.p, .string p.1.b, .int .i64 p.1.m, .bool p.1.o, .int .i64 (p.2 : Int)] 101 (0, 0))
theorem Pbox.lt {w : World} {B : Nat} {p : R × Nat} (h : Pbox w B p) : B < w.heap.size := (Array.getElem?_eq_some_iff.1 h).1
theorem Pbox.cells {w : World} {B : Nat} {p : R × Nat} (h : Pbox w B p) : PCells w B 0 p := by
  refine ⟨⟨?_, ?_, ?_, ?_, ?_⟩, ?_⟩ <;> simp [World.cell?, show w.heap[B]? = _ from h]
theorem Pbox.frozen {w : World} {B : Nat} {p : R × Nat} (h : Pbox w B p) (j : Nat) : w.frozen? ⟨B, j, none⟩ = false := by simp [World.frozen?, show w.heap[B]? = _ from h]
theorem Pbox.below {w w' : World} {K B : Nat} {p : R × Nat} (h : Pbox w B p) (hb : Below K w w') (hB : B < K) : Pbox w' B p := (hb.block B hB).trans h
theorem setCell_heap {w : World} {B j : Nat} {u : Value} {cur : Array Value} {T : TypeId} {fz : Nat × Nat} (h : w.heap[B]? = some (.cells cur T fz)) : (w.setCell ⟨B, j, none⟩ u).heap[B]? = some (.cells (cur.setIfInBounds j u) T fz) := by
  have hlt := (Array.getElem?_eq_some_iff.1 h).1
  simp only [World.setCell, Array.getElem?_modify, h]
  simp
theorem Pbox.set {w : World} {B : Nat} {p : R × Nat} (h : Pbox w B p) (r : R) (n : Nat) :
    Pbox ((((((w.setCell ⟨B, 0, none⟩ (.int .i64 r.k)).setCell ⟨B, 1, none⟩ (.string r.p)).setCell ⟨B, 2, none⟩ (.string r.b)).setCell ⟨B, 3, none⟩ (.int .i64 r.m)).setCell ⟨B, 4, none⟩ (.bool r.o)).setCell ⟨B, 5, none⟩ (.int .i64 (n : Int))) B (r, n) := by
  have h1 := setCell_heap (j := 0) (u := .int .i64 r.k) h
  have h2 := setCell_heap (j := 1) (u := .string r.p) h1
  have h3 := setCell_heap (j := 2) (u := .string r.b) h2
  have h4 := setCell_heap (j := 3) (u := .int .i64 r.m) h3
  have h5 := setCell_heap (j := 4) (u := .bool r.o) h4
  have h6 := setCell_heap (j := 5) (u := .int .i64 (n : Int)) h5
  unfold Pbox
  rw [h6]
  rfl
theorem Pbox.other {w : World} {B B' j : Nat} {p : R × Nat} {u : Value} (h : Pbox w B p) (hne : B ≠ B') : Pbox (w.setCell ⟨B', j, none⟩ u) B p := by
  unfold Pbox at h ⊢
  simp only [World.setCell, Array.getElem?_modify, h]
  rw [if_neg (fun e => hne e.symm)]
/-- A block that holds a record. -/
def Rbox (w : World) (B : Nat) (r : R) : Prop := w.heap[B]? = some (.cells #[.int .i64 r.k, .string r.p, .string r.b, .int .i64 r.m, .bool r.o] 53 (0, 0))
theorem Rbox.lt {w : World} {B : Nat} {r : R} (h : Rbox w B r) : B < w.heap.size := (Array.getElem?_eq_some_iff.1 h).1
theorem Rbox.cells {w : World} {B : Nat} {r : R} (h : Rbox w B r) : RecCells w B 0 r := by
  refine ⟨?_, ?_, ?_, ?_, ?_⟩ <;> simp [World.cell?, show w.heap[B]? = _ from h]
theorem Rbox.frozen {w : World} {B : Nat} {r : R} (h : Rbox w B r) (j : Nat) : w.frozen? ⟨B, j, none⟩ = false := by simp [World.frozen?, show w.heap[B]? = _ from h]
theorem Rbox.below {w w' : World} {K B : Nat} {r : R} (h : Rbox w B r) (hb : Below K w w') (hB : B < K) : Rbox w' B r := (hb.block B hB).trans h
theorem Rbox.set {w : World} {B : Nat} {p : R} (h : Rbox w B p) (r : R) :
    Rbox (((((w.setCell ⟨B, 0, none⟩ (.int .i64 r.k)).setCell ⟨B, 1, none⟩ (.string r.p)).setCell ⟨B, 2, none⟩ (.string r.b)).setCell ⟨B, 3, none⟩ (.int .i64 r.m)).setCell ⟨B, 4, none⟩ (.bool r.o)) B r := by
  have h1 := setCell_heap (j := 0) (u := .int .i64 r.k) h
  have h2 := setCell_heap (j := 1) (u := .string r.p) h1
  have h3 := setCell_heap (j := 2) (u := .string r.b) h2
  have h4 := setCell_heap (j := 3) (u := .int .i64 r.m) h3
  have h5 := setCell_heap (j := 4) (u := .bool r.o) h4
  unfold Rbox
  rw [h5]
  rfl
theorem Rbox.other {w : World} {B B' j : Nat} {p : R} {u : Value} (h : Rbox w B p) (hne : B ≠ B') : Rbox (w.setCell ⟨B', j, none⟩ u) B p := by
  unfold Rbox at h ⊢
  simp only [World.setCell, Array.getElem?_modify, h]
  rw [if_neg (fun e => hne e.symm)]
theorem Rbox.facts {w : World} {B : Nat} {r : R} (h : Rbox w B r) : (w.cell? ⟨B, 0, none⟩ = some (.int .i64 r.k) ∧ w.cell? ⟨B, 1, none⟩ = some (.string r.p) ∧ w.cell? ⟨B, 2, none⟩ = some (.string r.b) ∧ w.cell? ⟨B, 3, none⟩ = some (.int .i64 r.m) ∧ w.cell? ⟨B, 4, none⟩ = some (.bool r.o)) ∧
    w.frozen? ⟨B, 0, none⟩ = false ∧ w.frozen? ⟨B, 1, none⟩ = false ∧ w.frozen? ⟨B, 2, none⟩ = false ∧ w.frozen? ⟨B, 3, none⟩ = false ∧ w.frozen? ⟨B, 4, none⟩ = false := by
  obtain ⟨h0, h1, h2, h3, h4⟩ := h.cells
  simp only [Nat.zero_add] at h0 h1 h2 h3 h4
  exact ⟨⟨h0, h1, h2, h3, h4⟩, h.frozen 0, h.frozen 1, h.frozen 2, h.frozen 3, h.frozen 4⟩

end Go.Proofs.YtciflchaepchiabGreatDoor.Recs

/- Trees: the place of a path, comparison of two, of the model. DRAFT (made out of the texts on records; not built yet: no seat had nodes). -/
namespace Go.Proofs.YtciflchaepchiabGreatDoor.Recs
set_option maxRecDepth 100000
open Go.RowKit Paths

theorem NodSl.take {w : World} {A : Option Addr} {cap : Nat} {l : List R} {k : Nat} (h : NodSl w (.slice A l.length cap) l) (hk : k ≤ l.length) : NodSl w (.slice A k cap) (l.take k) := by
  obtain ⟨ho, A', cap', e, hc, h⟩ := h
  cases e
  refine ⟨fun r hr => ho r (List.mem_of_mem_take hr), A, cap, by rw [List.length_take, Nat.min_eq_left hk], by rw [List.length_take]; omega, fun hn => ?_⟩
  rw [List.length_take] at hn
  obtain ⟨b, off, e, hb, hcell⟩ := h (by omega)
  refine ⟨b, off, e, hb, fun j p hj => hcell j p ?_⟩
  rw [List.getElem?_take] at hj
  split at hj
  · exact hj
  · cases hj
set_option maxHeartbeats 400000 in
theorem l04At_any (v : Value) (l : List R) (q : ByteArray) (w : World) (h : NodSl w v l) (hl : l.length ≤ 1048576) :
    Calls Tryz.prog 118 #[v, .string q] w fun e w' => e = .returned (.int .i64 (atL l q)) ∧ w = w' := by
  obtain ⟨_, A, cap, rfl, hcap, h⟩ := h
  have H := Lib.hid h
  clear h
  go_enter Tryz.func118, Tryz.ntmps118
  go_wp2
  go_loop [5] (fun i => ∃ k : Nat, k ≤ l.length ∧ i = .int .i64 k ∧ Hid (atL l q = atFrom (l.drop k) k q)) (fun i => l.length - (intOf i).toNat)
  case atStart => exact ⟨0, by omega, rfl, rfl⟩
  case round =>
    obtain ⟨k, hk, rfl, HK⟩ := hrel
    by_cases hlt : k < l.length
    · obtain ⟨b, off, rfl, hb, hcell⟩ := H.out (by omega)
      obtain ⟨_, hc1, _⟩ := hcell k l[k] (by simp [hlt])
      have HS := Lib.hid (HK.out.trans (atFrom_step hlt q))
      clear hcell HK
      have hi1 : (k : Int) < (l.length : Int) := by omega
      have hi0 : (0 : Int) ≤ (k : Int) := by omega
      rcases Bool.eq_false_or_eq_true (l[k].p.toList == q.toList) with he | he
      · have HE : Hid (atL l q = k) := by show _ = _; rw [HS.out, if_pos (str_eq_of he)]
        go_wp2
        go_ret
        exact ⟨ret_int HE.out.symm, rfl⟩
      · have HE : Hid (atL l q = atFrom (l.drop (k + 1)) (k + 1) q) := by show _ = _; rw [HS.out, if_neg (fun e => by rw [e] at he; simp at he)]
        go_wp2
        exact ⟨⟨k + 1, by omega, by go_num, HE⟩, by simp [intOf]; omega⟩
    · have HE := Lib.hid (HK.out.trans (atFrom_end (by omega) q))
      go_wp2
      go_ret
      exact ⟨ret_int HE.out.symm, rfl⟩

/-- Two nodes are alike, or one field is the first that is not. -/
theorem four (x y : R) : (x.k == y.k) = false ∨ ((x.k == y.k) = true ∧ (x.p.toList == y.p.toList) = false) ∨ ((x.k == y.k) = true ∧ (x.p.toList == y.p.toList) = true ∧ (x.b.toList == y.b.toList) = false) ∨
    ((x.k == y.k) = true ∧ (x.p.toList == y.p.toList) = true ∧ (x.b.toList == y.b.toList) = true ∧ (x.m == y.m) = false) ∨ ((x.k == y.k) = true ∧ (x.p.toList == y.p.toList) = true ∧ (x.b.toList == y.b.toList) = true ∧ (x.m == y.m) = true) := by
  cases (x.k == y.k) <;> cases (x.p.toList == y.p.toList) <;> cases (x.b.toList == y.b.toList) <;> cases (x.m == y.m) <;> simp

end Go.Proofs.YtciflchaepchiabGreatDoor.Recs
