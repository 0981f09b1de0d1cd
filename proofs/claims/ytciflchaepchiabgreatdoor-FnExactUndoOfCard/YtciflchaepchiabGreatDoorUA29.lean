/- Parts of several texts of mine in one file (each begins with its own remark). -/
import Derived.Test.YtciflchaepchiabGreatDoorUA1
import Derived.Test.YtciflchaepchiabGreatDoorUA12
import Derived.Test.YtciflchaepchiabGreatDoorUA14
import Derived.Test.YtciflchaepchiabGreatDoorUA16
import Derived.Test.YtciflchaepchiabGreatDoorUA17
import Derived.Test.YtciflchaepchiabGreatDoorUA2
import Derived.Test.YtciflchaepchiabGreatDoorUA3
import Derived.Test.YtciflchaepchiabGreatDoorUA4
import Derived.Test.YtciflchaepchiabGreatDoorUA5
import Derived.Test.YtciflchaepchiabGreatDoorUA6
import Derived.Test.YtciflchaepchiabGreatDoorUA8
import Derived.Test.YtciflchaepchiabGreatDoorChecked
import Derived.Test.YtciflchaepchiabGreatDoorShelf
import Derived.Test.YtciflchaepchiabGreatDoorProg
import Derived.Test.YtciflchaepchiabGreatDoorRows
import Derived.BigRegion
import Derived.StillTailTactics
import Derived.Deep.Slices
import Derived.OpenShut
import Derived.ShutString
import Derived.ChangeArms
import Derived.WideShapes
import Derived.Lib.LaidTab
import Derived.BigQuiet
import Derived.Deep.QuietTactic
import Derived.Deep.RegionHeld3
import Derived.Deep.Draws
import Derived.Deep.LoopGhost
import Derived.WalkKit
import Derived.WalkSpells
import Derived.WalkSmall
import Derived.Lib.OthersKept
import Derived.Lib.Hide
import Derived.Lib.Strings
import Derived.Lib.Join
import Derived.Laws.OwnMore
import Derived.Laws.BytesArg
import Derived.Stop.LaidErr
import Derived.WalkLawsBesides
import Derived.LaidEql
import Derived.Stop.Asserts
import Derived.Below
import Derived.Stop.LaidTwo
import Derived.ChangeVars
import Derived.Deep.DeepHandedRow
import Derived.Deep.RegionWith
import Derived.OneCell
import Derived.Lib.SliceRun
import Derived.Lib.Overlaps
import Derived.Lib.AppendZerosOnto
import Derived.Laws.NewBlocks
import Derived.Laws.IdiomCopy
import Derived.Deep.RegionLaw
import Derived.Deep.AppendLies
import Derived.RangeFuncNested
import Derived.RangeFuncBound
import Derived.RangeFuncCalls
import Derived.RangeFuncLeaves
import Derived.RangeFuncBox
import Derived.Shelf.Abstract
import Derived.Shelf.RegionOpen
import Derived.OwnWalkIn
import Derived.TacticsInMore
import Derived.LoopNIn
import Derived.LoopIn
/- Cursors in memory; sinking one in the heap, of the program. -/
namespace Go.Proofs.YtciflchaepchiabGreatDoor.Recs
set_option maxRecDepth 100000
open Go.RowKit Paths Heap

/-- A cursor in memory: its layer and its slice. -/
def csU (c : Nat × Value) : List Value := [.int .i64 (c.1 : Int), c.2]
theorem csU_len (c : Nat × Value) : (csU c).length = 2 := rfl
abbrev RowU (w : World) (base : Nat) (v : Value) (n : Nat) (M : List (Nat × Value)) : Prop := RowG csU 2 157 w base v n M
/-- The slices of the cursors M read, ahead of all, as what is left of the layers. -/
structure CurOk (w0 : World) (M : List (Nat × Value)) (cs : List (Nat × List R)) : Prop where
  len : M.length = cs.length
  at_ : ∀ (i n : Nat) (u : Value), M[i]? = some (n, u) → ∃ x l, cs[i]? = some (n, x :: l) ∧ RecSl w0 u (x :: l) ∧ ∀ r ∈ x :: l, pathB r.p.data.toList = true
/-- Both cells of a cursor written. -/
theorem RowU.store {w : World} {base g cap n : Nat} {M : List (Nat × Value)} {i : Nat} (c : Nat × Value) (h : RowU w base (.slice (some ⟨g, 0, none⟩) n cap) n M) (hi : i < M.length) :
    RowU ((w.setCell ⟨g, i * 2, none⟩ (.int .i64 (c.1 : Int))).setCell ⟨g, i * 2 + 1, none⟩ c.2) base (.slice (some ⟨g, 0, none⟩) n cap) n (M.set i c) ∧
    w.grownBy ((w.setCell ⟨g, i * 2, none⟩ (.int .i64 (c.1 : Int))).setCell ⟨g, i * 2 + 1, none⟩ c.2) (some g) := by
  obtain ⟨a1, b1⟩ := RowG.field csU_len h (i := i) (c := 0) (a := (c.1, M[i].2)) (u := .int .i64 (c.1 : Int)) hi (by omega) rfl
  obtain ⟨a2, b2⟩ := RowG.field csU_len a1 (i := i) (c := 1) (a := c) (u := c.2) (by simpa using hi) (by omega) (by simp [csU])
  refine ⟨?_, grown_trans b1 b2⟩
  simp only [List.set_set] at a2
  exact a2
end Go.Proofs.YtciflchaepchiabGreatDoor.Recs

/- The cursors of a stack and the heap of them, of the program. -/
namespace Go.Proofs.YtciflchaepchiabGreatDoor.Recs
set_option maxRecDepth 100000
open Go.RowKit Paths Heap

theorem CurOk.nil (w0 : World) : CurOk w0 [] [] := ⟨rfl, fun i n u h => by simp at h⟩
end Go.Proofs.YtciflchaepchiabGreatDoor.Recs

/- One more record in the groups of records of one path, of the program. -/
namespace Go.Proofs.YtciflchaepchiabGreatDoor.Recs
set_option maxRecDepth 100000
open Go.RowKit Paths

/-- Cursors lie as they lay. -/
def KeepC (w w' : World) : Prop := ∀ (k : Nat) (cur : Array Value) (fz : Nat × Nat), w.heap[k]? = some (.cells cur 157 fz) → w'.heap[k]? = some (.cells cur 157 fz)
theorem KeepC.trans {a b c : World} (h : KeepC a b) (k : KeepC b c) : KeepC a c := fun i cur fz hi => k i cur fz (h i cur fz hi)
/-- Groups in memory of their own: the row of slices, the rows in it. -/
structure GrpOwn (w : World) (b : Nat) (v : Value) (us : List Value) (Gs : List (List (R × Nat))) : Prop where
  len : us.length = Gs.length
  own : w.ownsRow b 98 1 v Gs.length us
  rows : ∀ (i : Nat) (u : Value) (g : List (R × Nat)), us[i]? = some u → Gs[i]? = some g → RowP w b u g.length g
  apart : ∀ (i k : Nat) (u u' : Value) (c : Nat), us[i]? = some u → us[k]? = some u' → u.ownBlock = some c → u'.ownBlock = some c → i = k
theorem GrpOwn.nil (w : World) (b : Nat) : GrpOwn w b (.slice none 0 0) [] [] := ⟨rfl, World.ownsRow_nil _ _ _ _, fun i u g h => by simp at h, fun i k u u' c h => by simp at h⟩
theorem GrpOwn.below {w w' : World} {b : Nat} {v : Value} {us : List Value} {Gs : List (List (R × Nat))} (h : GrpOwn w b v us Gs) (hb : Below w.heap.size w w') : GrpOwn w' b v us Gs :=
  ⟨h.len, own_below h.own hb, fun i u g hi hg => RowG.below (h.rows i u g hi hg) hb, h.apart⟩
end Go.Proofs.YtciflchaepchiabGreatDoor.Recs

/- The groups of records of all paths, of the program: all layers passed through at once. -/
namespace Go.Proofs.YtciflchaepchiabGreatDoor.Recs
set_option maxRecDepth 100000
open Go.RowKit Paths Heap

/-- The cursor that is looked at. -/
def Abox (w : World) (B n : Nat) (u : Value) : Prop := w.heap[B]? = some (.cells #[.int .i64 (n : Int), u] 157 (0, 0))
theorem Abox.lt {w : World} {B n : Nat} {u : Value} (h : Abox w B n u) : B < w.heap.size := (Array.getElem?_eq_some_iff.1 h).1
theorem Abox.facts {w : World} {B n : Nat} {u : Value} (h : Abox w B n u) : w.cell? ⟨B, 0, none⟩ = some (.int .i64 (n : Int)) ∧ w.cell? ⟨B, 1, none⟩ = some u ∧ w.frozen? ⟨B, 0, none⟩ = false ∧ w.frozen? ⟨B, 1, none⟩ = false := by
  refine ⟨?_, ?_, ?_, ?_⟩ <;> simp [World.cell?, World.frozen?, show w.heap[B]? = _ from h]
theorem Abox.set {w : World} {B n : Nat} {u : Value} (h : Abox w B n u) (u' : Value) : Abox (w.setCell ⟨B, 1, none⟩ u') B n u' := by
  have h5 := setCell_heap (j := 1) (u := u') h
  unfold Abox
  rw [h5]
  rfl

end Go.Proofs.YtciflchaepchiabGreatDoor.Recs

/- PathsOf, of the program. Conditions: the table of kinds, the two sentinels. -/
namespace Go.Proofs.YtciflchaepchiabGreatDoor.Recs
set_option maxRecDepth 100000
open Go.RowKit Paths Errs

theorem row_apart {w : World} {b b' : Nat} {T T' : TypeId} {k k' : Nat} {u v : Value} {n m : Nat} {xs ys : List Value} (hT : T ≠ T') (h : w.ownsRow b T k u n xs) (hk : w.ownsRow b' T' k' v m ys) : u.ownBlock = none ∨ u.ownBlock ≠ v.ownBlock := by
  rcases hk.2 with ⟨rfl, _⟩ | ⟨g, cap, cur, rfl, _, hg, _⟩
  · cases hu : u.ownBlock with
    | none => exact .inl rfl
    | some c => exact .inr (fun e => by cases e)
  · exact .inr (own_not h hT hg)
end Go.Proofs.YtciflchaepchiabGreatDoor.Recs
