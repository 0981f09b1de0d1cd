/- Parts of several texts of mine in one file (each begins with its own remark). -/
import Derived.Test.YtcnjiphoahoojaaGreatDoorEA10
import Derived.Test.YtcnjiphoahoojaaGreatDoorEA12
import Derived.Test.YtcnjiphoahoojaaGreatDoorEA14
import Derived.Test.YtcnjiphoahoojaaGreatDoorEA2
import Derived.Test.YtcnjiphoahoojaaGreatDoorEA3
import Derived.Test.YtcnjiphoahoojaaGreatDoorEA4
import Derived.Test.YtcnjiphoahoojaaGreatDoorEA5
import Derived.Test.YtcnjiphoahoojaaGreatDoorEA6
import Derived.Test.YtcnjiphoahoojaaGreatDoorEA7
import Derived.Test.YtcnjiphoahoojaaGreatDoorEA9
import Derived.Test.YtcnjiphoahoojaaGreatDoorChecked
import Derived.Test.YtcnjiphoahoojaaGreatDoorRows
import Derived.Test.YtcnjiphoahoojaaGreatDoorProg
import Derived.Test.YtcnjiphoahoojaaGreatDoorShelf
import Derived.Deep.Slices
import Derived.OpenShut
import Derived.ShutString
import Derived.ChangeArms
import Derived.WideShapes
import Derived.Lib.LaidTab
import Derived.BigQuiet
import Derived.Deep.QuietTactic
import Derived.Deep.RegionHeld3
import Derived.StillTailTactics
import Derived.Deep.Draws
import Derived.Deep.LoopGhost
import Derived.WalkKit
import Derived.WalkSpells
import Derived.WalkSmall
import Derived.Lib.OthersKept
import Derived.Lib.Hide
import Derived.Lib.Strings
import Derived.Lib.Join
import Derived.Laws.OwnMore
import Derived.BigRegion
import Derived.Laws.BytesArg
import Derived.Deep.RegionWith
import Derived.OneCell
import Derived.Lib.SliceRun
import Derived.Lib.Overlaps
import Derived.Lib.AppendZerosOnto
import Derived.Laws.NewBlocks
import Derived.Laws.IdiomCopy
import Derived.Deep.RegionLaw
import Derived.ChangeVars
import Derived.Deep.DeepHandedRow
import Derived.LaidEql
import Derived.Stop.Asserts
import Derived.Below
import Derived.Stop.LaidErr
import Derived.Stop.LaidTwo
import Derived.WalkLawsBesides
/- The paths of a stack, of the model. -/
namespace Go.Proofs.YtcnjiphoahoojaaGreatDoor.Recs
set_option maxRecDepth 100000
open Go.RowKit Paths

def vS (P : List ByteArray) : List Value := P.map Value.string
def StrRow (w : World) (b : Nat) (x : Value) (P : List ByteArray) : Prop := w.ownsRow b 9 1 x P.length (vS P) ∧ ∃ g cap, x = .slice (some ⟨g, 0, none⟩) P.length cap ∧ b ≤ g ∧ g < w.heap.size ∧ P.length ≤ cap ∧ cap ≤ maxLen
theorem StrRow.below {w w' : World} {b : Nat} {x : Value} {P : List ByteArray} (h : StrRow w b x P) (hb : Below w.heap.size w w') : StrRow w' b x P := by
  obtain ⟨h1, g, cap, e, h2, h3, h4, h5⟩ := h
  exact ⟨own_below h1 hb, g, cap, e, h2, Nat.lt_of_lt_of_le h3 hb.size, h4, h5⟩
theorem StrRow.of {w : World} {b m : Nat} {x : Value} {P : List ByteArray} {xs : List Value} (h : w.ownsRow b 9 1 x m xs) (hx : xs = vS P) (hm : m = P.length) (h0 : 0 < P.length) (hc : P.length ≤ 1000) : StrRow w b x P := by
  subst hx
  subst hm
  have hh := h
  rcases h.2 with ⟨_, hn⟩ | ⟨g, cap, cur, rfl, hb, hg, hcc, hcm, _⟩
  · omega
  · exact ⟨hh, g, cap, rfl, hb, (Array.getElem?_eq_some_iff.1 hg).1, hcc, hcm⟩
/-- The one string that is appended. -/
def ItemS (w : World) (g : Nat) (q : ByteArray) : Prop := w.heap[g]? = some (.cells #[.string q] 9 (0, 0))
theorem ItemS.lt {w : World} {g : Nat} {q : ByteArray} (h : ItemS w g q) : g < w.heap.size := (Array.getElem?_eq_some_iff.1 h).1
theorem ItemS.new (w : World) (q : ByteArray) : ItemS (w.alloc (.cells #[.string q] 9)) w.heap.size q := by
  show (w.heap.push _)[w.heap.size]? = some _
  exact Array.getElem?_push_size
theorem ItemS.below {w w' : World} {g : Nat} {q : ByteArray} (h : ItemS w g q) (hb : Below w.heap.size w w') : ItemS w' g q := (hb.block _ h.lt).trans h
theorem ItemS.grown {w w' : World} {g : Nat} {q : ByteArray} {row : Option Nat} (h : ItemS w g q) (hg : w.grownBy w' row) (hne : row ≠ some g) : ItemS w' g q := (hg.block g h.lt (fun e => hne e.symm)).trans h
theorem ItemS.cells {w : World} {g : Nat} {q : ByteArray} (h : ItemS w g q) : ∀ j u, [Value.string q][j]? = some u → w.cell? ((⟨g, 0, none⟩ : Addr).add j) = some u := by
  intro j u hj
  rw [Addr.add_lit, Nat.zero_add]
  unfold World.cell?
  unfold ItemS at h
  simp only [h]
  match j, hj with
  | 0, hj => cases hj; rfl
  | j + 1, hj => simp at hj
end Go.Proofs.YtcnjiphoahoojaaGreatDoor.Recs
