/- Paths: JoinPath, of the program and of its model. -/
import Derived.Test.YtbgejefmchnhcaaDoorPaths5
namespace Go.Proofs.YtbgejefmchnhcaaDoor.Paths
open Go.RowKit

/-- Which of the ways JoinPath goes: 0: too long · 1: no path, or no part · 2: too many parts · 3: from the root · 4: from a path. -/
def joinWay (d p : ByteArray) : Nat :=
  if 65536 < d.size ∨ 65536 < p.size then 0
  else if (d.size ≠ 0 ∧ pathB d.data.toList = false) ∨ partB p.data.toList = false then 1
  else if d.size = 0 then 3
  else if (cutAt 47 d.data.toList).length = 4 then 2 else 4
def joinCode (d p : ByteArray) : Int := match joinWay d p with | 0 => 2 | 1 => 10 | 2 => 6 | _ => 0
def joinRes (d p : ByteArray) : List UInt8 := match joinWay d p with | 3 => p.data.toList | 4 => d.data.toList ++ 47 :: p.data.toList | _ => []
def JoinPost (d p : ByteArray) (w : World) (e : Ending) (w' : World) : Prop := e = .returned (.tuple #[strV (joinRes d p), .int .i64 (joinCode d p)]) ∧ Below w.heap.size w w'

theorem JoinPost.long {d p : ByteArray} {w w' : World} (h : joinWay d p = 0) (hb : Below w.heap.size w w') : JoinPost d p w (.returned (.tuple #[.string ⟨#[]⟩, .int .i64 2])) w' := ⟨by unfold joinRes joinCode; rw [h]; rfl, hb⟩
theorem JoinPost.name {d p : ByteArray} {w w' : World} (h : joinWay d p = 1) (hb : Below w.heap.size w w') : JoinPost d p w (.returned (.tuple #[.string ⟨#[]⟩, .int .i64 10])) w' := ⟨by unfold joinRes joinCode; rw [h]; rfl, hb⟩
theorem JoinPost.many {d p : ByteArray} {w w' : World} (h : joinWay d p = 2) (hb : Below w.heap.size w w') : JoinPost d p w (.returned (.tuple #[.string ⟨#[]⟩, .int .i64 6])) w' := ⟨by unfold joinRes joinCode; rw [h]; rfl, hb⟩
theorem JoinPost.root {d p : ByteArray} {w w' : World} (h : joinWay d p = 3) (hb : Below w.heap.size w w') : JoinPost d p w (.returned (.tuple #[strV p.data.toList, .int .i64 0])) w' := ⟨by unfold joinRes joinCode; rw [h]; rfl, hb⟩
theorem JoinPost.deep {d p : ByteArray} {w w' : World} (h : joinWay d p = 4) (hb : Below w.heap.size w w') : JoinPost d p w (.returned (.tuple #[strV (d.data.toList ++ 47 :: p.data.toList), .int .i64 0])) w' := ⟨by unfold joinRes joinCode; rw [h]; rfl, hb⟩

theorem pathB_empty {d : ByteArray} (h : d.size = 0) : pathB d.data.toList = false := by
  have : d.data.toList = [] := by
    have := Lib.size_eq d
    rw [h] at this
    exact List.eq_nil_of_length_eq_zero this.symm
  rw [this]
  decide

theorem strV_join (d p : ByteArray) : .string (d ++ ⟨#[47]⟩ ++ p) = strV (d.data.toList ++ 47 :: p.data.toList) := by
  unfold strV
  congr 1
  apply ByteArray.ext
  simp

theorem strV_eq (l : List UInt8) : strV l = .string ⟨l.toArray⟩ := rfl

end Go.Proofs.YtbgejefmchnhcaaDoor.Paths
