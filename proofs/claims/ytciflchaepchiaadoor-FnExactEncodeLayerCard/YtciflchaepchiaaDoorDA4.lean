/- Parts of several texts of mine in one file (each begins with its own remark). -/
import Derived.Test.YtciflchaepchiaaDoorDA1
import Derived.Test.YtciflchaepchiaaDoorDA2
import Derived.Test.YtciflchaepchiaaDoorDA3
import Derived.Test.YtciflchaepchiaaDoorChecked
import Derived.Test.YtciflchaepchiaaDoorShelf
import Derived.Test.YtciflchaepchiaaDoorProg
import Derived.Test.YtciflchaepchiaaDoorRows
import Derived.Lib.Join
import Derived.WalkKit
import Derived.Lib.Strings
import Derived.WalkSpells
import Derived.WalkSmall
import Derived.WalkLawsBesides
import Derived.Lib.OthersKept
import Derived.Lib.Hide
import Derived.Lib.ConvBytes
import Derived.Below
import Derived.BigQuiet
import Derived.Laws.BytesArg
import Derived.Deep.QuietTactic
import Derived.Deep.RegionHeld3
import Derived.Deep.Draws
import Derived.Deep.LoopGhost
import Derived.Laws.OwnMore
import Derived.BigRegion
import Derived.Deep.Slices
import Derived.OpenShut
import Derived.ShutString
import Derived.ChangeArms
import Derived.WideShapes
import Derived.Lib.LaidTab
import Derived.StillTailTactics
import Derived.LaidEql
import Derived.Stop.Asserts
import Derived.Stop.LaidErr
import Derived.Stop.LaidTwo
import Derived.ChangeVars
import Derived.Deep.DeepHandedRow
import Derived.Deep.Cut
import Derived.Shelf.Strings.Builder1
/- Plain facts on lists of bytes: parents, joined paths, the order of paths, what is below a path. -/
namespace Go.Proofs.YtciflchaepchiaaDoor

theorem cutAt_append (x : UInt8) (a b : List UInt8) : cutAt x (a ++ x :: b) = cutAt x a ++ cutAt x b := by
  induction a with
  | nil => simp [cutAt]
  | cons c r ih =>
    simp only [List.cons_append, cutAt, ih]
    split
    · rfl
    · have := cutAt_ne x r
      cases h : cutAt x r with
      | nil => exact absurd h this
      | cons h t => rfl

theorem join_two (x y : List UInt8) (r : List (List UInt8)) : Lib.join (x :: y :: r) [47] = x ++ 47 :: Lib.join (y :: r) [47] := by
  rw [Lib.join_cons, Lib.join_cons]
  simp [Lib.joinTail]
theorem join_cut (l : List UInt8) : Lib.join (cutAt 47 l) [47] = l := by
  induction l with
  | nil => rfl
  | cons c r ih =>
    simp only [cutAt]
    have hne := cutAt_ne 47 r
    cases h : cutAt 47 r with
    | nil => exact absurd h hne
    | cons a t =>
      rw [h] at ih
      split
      · rename_i hc
        rw [join_two, ih, hc]
        rfl
      · show Lib.join ((c :: a) :: t) [47] = c :: r
        rw [Lib.join_cons] at ih ⊢
        rw [List.cons_append, ih]
/-- A path without its last part. -/
def parentL (l : List UInt8) : List UInt8 := Lib.join (cutAt 47 l).dropLast [47]
theorem parent_at (a b : List UInt8) (hb : ∀ c ∈ b, c ≠ 47) : parentL (a ++ 47 :: b) = a := by
  unfold parentL
  rw [cutAt_append, cutAt_clean hb, List.dropLast_concat, join_cut]
theorem parent_none (l : List UInt8) (h : ∀ c ∈ l, c ≠ 47) : parentL l = [] := by
  unfold parentL
  rw [cutAt_clean h]
  rfl
/-- From place k on no byte is 47. -/
def Clear (l : List UInt8) (k : Nat) : Prop := ∀ c ∈ l.drop k, c ≠ 47
theorem Clear.hit {s : ByteArray} {k : Nat} (hk : k < s.size) (h : Clear s.data.toList (k + 1)) (he : s[k] = 47) : parentL s.data.toList = s.data.toList.take k := by
  have e : s.data.toList = s.data.toList.take k ++ 47 :: s.data.toList.drop (k + 1) := by
    conv => lhs; rw [← List.take_append_drop k s.data.toList]
    rw [drop_cons s k hk, he]
  have := parent_at (s.data.toList.take k) (s.data.toList.drop (k + 1)) h
  rw [← e] at this
  exact this
theorem Clear.none {s : ByteArray} (h : Clear s.data.toList 0) : parentL s.data.toList = [] := parent_none _ (by simpa [Clear] using h)

/-! ### A path and one part more -/
/-! ### The order of paths -/
/-! ### Below a path -/
end Go.Proofs.YtciflchaepchiaaDoor

/- The sum of a text, LayerSum: of the program and of its model. No condition. -/
namespace Go.Proofs.YtciflchaepchiaaDoor.Recs
set_option maxRecDepth 100000
open Go.RowKit

theorem bytes_below (w : World) (e : TypeId) (s : ByteArray) : Below w.heap.size w (Lib.bytesWorld w e s) := by
  refine ⟨rfl, rfl, rfl, ?_, fun j hj => Lib.bytesWorld_at_old w e s j hj⟩
  rw [Lib.bytesWorld_size]
  omega
theorem bytes_cell (w : World) (e : TypeId) (s : ByteArray) {j : Nat} (h : j < s.size) : (Lib.bytesWorld w e s).cell? ⟨w.heap.size, j, none⟩ = some (.int .u8 s[j].toNat) := by
  rw [Lib.bytesWorld_cell w e s j h]
  congr 3
  have hl : j < s.data.toList.length := by rw [← Lib.size_eq]; exact h
  rw [List.getD_eq_getElem?_getD, List.getElem?_eq_getElem hl]
  rfl

end Go.Proofs.YtciflchaepchiaaDoor.Recs

/- The laws' own marks: markText, and the marks written into a row of strings and read again; eqStringS. -/
namespace Go.Proofs.YtciflchaepchiaaDoor.Paths
open Go.RowKit

/-- A slice that reads as the strings L, wherever it lies. -/
def Strs (w : World) (v : Value) (L : List (List UInt8)) : Prop :=
  ∃ A cap, v = .slice A L.length cap ∧ L.length ≤ cap ∧ (0 < L.length → ∃ b off, A = some ⟨b, off, none⟩ ∧ b < w.heap.size ∧ ∀ k p, L[k]? = some p → w.cell? ⟨b, off + k, none⟩ = some (strV p))
theorem Strs.own {w : World} {base : Nat} {v : Value} {L : List (List UInt8)} (h : w.ownsRow base 9 1 v L.length (L.map strV)) : Strs w v L := by
  rcases h.2 with ⟨rfl, hn⟩ | ⟨g, cap, cur, rfl, hb, hg, hc, _⟩
  · exact ⟨none, 0, by rw [hn], by omega, fun h => by omega⟩
  · refine ⟨_, cap, rfl, hc, fun _ => ⟨g, 0, rfl, (Array.getElem?_eq_some_iff.1 hg).1, fun k p hk => ?_⟩⟩
    have := h.cells (g := g) rfl k (strV p) (by simp [hk])
    simpa [Addr.add_lit] using this
theorem Strs.below {w w' : World} {v : Value} {L : List (List UInt8)} (h : Strs w v L) (hb : Below w.heap.size w w') : Strs w' v L := by
  obtain ⟨A, cap, rfl, hc, h⟩ := h
  refine ⟨A, cap, rfl, hc, fun hn => ?_⟩
  obtain ⟨b, off, rfl, hlt, hcell⟩ := h hn
  exact ⟨b, off, rfl, Nat.lt_of_lt_of_le hlt hb.size, fun k p hk => (hb.cell (p := ⟨b, off + k, none⟩) hlt).trans (hcell k p hk)⟩

theorem grown_trans {a b c : World} {row : Option Nat} (h : a.grownBy b row) (k : b.grownBy c row) : a.grownBy c row :=
  ⟨k.os.trans h.os, k.tape.trans h.tape, k.output.trans h.output, Nat.le_trans h.size k.size, fun i hi hne => (k.block i (Nat.lt_of_lt_of_le hi h.size) hne).trans (h.block i hi hne)⟩

end Go.Proofs.YtciflchaepchiaaDoor.Paths

/- Slices of records in memory of their own: what is written into one; the laws' own size, copy and comparison of such slices. -/
namespace Go.Proofs.YtciflchaepchiaaDoor.Recs
set_option maxRecDepth 100000
open Go.RowKit Paths

/-- A record's five cells. -/
def R.cs (r : R) : List Value := [.int .i64 r.k, .string r.p, .string r.b, .int .i64 r.m, .bool r.o]
def flat (l : List R) : List Value := l.flatMap R.cs
theorem flat_len (l : List R) : (flat l).length = l.length * 5 := by
  induction l with
  | nil => rfl
  | cons r t ih => simp only [flat, List.flatMap_cons, List.length_append, List.length_cons] at ih ⊢; rw [ih]; simp [R.cs]; omega
theorem flat_get : ∀ (l : List R) (j : Nat), (flat l)[j]? = (l[j / 5]?).bind fun r => r.cs[j % 5]?
  | [], j => by simp [flat]
  | r :: t, j => by
    have ih := flat_get t (j - 5)
    by_cases hj : j < 5
    · have e1 : j / 5 = 0 := by omega
      have e2 : j % 5 = j := by omega
      rw [e1, e2]
      simp only [flat, List.flatMap_cons]
      rw [List.getElem?_append_left (by simp [R.cs]; omega)]
      simp
    · have e1 : j / 5 = (j - 5) / 5 + 1 := by omega
      have e2 : j % 5 = (j - 5) % 5 := by omega
      rw [e1, e2]
      simp only [flat, List.flatMap_cons]
      rw [List.getElem?_append_right (by simp [R.cs]; omega)]
      simp only [R.cs, List.length_cons, List.length_nil]
      exact ih
theorem flat_field {M : List R} {i c : Nat} {r : R} {u : Value} (hi : i < M.length) (hc : c < 5) (h : r.cs = M[i].cs.set c u) : flat (M.set i r) = (flat M).set (i * 5 + c) u := by
  apply List.ext_getElem?
  intro j
  rw [flat_get, List.getElem?_set, List.getElem?_set, flat_len, flat_get]
  by_cases hj : i = j / 5
  · rw [if_pos hj, if_pos (by omega)]
    simp only [Option.bind_some]
    rw [h, List.getElem?_set]
    by_cases hk : c = j % 5
    · rw [if_pos hk, if_pos (by simp [R.cs]; omega), if_pos (by omega), if_pos (by omega)]
    · rw [if_neg hk, if_neg (by omega), ← hj, List.getElem?_eq_getElem hi]
      rfl
  · rw [if_neg hj, if_neg (by omega)]

/-- A slice in memory of its own that holds the records M. -/
def RowOf (w : World) (base : Nat) (v : Value) (n : Nat) (M : List R) : Prop := M.length = n ∧ w.ownsRow base 27 5 v n (flat M)
theorem RowOf.below {w w' : World} {base : Nat} {v : Value} {n : Nat} {M : List R} (h : RowOf w base v n M) (hb : Below w.heap.size w w') : RowOf w' base v n M := ⟨h.1, own_below h.2 hb⟩
theorem RowOf.field {w : World} {base g cap n : Nat} {M : List R} {i c : Nat} {r : R} {u : Value} (h : RowOf w base (.slice (some ⟨g, 0, none⟩) n cap) n M) (hi : i < M.length) (hc : c < 5) (hr : r.cs = M[i].cs.set c u) :
    RowOf (w.setCell ⟨g, i * 5 + c, none⟩ u) base (.slice (some ⟨g, 0, none⟩) n cap) n (M.set i r) ∧ w.grownBy (w.setCell ⟨g, i * 5 + c, none⟩ u) (some g) := by
  obtain ⟨h1, h2⟩ := h.2.stored (i * 5 + c) u
  exact ⟨⟨by rw [List.length_set]; exact h.1, by rw [flat_field hi hc hr]; exact h1⟩, h2⟩
theorem RowOf.frozen {w : World} {base g cap n : Nat} {M : List R} (h : RowOf w base (.slice (some ⟨g, 0, none⟩) n cap) n M) (j : Nat) : w.frozen? ⟨g, j, none⟩ = false := h.2.frozenAt j
theorem RowOf.cells {w : World} {base g cap n : Nat} {M : List R} (h : RowOf w base (.slice (some ⟨g, 0, none⟩) n cap) n M) {i : Nat} (hi : i < M.length) : RecCells w g (i * 5) M[i] := by
  have one : ∀ c, c < 5 → w.cell? ⟨g, i * 5 + c, none⟩ = M[i].cs[c]? := fun c hc => by
    rw [h.2.cellAt (i * 5 + c) (by rw [← h.1]; omega), flat_get]
    have e1 : (i * 5 + c) / 5 = i := by omega
    have e2 : (i * 5 + c) % 5 = c := by omega
    rw [e1, e2, List.getElem?_eq_getElem hi]
    rfl
  exact ⟨one 0 (by omega), one 1 (by omega), one 2 (by omega), one 3 (by omega), one 4 (by omega)⟩
/-- A whole record written. -/
theorem RowOf.store {w : World} {base g cap n : Nat} {M : List R} {i : Nat} (r : R) (h : RowOf w base (.slice (some ⟨g, 0, none⟩) n cap) n M) (hi : i < M.length) :
    RowOf (((((w.setCell ⟨g, i * 5, none⟩ (.int .i64 r.k)).setCell ⟨g, i * 5 + 1, none⟩ (.string r.p)).setCell ⟨g, i * 5 + 2, none⟩ (.string r.b)).setCell ⟨g, i * 5 + 3, none⟩ (.int .i64 r.m)).setCell ⟨g, i * 5 + 4, none⟩ (.bool r.o)) base (.slice (some ⟨g, 0, none⟩) n cap) n (M.set i r) ∧
    w.grownBy (((((w.setCell ⟨g, i * 5, none⟩ (.int .i64 r.k)).setCell ⟨g, i * 5 + 1, none⟩ (.string r.p)).setCell ⟨g, i * 5 + 2, none⟩ (.string r.b)).setCell ⟨g, i * 5 + 3, none⟩ (.int .i64 r.m)).setCell ⟨g, i * 5 + 4, none⟩ (.bool r.o)) (some g) := by
  obtain ⟨a1, b1⟩ := h.field (i := i) (c := 0) (r := { M[i] with k := r.k }) (u := .int .i64 r.k) hi (by omega) rfl
  obtain ⟨a2, b2⟩ := a1.field (i := i) (c := 1) (r := { M[i] with k := r.k, p := r.p }) (u := .string r.p) (by simpa using hi) (by omega) (by simp [R.cs])
  obtain ⟨a3, b3⟩ := a2.field (i := i) (c := 2) (r := { M[i] with k := r.k, p := r.p, b := r.b }) (u := .string r.b) (by simpa using hi) (by omega) (by simp [R.cs])
  obtain ⟨a4, b4⟩ := a3.field (i := i) (c := 3) (r := { M[i] with k := r.k, p := r.p, b := r.b, m := r.m }) (u := .int .i64 r.m) (by simpa using hi) (by omega) (by simp [R.cs])
  obtain ⟨a5, b5⟩ := a4.field (i := i) (c := 4) (r := r) (u := .bool r.o) (by simpa using hi) (by omega) (by simp [R.cs])
  refine ⟨?_, grown_trans (grown_trans (grown_trans (grown_trans b1 b2) b3) b4) b5⟩
  simp only [List.set_set] at a5
  exact a5

theorem RowOf.ne {w : World} {base : Nat} {v : Value} {n : Nat} {M : List R} (h : RowOf w base v n M) : v.ownBlock ≠ some w.heap.size := fun e => by
  have := (h.2.lt _ e).2
  omega
end Go.Proofs.YtciflchaepchiaaDoor.Recs

/- The laws' own copy of a slice of records, its size, its comparison. -/
namespace Go.Proofs.YtciflchaepchiaaDoor.Recs
set_option maxRecDepth 100000
open Go.RowKit Paths

def zR : R := ⟨0, 0, ByteArray.empty, ByteArray.empty, false⟩
end Go.Proofs.YtciflchaepchiaaDoor.Recs

/- Paths: ParentOf and JoinPath, of the program and of its model. -/
namespace Go.Proofs.YtciflchaepchiaaDoor.Paths
open Go.RowKit

theorem Strs.take {w : World} {A : Option Addr} {cap : Nat} {L : List (List UInt8)} {k : Nat} (h : Strs w (.slice A L.length cap) L) (hk : k ≤ L.length) : Strs w (.slice A k cap) (L.take k) := by
  obtain ⟨A', cap', e, hc, h⟩ := h
  cases e
  refine ⟨A, cap, by rw [List.length_take, Nat.min_eq_left hk], by rw [List.length_take]; omega, fun hn => ?_⟩
  rw [List.length_take] at hn
  obtain ⟨b, off, e, hb, hcell⟩ := h (by omega)
  refine ⟨b, off, e, hb, fun j p hj => hcell j p ?_⟩
  rw [List.getElem?_take] at hj
  split at hj
  · exact hj
  · cases hj

end Go.Proofs.YtciflchaepchiaaDoor.Paths

/- Paths: JoinPath, of the program and of its model. -/
namespace Go.Proofs.YtciflchaepchiaaDoor.Paths
open Go.RowKit

/-- Which of the ways JoinPath goes: 0: too long · 1: no path, or no part · 2: too many parts · 3: from the root · 4: from a path. -/
def joinWay (d p : ByteArray) : Nat :=
  if 65536 < d.size ∨ 65536 < p.size then 0
  else if (d.size ≠ 0 ∧ pathB d.data.toList = false) ∨ partB p.data.toList = false then 1
  else if d.size = 0 then 3
  else if (cutAt 47 d.data.toList).length = 4 then 2 else 4
def joinCode (d p : ByteArray) : Int := match joinWay d p with | 0 => 2 | 1 => 10 | 2 => 6 | _ => 0
def joinRes (d p : ByteArray) : List UInt8 := match joinWay d p with | 3 => p.data.toList | 4 => d.data.toList ++ 47 :: p.data.toList | _ => []
def JoinPost (d p : ByteArray) (w : World) (e : Ending) (w' : World) : Prop := e = .returned (.tuple #[strV (joinRes d p), .int .i64 (joinCode d p)]) ∧ Below w.heap.size w w'

theorem JoinPost.long {d p : ByteArray} {w w' : World} (h : joinWay d p = 0) (hb : Below w.heap.size w w') : JoinPost d p w (.returned (.tuple #[.string ⟨#[]⟩, .int .i64 2])) w' := ⟨by unfold joinRes joinCode; rw [h]; rfl, hb⟩
theorem JoinPost.many {d p : ByteArray} {w w' : World} (h : joinWay d p = 2) (hb : Below w.heap.size w w') : JoinPost d p w (.returned (.tuple #[.string ⟨#[]⟩, .int .i64 6])) w' := ⟨by unfold joinRes joinCode; rw [h]; rfl, hb⟩
theorem JoinPost.root {d p : ByteArray} {w w' : World} (h : joinWay d p = 3) (hb : Below w.heap.size w w') : JoinPost d p w (.returned (.tuple #[strV p.data.toList, .int .i64 0])) w' := ⟨by unfold joinRes joinCode; rw [h]; rfl, hb⟩
end Go.Proofs.YtciflchaepchiaaDoor.Paths

/- Layers: the first fault of one, of the model. -/
namespace Go.Proofs.YtciflchaepchiaaDoor.Recs
set_option maxRecDepth 100000
open Go.RowKit Paths

theorem RecSl.take {w : World} {A : Option Addr} {cap : Nat} {l : List R} {k : Nat} (h : RecSl w (.slice A l.length cap) l) (hk : k ≤ l.length) : RecSl w (.slice A k cap) (l.take k) := by
  obtain ⟨A', cap', e, hc, h⟩ := h
  cases e
  refine ⟨A, cap, by rw [List.length_take, Nat.min_eq_left hk], by rw [List.length_take]; omega, fun hn => ?_⟩
  rw [List.length_take] at hn
  obtain ⟨b, off, e, hb, hcell⟩ := h (by omega)
  refine ⟨b, off, e, hb, fun j p hj => hcell j p ?_⟩
  rw [List.getElem?_take] at hj
  split at hj
  · exact hj
  · cases hj
end Go.Proofs.YtciflchaepchiaaDoor.Recs

/- Errors: errors.Is at nil, at a sentinel, at the program's own error that names a record. Conditions: as each states. -/
namespace Go.Proofs.YtciflchaepchiaaDoor.Errs
set_option maxRecDepth 100000
open Go.RowKit Go.Extern

/-! ### Closed facts of the types -/
/-- An error of errors.New's make. -/
def errV (a : Addr) : Value := .iface 128 (.pointer (some a))
/-- The program's error that names a record. -/
def recV (i c : Int) : Value := .iface 75 (.agg #[.int .i64 i, .int .i64 c])

end Go.Proofs.YtciflchaepchiaaDoor.Errs

/- Layers: comparison of two lists of records, of the program and of its model. -/
namespace Go.Proofs.YtciflchaepchiaaDoor.Recs
set_option maxRecDepth 100000
open Go.RowKit Paths

instance decR : DecidableEq R := fun x y =>
  if h : x.k = y.k ∧ x.m = y.m ∧ x.p = y.p ∧ x.b = y.b ∧ x.o = y.o then isTrue (by cases x; cases y; simp_all) else isFalse (fun e => h (by subst e; simp))
/-- Two records are alike, or one field is the first that is not. -/
theorem five (x y : R) : (x.k == y.k) = false ∨ ((x.k == y.k) = true ∧ (x.p.toList == y.p.toList) = false) ∨ ((x.k == y.k) = true ∧ (x.p.toList == y.p.toList) = true ∧ (x.b.toList == y.b.toList) = false) ∨
    ((x.k == y.k) = true ∧ (x.p.toList == y.p.toList) = true ∧ (x.b.toList == y.b.toList) = true ∧ (x.m == y.m) = false) ∨ ((x.k == y.k) = true ∧ (x.p.toList == y.p.toList) = true ∧ (x.b.toList == y.b.toList) = true ∧ (x.m == y.m) = true ∧ (x.o == y.o) = false) ∨
    ((x.k == y.k) = true ∧ (x.p.toList == y.p.toList) = true ∧ (x.b.toList == y.b.toList) = true ∧ (x.m == y.m) = true ∧ (x.o == y.o) = true) := by
  cases (x.k == y.k) <;> cases (x.p.toList == y.p.toList) <;> cases (x.b.toList == y.b.toList) <;> cases (x.m == y.m) <;> cases (x.o == y.o) <;> simp
end Go.Proofs.YtciflchaepchiaaDoor.Recs

/- What the rows' lists give: the table of kinds, the two sentinels. -/
namespace Go.Proofs.YtciflchaepchiaaDoor.Recs
set_option maxRecDepth 100000
open Go.RowKit Paths Errs

section
variable {H : Type} {enc : TypeId × Value → H} {P : Program} {w : World} {spare : Nat → Bool}
end

/-- The table, and the first sentinel. -/
structure Two (w : World) : Prop where
  tab : Tab w
  long : ∃ x, w.cell? ⟨0, 0, none⟩ = some (errV x)
theorem Two.below {w w' : World} {B : Nat} (h : Two w) (hb : Below B w w') (hB : w.heap.size ≤ B) : Two w' := by
  obtain ⟨x, hx⟩ := h.long
  exact ⟨h.tab.below hb hB, x, (hb.cell (p := ⟨0, 0, none⟩) (Nat.lt_of_lt_of_le (World.block_lt_of_cell? w _ hx) hB)).trans hx⟩

/-- The table, and the two sentinels: two pointers into rows of which nothing is frozen. -/
structure Three (w : World) (x y : Addr) : Prop where
  tab : Tab w
  long : w.cell? ⟨0, 0, none⟩ = some (errV x)
  bad : w.cell? ⟨1, 0, none⟩ = some (errV y)
  ne : x ≠ y
  rowx : ∃ c t, w.heap[x.block]? = some (.cells c t (0, 0))
  rowy : ∃ c t, w.heap[y.block]? = some (.cells c t (0, 0))
theorem Three.below {w w' : World} {B : Nat} {x y : Addr} (h : Three w x y) (hb : Below B w w') (hB : w.heap.size ≤ B) : Three w' x y := by
  obtain ⟨cx, tx, hx⟩ := h.rowx
  obtain ⟨cy, ty, hy⟩ := h.rowy
  exact ⟨h.tab.below hb hB, (hb.cell (p := ⟨0, 0, none⟩) (Nat.lt_of_lt_of_le (World.block_lt_of_cell? w _ h.long) hB)).trans h.long,
    (hb.cell (p := ⟨1, 0, none⟩) (Nat.lt_of_lt_of_le (World.block_lt_of_cell? w _ h.bad) hB)).trans h.bad, h.ne,
    ⟨cx, tx, (hb.block _ (Nat.lt_of_lt_of_le (Array.getElem?_eq_some_iff.1 hx).1 hB)).trans hx⟩, ⟨cy, ty, (hb.block _ (Nat.lt_of_lt_of_le (Array.getElem?_eq_some_iff.1 hy).1 hB)).trans hy⟩⟩

end Go.Proofs.YtciflchaepchiaaDoor.Recs

/- The code of the errors of a call's arguments. Conditions: the table of kinds, the two sentinels. -/
namespace Go.Proofs.YtciflchaepchiaaDoor.Recs
set_option maxRecDepth 100000
open Go.RowKit Paths Errs

/-- An error that a check hands back: none, the sentinel of long arguments, or the one that names a record. -/
inductive EK where
  | fine
  | long
  | bad (i c : Int)
def EK.val (x : Addr) : EK → Value
  | .fine => .nilIface
  | .long => errV x
  | .bad i c => recV i c
end Go.Proofs.YtciflchaepchiaaDoor.Recs

/- EncodeRecord and EncodeLayer, of the program and of the model. Conditions (of the program's): the table of kinds, the two sentinels. -/
namespace Go.Proofs.YtciflchaepchiaaDoor.Recs
set_option maxRecDepth 100000
open Go.RowKit Paths Errs

theorem str_of_list {a b : ByteArray} (h : a.data.toList = b.data.toList) : a = b := by
  apply ByteArray.ext
  exact Array.toList_inj.1 h
theorem size_of_list {a : ByteArray} {l : List UInt8} (h : a.data.toList = l) : a.size = l.length := by rw [Lib.size_eq, h]

end Go.Proofs.YtciflchaepchiaaDoor.Recs
