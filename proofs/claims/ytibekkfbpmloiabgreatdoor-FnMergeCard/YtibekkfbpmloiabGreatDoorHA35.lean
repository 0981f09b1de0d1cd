/- Parts of several texts of mine in one file (each begins with its own remark). -/
import Derived.Test.YtibekkfbpmloiabGreatDoorHA1
import Derived.Test.YtibekkfbpmloiabGreatDoorHA10
import Derived.Test.YtibekkfbpmloiabGreatDoorHA12
import Derived.Test.YtibekkfbpmloiabGreatDoorHA13
import Derived.Test.YtibekkfbpmloiabGreatDoorHA15
import Derived.Test.YtibekkfbpmloiabGreatDoorHA16
import Derived.Test.YtibekkfbpmloiabGreatDoorHA2
import Derived.Test.YtibekkfbpmloiabGreatDoorHA20
import Derived.Test.YtibekkfbpmloiabGreatDoorHA25
import Derived.Test.YtibekkfbpmloiabGreatDoorHA3
import Derived.Test.YtibekkfbpmloiabGreatDoorHA30
import Derived.Test.YtibekkfbpmloiabGreatDoorHA33
import Derived.Test.YtibekkfbpmloiabGreatDoorHA4
import Derived.Test.YtibekkfbpmloiabGreatDoorHA5
import Derived.Test.YtibekkfbpmloiabGreatDoorHA6
import Derived.Test.YtibekkfbpmloiabGreatDoorHA7
import Derived.Test.YtibekkfbpmloiabGreatDoorHA8
import Derived.Test.YtibekkfbpmloiabGreatDoorHA9
import Derived.Test.YtibekkfbpmloiabGreatDoorChecked
import Derived.Test.YtibekkfbpmloiabGreatDoorShelf
import Derived.Test.YtibekkfbpmloiabGreatDoorProg
import Derived.Test.YtibekkfbpmloiabGreatDoorRows
import Derived.Deep.RegionHeld3
import Derived.Deep.Cut
import Derived.Deep.CutRange
import Derived.Deep.Slices
import Derived.OpenShut
import Derived.ShutString
import Derived.ChangeArms
import Derived.WideShapes
import Derived.Lib.LaidTab
import Derived.BigQuiet
import Derived.Deep.QuietTactic
import Derived.StillTailTactics
import Derived.Deep.Draws
import Derived.Deep.LoopGhost
import Derived.WalkKit
import Derived.WalkSpells
import Derived.WalkSmall
import Derived.Lib.OthersKept
import Derived.Lib.Hide
import Derived.Lib.Strings
import Derived.Lib.Join
import Derived.Deep.RegionWith
import Derived.Laws.OwnMore
import Derived.BigRegion
import Derived.Laws.BytesArg
import Derived.Stop.LaidErr
import Derived.WalkLawsBesides
import Derived.LaidEql
import Derived.Stop.Asserts
import Derived.Below
import Derived.Stop.LaidTwo
import Derived.OneCell
import Derived.Lib.SliceRun
import Derived.Lib.Overlaps
import Derived.Lib.AppendZerosOnto
import Derived.Laws.NewBlocks
import Derived.Laws.IdiomCopy
import Derived.Deep.RegionLaw
import Derived.ChangeVars
import Derived.Deep.DeepHandedRow
import Derived.Deep.AppendLies
import Derived.Laws.EntriesVeiled
import Derived.Deep.CutBlock
import Derived.Laws.IdiomRangeMap
import Derived.Maps.RangeWalk
import Derived.Maps.Ext
import Derived.Lib.SlMapFilter
import Derived.Laws.AppendOwnNone
import Derived.RegionTactic
import Derived.RangeFuncNested
import Derived.RangeFuncBound
import Derived.RangeFuncCalls
import Derived.RangeFuncLeaves
import Derived.RangeFuncBox
import Derived.Shelf.Abstract
import Derived.Shelf.RegionOpen
import Derived.OwnWalkIn
import Derived.TacticsInMore
import Derived.LoopNIn
import Derived.LoopIn
import Derived.IntWalk
/- A drawn stack as the laws read it: good to read, its form. -/
namespace Go.Proofs.YtibekkfbpmloiabGreatDoor.Recs
set_option maxRecDepth 100000
open Go.RowKit Paths

theorem StkOwn.good {w : World} {hb base : Nat} {v : Value} {LL : List (List R)} (h : StkOwn w hb base v LL) : StkGood w v LL := by
  obtain ⟨us, hn, ho, h1, _⟩ := h
  have ho2 := ho
  rcases ho.2 with ⟨rfl, h0⟩ | ⟨g, cap, cur, rfl, _, hg, hc, _⟩
  · exact ⟨none, 0, by rw [h0], by omega, fun h => by omega⟩
  · refine ⟨_, cap, rfl, hc, fun _ => ⟨g, 0, rfl, (Array.getElem?_eq_some_iff.1 hg).1, fun i l hi => ?_⟩⟩
    have hlt : i < LL.length := (List.getElem?_eq_some_iff.1 hi).1
    have hr := h1 i (us[i]'(by omega)) l (List.getElem?_eq_getElem (by omega)) hi
    refine ⟨us[i]'(by omega), ?_, hr.sl, row_plain hr⟩
    have := ho2.cellAt i (by omega)
    rw [List.getElem?_eq_getElem (by omega)] at this
    rw [Nat.zero_add]
    exact this
theorem StkOwn.atom {w : World} {hb base : Nat} {v : Value} {LL : List (List R)} (h : StkOwn w hb base v LL) (hv : v ≠ .slice none 0 0) : ∃ g cap, v = .slice (some ⟨g, 0, none⟩) LL.length cap ∧ LL.length ≤ cap := by
  obtain ⟨us, _, ho, _, _⟩ := h
  rcases ho.2 with ⟨rfl, h0⟩ | ⟨g, cap, cur, rfl, _, _, hc, _⟩
  · exact absurd rfl hv
  · exact ⟨g, cap, rfl, hc⟩
/-- What a layer of a drawn stack holds: short rows, short paths. -/
theorem stk_short {LL : List (List R)} (h : ∀ l ∈ LL, layerOK l = true) : (∀ l ∈ LL, l.length ≤ 1048576 ∧ ∀ r ∈ l, r.p.size ≤ maxLen) ∧ ∀ l ∈ LL, l.length ≤ 1048576 := by
  have h1 : ∀ l ∈ LL, l.length ≤ 1048576 := fun l hl => by have := layer_len (h l hl); omega
  refine ⟨fun l hl => ⟨h1 l hl, fun r hr => ?_⟩, h1⟩
  have h35 : r.p.size ≤ 35 := by rw [Lib.size_eq]; exact pathB_len ((layer_is (h l hl)).path r hr)
  unfold maxLen
  omega
/-- The end of such a stack, cut off at k. -/
theorem StkGood.rest {w : World} {g n cap : Nat} {LL : List (List R)} (h : StkGood w (.slice (some ⟨g, 0, none⟩) n cap) LL) {k : Nat} (hk : k ≤ LL.length) (hn : n = LL.length) (hc : n ≤ cap) :
    (cap = k → StkSl w (.slice (some ⟨g, 0, none⟩) (n - k) (cap - k)) (LL.drop k)) ∧ (cap ≠ k → StkSl w (.slice (some ⟨g, k, none⟩) (n - k) (cap - k)) (LL.drop k)) := by
  refine ⟨fun e => ?_, fun e => ?_⟩
  · have hl : (LL.drop k).length = n - k := by rw [List.length_drop, hn]
    exact ⟨_, _, by rw [hl], by rw [hl]; omega, fun h0 => by rw [hl] at h0; omega⟩
  · have := (h.drop hk (by omega)).sl
    rwa [Nat.zero_add] at this
end Go.Proofs.YtibekkfbpmloiabGreatDoor.Recs

/- For FnMerge, plain: where a winner stands among all winners; its own record. -/
namespace Go.Proofs.YtibekkfbpmloiabGreatDoor.Recs
set_option maxRecDepth 100000
open Go.RowKit Paths

theorem wins_place {LL : List (List R)} {P : List ByteArray} {k : Nat} (hk : k < P.length) (h : 0 < (winC LL P[k]).2) : (winsOf LL P)[(winsOf LL (P.take k)).length]? = some (winC LL P[k]) ∧ (winsOf LL (P.take k)).length < (winsOf LL P).length := by
  have e : winsOf LL P = winsOf LL (P.take (k + 1)) ++ winsOf LL (P.drop (k + 1)) := by
    unfold winsOf
    rw [← List.filter_append, ← List.map_append, List.take_append_drop]
  have s := wins_step (LL := LL) hk
  rw [if_pos h] at s
  rw [e, s]
  constructor
  · rw [List.append_assoc, List.getElem?_append_right (Nat.le_refl _), Nat.sub_self]
    rfl
  · simp
theorem find_is_rec {l : List R} (hl : layerOK l = true) {q : ByteArray} (hq : pathB q.data.toList = true) {y : R} (h : recAt l q = some y) : findF l q = (y, 0) := by
  have h35 : q.size ≤ 35 := by rw [Lib.size_eq]; exact pathB_len hq
  have h16 := layer_len hl
  have hc : codeLT l q = 0 := by unfold codeLT; rw [if_neg (by omega), if_pos hl]
  unfold findF
  rw [if_neg (by simpa using hc)]
  rcases atL_recAt l q with ⟨_, h2⟩ | ⟨i, hi, h1, h2⟩
  · rw [h2] at h; cases h
  · rw [h2] at h
    cases h
    rw [if_neg (by omega), h1, Int.toNat_natCast, List.getElem?_eq_getElem hi]
    rfl
/-- The record behind a winner: of its layer, but for what hides. -/
theorem win_own {LL : List (List R)} (hok : ∀ l ∈ LL, layerOK l = true) {q : ByteArray} (h : 0 < (winC LL q).2) (hq : pathB q.data.toList = true) :
    ∃ (hl : (winC LL q).2 - 1 < LL.length) (y : R), findF LL[(winC LL q).2 - 1] q = (y, 0) ∧ y.k = (winC LL q).1.k ∧ y.p = (winC LL q).1.p ∧ y.b = (winC LL q).1.b ∧ y.m = (winC LL q).1.m := by
  obtain ⟨_, _, y, hy, h3⟩ := win_rec h
  obtain ⟨hyp, l, h1, hl, hm⟩ := consd_all (fun l hl => layer_sorted (hok l hl)) hy
  obtain ⟨hlt, hle⟩ := List.getElem?_eq_some_iff.1 hl
  refine ⟨hlt, y, ?_, ?_⟩
  · have hlok := hok l (List.mem_of_getElem? hl)
    have hat := recAt_of (layer_sorted hlok) hm
    rw [hyp] at hat
    rw [show LL[(winC LL q).2 - 1] = l from hle]
    exact find_is_rec hlok hq hat
  · rcases h3 with h3 | ⟨_, h3⟩ <;> rw [h3] <;> exact ⟨rfl, rfl, rfl, rfl⟩
end Go.Proofs.YtibekkfbpmloiabGreatDoor.Recs

/- The choice that some bytes make (laws.at), as a plain function of the bytes. -/
namespace Go.Proofs.YtibekkfbpmloiabGreatDoor.Draw
open Go.RowKit

/-- A slice of bytes that reads as f. -/
def Vals (w : World) (A : Option Addr) (n : Nat) (f : Nat → Nat) : Prop :=
  n ≤ 1048577 ∧ (0 < n → ∃ b off, A = some ⟨b, off, none⟩ ∧ b < w.heap.size ∧ ∀ k, k < n → f k ≤ 255 ∧ w.cell? ⟨b, off + k, none⟩ = some (.int .u8 (f k)))
theorem Vals.byts {w : World} {A : Option Addr} {n : Nat} {f : Nat → Nat} (h : Vals w A n f) : Byts w w.heap.size A n := by
  refine ⟨h.1, fun hn => ?_⟩
  obtain ⟨b, off, e, hb, hc⟩ := h.2 hn
  exact ⟨b, off, e, hb, fun k hk => ⟨f k, hc k hk⟩⟩
theorem Vals.below {w w' : World} {A : Option Addr} {n : Nat} {f : Nat → Nat} (h : Vals w A n f) (hb : Below w.heap.size w w') : Vals w' A n f := by
  refine ⟨h.1, fun hn => ?_⟩
  obtain ⟨b, off, e, hlt, hc⟩ := h.2 hn
  exact ⟨b, off, e, Nat.lt_of_lt_of_le hlt hb.size, fun k hk => ⟨(hc k hk).1, (hb.cell (p := ⟨b, off + k, none⟩) hlt).trans (hc k hk).2⟩⟩

theorem ret_int {a b : Int} (h : a = b) : Ending.returned (.int .i64 a) = .returned (.int .i64 b) := by rw [h]

end Go.Proofs.YtibekkfbpmloiabGreatDoor.Draw

/- Slices of bytes that came in: what the laws read off them. -/
namespace Go.Proofs.YtibekkfbpmloiabGreatDoor.Draw
open Go.RowKit Go.ChangeShapes Go.WideShapes

/-- What is known of a slice of integers that came in. -/
def IsRow (k : IntKind) (w : World) (a : Option Addr) (len cap : Nat) (zs : List Int) : Prop :=
  (a = none ∧ len = 0 ∧ cap = 0 ∧ zs = []) ∨
  ∃ x, a = some x ∧ len ≤ cap ∧ cap ≤ maxLen ∧ zs.length = cap ∧ (∀ i, i < zs.length → w.cell? (x.add i) = some (.int k (zs.getD i 0))) ∧ ∀ n ∈ zs, (Lit.int k n).wf = true
theorem IsRow.vals {w : World} {a : Option Addr} {len cap : Nat} {zs : List Int} (h : IsRow .u8 w a len cap zs) (hl : len ≤ 1048576) : Vals w a len (fun k => (zs.getD k 0).toNat) ∧ len ≤ cap ∧ (a = none → len = 0 ∧ cap = 0) := by
  rcases h with ⟨rfl, rfl, rfl, rfl⟩ | ⟨x, rfl, h1, h2, h3, h4, h5⟩
  · exact ⟨⟨by omega, fun h => by omega⟩, Nat.le_refl _, fun _ => ⟨rfl, rfl⟩⟩
  · refine ⟨⟨by omega, fun hn => ?_⟩, h1, fun h => by cases h⟩
    have hc := h4 0 (by omega)
    obtain ⟨b, off, spot⟩ := x
    have hspot : spot = none := by simpa [Addr.add] using World.cell?_spot hc
    subst hspot
    refine ⟨b, off, rfl, World.block_lt_of_cell? w _ (by simpa [Addr.add_lit] using hc), fun k hk => ?_⟩
    have hck := h4 k (by omega)
    have hw := h5 (zs.getD k 0) (by simp [List.getD, show k < zs.length by omega])
    have hb : 0 ≤ zs.getD k 0 ∧ zs.getD k 0 ≤ 255 := bounds_u8 hw
    refine ⟨by show (zs.getD k 0).toNat ≤ 255; omega, ?_⟩
    show w.cell? ⟨b, off + k, none⟩ = some (.int .u8 (((zs.getD k 0).toNat : Nat) : Int))
    rw [Int.toNat_of_nonneg hb.1]
    simpa [Addr.add_lit] using hck

theorem Vals.later {w w' : World} {A : Option Addr} {n : Nat} {f : Nat → Nat} (h : Vals w A n f) (hb : Below w.heap.size w w') : Byts w' w'.heap.size A n := (h.below hb).byts

end Go.Proofs.YtibekkfbpmloiabGreatDoor.Draw
