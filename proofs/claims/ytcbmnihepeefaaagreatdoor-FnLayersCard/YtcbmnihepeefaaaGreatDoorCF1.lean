/- Parts of several texts of mine in one file (each begins with its own remark). -/
import Derived.Test.YtcbmnihepeefaaaGreatDoorCA1
import Derived.Test.YtcbmnihepeefaaaGreatDoorCA10
import Derived.Test.YtcbmnihepeefaaaGreatDoorCA2
import Derived.Test.YtcbmnihepeefaaaGreatDoorCA3
import Derived.Test.YtcbmnihepeefaaaGreatDoorCA4
import Derived.Test.YtcbmnihepeefaaaGreatDoorCA5
import Derived.Test.YtcbmnihepeefaaaGreatDoorCA6
import Derived.Test.YtcbmnihepeefaaaGreatDoorCA7
import Derived.Test.YtcbmnihepeefaaaGreatDoorCA8
import Derived.Test.YtcbmnihepeefaaaGreatDoorCA9
import Derived.Test.YtcbmnihepeefaaaGreatDoorCB1
import Derived.Test.YtcbmnihepeefaaaGreatDoorCB10
import Derived.Test.YtcbmnihepeefaaaGreatDoorCB12
import Derived.Test.YtcbmnihepeefaaaGreatDoorCB15
import Derived.Test.YtcbmnihepeefaaaGreatDoorCB5
import Derived.Test.YtcbmnihepeefaaaGreatDoorCB6
import Derived.Test.YtcbmnihepeefaaaGreatDoorCB8
import Derived.Test.YtcbmnihepeefaaaGreatDoorCB9
import Derived.Test.YtcbmnihepeefaaaGreatDoorCC1
import Derived.Test.YtcbmnihepeefaaaGreatDoorCC2
import Derived.Test.YtcbmnihepeefaaaGreatDoorCD1
import Derived.Test.YtcbmnihepeefaaaGreatDoorCD2
import Derived.Test.YtcbmnihepeefaaaGreatDoorShelf
import Derived.Test.YtcbmnihepeefaaaGreatDoorChecked
import Derived.Test.YtcbmnihepeefaaaGreatDoorProg
import Derived.Test.YtcbmnihepeefaaaGreatDoorShelf2
import Derived.Test.YtcbmnihepeefaaaGreatDoorRows
import Derived.BigQuiet
import Derived.Laws.BytesArg
import Derived.Deep.QuietTactic
import Derived.Deep.RegionHeld3
import Derived.Deep.Draws
import Derived.Deep.LoopGhost
import Derived.WalkKit
import Derived.WalkSpells
import Derived.WalkSmall
import Derived.Lib.OthersKept
import Derived.Lib.Hide
import Derived.Lib.Strings
import Derived.Lib.Join
import Derived.Stop.LaidErr
import Derived.StillTailTactics
import Derived.Laws.OwnMore
import Derived.BigRegion
import Derived.Deep.Slices
import Derived.OpenShut
import Derived.ShutString
import Derived.ChangeArms
import Derived.WideShapes
import Derived.Lib.LaidTab
import Derived.WalkLawsBesides
import Derived.LaidEql
import Derived.Stop.Asserts
import Derived.Below
import Derived.Stop.LaidTwo
import Derived.Shelf.SlSortCmp.NoneTotal
import Derived.Sort.OwnSorted
import Derived.RangeFuncNested
import Derived.RangeFuncBound
import Derived.RangeFuncCalls
import Derived.RangeFuncLeaves
import Derived.RangeFuncBox
import Derived.Shelf.Abstract
import Derived.Shelf.RegionOpen
import Derived.OwnWalkIn
import Derived.TacticsInMore
import Derived.LoopNIn
import Derived.LoopIn
import Derived.Maps.OwnIn
import Derived.Maps.AppendAt
import Derived.Sort.MapsRangeIn
import Derived.Sort.KeysCollected
import Derived.Laws.IdiomRangeMap
import Derived.Maps.RangeWalk
import Derived.Maps.Ext
import Derived.Lib.SlMapFilter
import Derived.Deep.RegionWith
import Derived.OneCell
import Derived.Lib.SliceRun
import Derived.Lib.Overlaps
import Derived.Lib.AppendZerosOnto
import Derived.Laws.NewBlocks
import Derived.Laws.IdiomCopy
import Derived.Deep.RegionLaw
import Derived.ChangeVars
import Derived.Deep.DeepHandedRow
import Derived.Sort.Grow
import Derived.Deep.AppendLies
import Derived.Laws.EntriesVeiled
import Derived.Laws.AppendOwnNone
import Derived.RegionTactic
import Derived.IntWalk
/- Paths: JoinPath, of the program and of its model. -/
namespace Go.Proofs.YtcbmnihepeefaaaGreatDoor.Paths
open Go.RowKit

theorem JoinPost.name {d p : ByteArray} {w w' : World} (h : joinWay d p = 1) (hb : Below w.heap.size w w') : JoinPost d p w (.returned (.tuple #[.string ⟨#[]⟩, .int .i64 10])) w' := ⟨by unfold joinRes joinCode; rw [h]; rfl, hb⟩
end Go.Proofs.YtcbmnihepeefaaaGreatDoor.Paths

/- Layers: LayerFault and LayerOK of the model. -/
namespace Go.Proofs.YtcbmnihepeefaaaGreatDoor.Recs
set_option maxRecDepth 100000
open Go.RowKit Paths

theorem layerFault_spec (v : Value) (l : List R) (w : World) (h : RecSl w v l) (hl : l.length ≤ 1048576) :
    Calls Tryz.prog 49 #[v] w fun e w' => e = .returned (if 4096 < l.length then .tuple #[.int .i64 0, .int .i64 2] else .tuple #[.int .i64 (layerFaultL l).1, .int .i64 (layerFaultL l).2]) ∧ Below w.heap.size w w' := by
  have HC := l03Fault_any v l w h hl
  obtain ⟨A, cap, rfl, hcap, _⟩ := h
  by_cases h4 : 4096 < l.length
  · rw [if_pos h4]
    have hd : decide ((4096 : Int) < (l.length : Int)) = true := by simp; omega
    go_enter Tryz.func49, Tryz.ntmps49
    go_wp2_with fail
    go_ret2
    exact ⟨rfl, Below.refl _ _⟩
  · rw [if_neg h4]
    have hd : decide ((4096 : Int) < (l.length : Int)) = false := by simp; omega
    go_enter Tryz.func49, Tryz.ntmps49
    go_wp2_with fail
    refine HC.mono ?_
    rintro e w1 ⟨rfl, hb1⟩
    go_wp2_with fail
    go_ret2
    exact ⟨rfl, hb1⟩
end Go.Proofs.YtcbmnihepeefaaaGreatDoor.Recs

/- Layers: comparison of two lists of records, of the program and of its model. -/
namespace Go.Proofs.YtcbmnihepeefaaaGreatDoor.Recs
set_option maxRecDepth 100000
open Go.RowKit Paths

set_option maxHeartbeats 1600000 in
theorem l03Same_any (v1 v2 : Value) (A B : List R) (w : World) (h1 : RecSl w v1 A) (h2 : RecSl w v2 B) (hl : A.length ≤ 1048576) :
    Calls Tryz.prog 125 #[v1, v2] w fun e w' => e = .returned (.bool (decide (A = B))) ∧ ∃ n, w' = w.drewN n := by
  obtain ⟨a1, cap1, rfl, hcap1, h1⟩ := h1
  obtain ⟨a2, cap2, rfl, hcap2, h2⟩ := h2
  by_cases hL : A.length = B.length
  · have hne : ((A.length : Int) != (B.length : Int)) = false := by simp [hL]
    have HL := Lib.hid hL
    have H1 := Lib.hid h1
    have H2 := Lib.hid h2
    clear hL h1 h2
    go_enter Tryz.func125, Tryz.ntmps125
    go_wp2
    go_loopw [5] (fun i wr => ∃ k n : Nat, k ≤ A.length ∧ i = .int .i64 k ∧ wr = w.drewN n ∧ Hid (A.take k = B.take k)) (fun i _ => A.length - (intOf i).toNat)
    case atStart => exact ⟨0, 0, by omega, rfl, rfl, rfl⟩
    case round =>
      obtain ⟨k, n, hk, rfl, rfl, HK⟩ := hrel
      by_cases hlt : k < A.length
      · obtain ⟨b1, o1, rfl, hb1, hcell1⟩ := H1.out (by omega)
        have hL2 := HL.out
        have hlt2 : k < B.length := by omega
        obtain ⟨b2, o2, rfl, hb2, hcell2⟩ := H2.out (by omega)
        obtain ⟨c0, c1, c2, c3, c4⟩ := hcell1 k A[k] (by simp [hlt])
        obtain ⟨d0, d1, d2, d3, d4⟩ := hcell2 k B[k] (by simp [hlt2])
        clear hcell1 hcell2 hL2 H1 H2
        have hi1 : (k : Int) < (A.length : Int) := by omega
        have hi2 : (k : Int) < (B.length : Int) := by omega
        have hi0 : (0 : Int) ≤ (k : Int) := by omega
        rcases five A[k] B[k] with f0 | ⟨f0, f1⟩ | ⟨f0, f1, f2⟩ | ⟨f0, f1, f2, f3⟩ | ⟨f0, f1, f2, f3, f4⟩ | ⟨f0, f1, f2, f3, f4⟩
        · have HF := ne_at hlt hlt2 (fun e => by rw [e] at f0; simp at f0)
          go_wp2
          go_quiet (fail)
          go_wp2
          go_ret
          exact ⟨ret_bool (by simp [HF.out]), n + nq, World.drewN_drewN _ _ _⟩
        · have HF := ne_at hlt hlt2 (fun e => by rw [e] at f1; simp at f1)
          go_wp2
          go_quiet (fail)
          go_wp2
          go_ret
          exact ⟨ret_bool (by simp [HF.out]), n + nq, World.drewN_drewN _ _ _⟩
        · have HF := ne_at hlt hlt2 (fun e => by rw [e] at f2; simp at f2)
          go_wp2
          go_quiet (fail)
          go_wp2
          go_ret
          exact ⟨ret_bool (by simp [HF.out]), n + nq, World.drewN_drewN _ _ _⟩
        · have HF := ne_at hlt hlt2 (fun e => by rw [e] at f3; simp at f3)
          go_wp2
          go_quiet (fail)
          go_wp2
          go_ret
          exact ⟨ret_bool (by simp [HF.out]), n + nq, World.drewN_drewN _ _ _⟩
        · have HF := ne_at hlt hlt2 (fun e => by rw [e] at f4; simp at f4)
          go_wp2
          go_quiet (fail)
          go_wp2
          go_ret
          exact ⟨ret_bool (by simp [HF.out]), n + nq, World.drewN_drewN _ _ _⟩
        · have HT := Lib.hid (take_snoc_eq hlt hlt2 HK.out (rec_eq f0 f1 f2 f3 f4))
          go_wp2
          go_quiet (fail)
          go_wp2
          exact ⟨⟨k + 1, _, by omega, by go_num, rfl, HT⟩, by simp [intOf]; omega⟩
      · have HE : Hid (A = B) := by
          have hL2 := HL.out
          have := HK.out
          rw [List.take_of_length_le (by omega), List.take_of_length_le (by omega)] at this
          exact this
        go_wp2
        go_ret
        exact ⟨ret_bool (by simp [HE.out]), _, rfl⟩
  · have hne : ((A.length : Int) != (B.length : Int)) = true := by simp; omega
    have HE : Hid (¬ A = B) := fun e => hL (by rw [e])
    clear hL
    go_enter Tryz.func125, Tryz.ntmps125
    go_wp2
    go_ret
    exact ⟨ret_bool (by simp [HE.out]), 0, rfl⟩

end Go.Proofs.YtcbmnihepeefaaaGreatDoor.Recs

/- Apply, Changes of the model. -/
namespace Go.Proofs.YtcbmnihepeefaaaGreatDoor.Recs
set_option maxRecDepth 100000
open Go.RowKit Paths

theorem ln_long {l t : List R} (h : 4096 < l.length ∨ 4096 < t.length) : codeLN l t = 2 := if_pos h
theorem ln_bad {l t : List R} (h : ¬ (4096 < l.length ∨ 4096 < t.length)) (hb : layerOK l = false ∨ treeOK t = false) : codeLN l t = 1 := by
  unfold codeLN
  rw [if_neg h, if_neg]
  rcases hb with hb | hb <;> simp [hb]
theorem app_code {l t : List R} {c : Int} (h : codeLN l t = c) (hc : c ≠ 0) : appC l t = c ∧ appR l t = [] := by
  unfold appC appR
  rw [h, if_pos hc, if_pos hc]
  exact ⟨rfl, rfl⟩
set_option maxHeartbeats 1000000 in
theorem apply_spec (v u : Value) (l t : List R) (base : Nat) (w : World) (h : RecSl w v l) (hn : RowN w base u t.length t) (hl : l.length ≤ 1048576) (htl : t.length ≤ 1048576) :
    Calls Tryz.prog 40 #[v, u] w fun e w' => ∃ z, e = .returned (.tuple #[z, .int .i64 (appC l t)]) ∧ Below w.heap.size w w' ∧ RowN w' w.heap.size z (appR l t).length (appR l t) := by
  obtain ⟨vA, vcap, rfl⟩ := h.form
  obtain ⟨uA, ucap, rfl⟩ := own_form hn.2.1
  have HOK := l03OK_any _ l w h hl
  by_cases h1 : 4096 < l.length
  · have hd : decide ((4096 : Int) < (l.length : Int)) = true := by simp; omega
    have HRES := Lib.hid (app_code (show codeLN l t = 2 from ln_long (.inl h1)) (by decide))
    clear h1
    go_enter Tryz.func40, Tryz.ntmps40
    go_wp2_with fail
    go_ret2
    exact ⟨_, by rw [HRES.out.1]; rfl, (Below.refl _ _).alloc (Nat.le_refl _) _, by rw [HRES.out.2]; exact emptyN _ (Nat.le_refl _)⟩
  have hd1 : decide ((4096 : Int) < (l.length : Int)) = false := by simp; omega
  by_cases h2 : 4096 < t.length
  · have hd : decide ((4096 : Int) < (t.length : Int)) = true := by simp; omega
    have HRES := Lib.hid (app_code (show codeLN l t = 2 from ln_long (.inr h2)) (by decide))
    clear h1 h2
    go_enter Tryz.func40, Tryz.ntmps40
    go_wp2_with fail
    go_ret2
    exact ⟨_, by rw [HRES.out.1]; rfl, (Below.refl _ _).alloc (Nat.le_refl _) _, by rw [HRES.out.2]; exact emptyN _ (Nat.le_refl _)⟩
  have hd2 : decide ((4096 : Int) < (t.length : Int)) = false := by simp; omega
  have h12 : ¬ (4096 < l.length ∨ 4096 < t.length) := by omega
  cases ho : layerOK l with
  | false =>
    have HRES := Lib.hid (app_code (ln_bad h12 (.inl ho)) (by decide))
    rw [ho] at HOK
    clear h1 h2 h12 ho
    go_enter Tryz.func40, Tryz.ntmps40
    go_wp2_with fail
    refine HOK.mono ?_
    rintro e w1 ⟨rfl, hb1⟩
    have c0 := hb1
    go_wp2_with fail
    go_ret2
    exact ⟨_, by rw [HRES.out.1]; rfl, (c0).alloc c0.size _, by rw [HRES.out.2]; exact emptyN _ c0.size⟩
  | true =>
    rw [ho] at HOK
    have HTK : ∀ w', Below w.heap.size w w' → Calls Tryz.prog 94 #[.slice uA t.length ucap] w' fun e w'' => e = .returned (.bool (treeOK t)) ∧ Below w'.heap.size w' w'' := fun w' hb => l04OK_any _ t w' (hn.below hb).sl htl
    cases hto : treeOK t with
    | false =>
      have HRES := Lib.hid (app_code (ln_bad h12 (.inr hto)) (by decide))
      rw [hto] at HTK
      clear h1 h2 h12 ho hto
      go_enter Tryz.func40, Tryz.ntmps40
      go_wp2_with fail
      refine HOK.mono ?_
      rintro e w1 ⟨rfl, hb1⟩
      go_wp2_with fail
      refine (HTK _ hb1).mono ?_
      rintro e w2 ⟨rfl, hb2⟩
      have c0 := hb1.trans (hb2.mono hb1.size)
      go_wp2_with fail
      go_ret2
      exact ⟨_, by rw [HRES.out.1]; rfl, (c0).alloc c0.size _, by rw [HRES.out.2]; exact emptyN _ c0.size⟩
    | true =>
      have HRES := Lib.hid (app_fine (ln_fine h12 ho hto))
      have HZ0 := Lib.hid (ln_fine h12 ho hto)
      have HTR := Lib.hid (tree_of hto)
      have HLO := Lib.hid ho
      rw [hto] at HTK
      clear h1 h2 h12 ho hto
      go_enter Tryz.func40, Tryz.ntmps40
      go_wp2_with fail
      refine HOK.mono ?_
      rintro e w1 ⟨rfl, hb1⟩
      go_wp2_with fail
      refine (HTK _ hb1).mono ?_
      rintro e w2 ⟨rfl, hb2⟩
      have c0 := hb1.trans (hb2.mono hb1.size)
      have HAP := l05Apply_any _ _ l t base w2 (h.below c0) (hn.below c0) (layer_is HLO.out).path HTR.out.sorted HTR.out.is.path (by have h1 := layer_16 HLO.out; have h2 := HTR.out.len; omega)
      clear HTK HOK
      go_wp2_with fail
      refine HAP.mono ?_
      rintro e w3 ⟨z, rfl, hb3, hrow, hz⟩
      have c3 := c0.trans (hb3.mono c0.size)
      obtain ⟨zg, zcap, rfl, _, _, _, _⟩ := notnil hrow hz
      have HR := Lib.hid hrow
      clear hrow hz
      by_cases h24 : 24 < (applyL l t).length
      · have hd : decide ((24 : Int) < ((applyL l t).length : Int)) = true := by simp; omega
        have HX : Hid (limC (applyL l t) = 7 ∧ limL (applyL l t) = []) := ⟨if_pos h24, if_pos h24⟩
        clear h24
        go_wp2_with fail
        go_ret2
        exact ⟨_, by rw [HRES.out.1, HX.out.1]; rfl, c3.alloc c3.size _, by rw [HRES.out.2, HX.out.2]; exact emptyN _ c3.size⟩
      · have hd : decide ((24 : Int) < ((applyL l t).length : Int)) = false := by simp; omega
        have HX : Hid (limC (applyL l t) = 0 ∧ limL (applyL l t) = applyL l t) := ⟨if_neg h24, if_neg h24⟩
        clear h24
        go_wp2_with fail
        go_ret2
        exact ⟨_, by rw [HRES.out.1, HX.out.1]; rfl, c3, by rw [HRES.out.2, HX.out.2]; exact HR.out.down c0.size⟩

end Go.Proofs.YtcbmnihepeefaaaGreatDoor.Recs

/- The model's source of choices: strings that may be no paths; a source out of bytes; drawn paths. -/
namespace Go.Proofs.YtcbmnihepeefaaaGreatDoor.Draw
open Go.RowKit
open Paths

theorem pathDrawn_any (w : World) (A : Option Addr) (n cap : Nat) (hB : Byts w w.heap.size A n) (hn : n ≤ cap) :
    Calls Tryz.prog 41 #[.slice A n cap] w fun e w' => ∃ l, pathB l = true ∧ e = .returned (strV l) ∧ Below w.heap.size w w' := by
  have HB := Lib.hid hB
  clear hB
  go_enter Tryz.func41, Tryz.ntmps41
  go_wp2_with fail
  refine (source_any w A n cap HB.out hn).mono ?_
  rintro e w1 ⟨rfl, hs1, hb1⟩
  have HS1 := Lib.hid hs1
  clear hs1
  go_wp2_with fail
  refine (path_any w1 w.heap.size w.heap.size 0 HS1.out (by omega)).mono ?_
  rintro e w2 ⟨l, hl, rfl, hw2⟩
  have HL := Lib.hid hl
  have HB2 := Lib.hid (hb1.trans (hw2.belowB hb1.size))
  clear hl hw2
  go_wp2_with fail
  go_ret
  exact ⟨l, HL.out, rfl, HB2.out⟩

end Go.Proofs.YtcbmnihepeefaaaGreatDoor.Draw

/- The code of the errors of a call's arguments. Conditions: the table of kinds, the two sentinels. -/
namespace Go.Proofs.YtcbmnihepeefaaaGreatDoor.Recs
set_option maxRecDepth 100000
open Go.RowKit Paths Errs

def textK (s : ByteArray) : EK := if 65536 < s.size then .long else .fine
theorem checkText_any (s : ByteArray) (x : Addr) (w : World) (hx : w.cell? ⟨0, 0, none⟩ = some (errV x)) :
    Calls Tryz.prog 103 #[.string s] w fun e w' => e = .returned ((textK s).val x) ∧ w = w' := by
  unfold errV at hx
  by_cases h : 65536 < s.size
  · have hd : decide ((65536 : Int) < (s.size : Int)) = true := by simp; omega
    have HE : Hid ((textK s).val x = .iface 286 (.pointer (some x))) := by show _ = _; unfold textK; rw [if_pos h]; rfl
    go_enter Tryz.func103, Tryz.ntmps103
    go_wp2_with fail
    refine (longText_any s _).mono ?_
    rintro e w1 ⟨rfl, rfl⟩
    go_wp2_with fail
    go_ret
    exact ⟨ret_eq HE.out.symm, rfl⟩
  · have hd : decide ((65536 : Int) < (s.size : Int)) = false := by simp; omega
    have HE : Hid ((textK s).val x = .nilIface) := by show _ = _; unfold textK; rw [if_neg h]; rfl
    go_enter Tryz.func103, Tryz.ntmps103
    go_wp2_with fail
    refine (longText_any s _).mono ?_
    rintro e w1 ⟨rfl, rfl⟩
    go_wp2_with fail
    go_ret
    exact ⟨ret_eq HE.out.symm, rfl⟩

/-- The code of a call with a layer and a text. -/
def codeLT (l : List R) (s : ByteArray) : Int := if 4096 < l.length ∨ 65536 < s.size then 2 else if layerOK l then 0 else 1
theorem arg_lt (l : List R) (s : ByteArray) : argFrom [checkK l, textK s] 0 = codeLT l s := by
  by_cases h1 : 4096 < l.length <;> by_cases h2 : 65536 < s.size <;> by_cases h3 : (layerFaultL l).2 = 0 <;> simp [checkK, textK, codeLT, argFrom, layerOK, h1, h2, h3]
end Go.Proofs.YtcbmnihepeefaaaGreatDoor.Recs

/- Layers: FindRecord, of the program and of its model. Conditions (of the program's): the table of kinds, the two sentinels. -/
namespace Go.Proofs.YtcbmnihepeefaaaGreatDoor.Recs
set_option maxRecDepth 100000
open Go.RowKit Paths Errs

def findF (l : List R) (q : ByteArray) : R × Int := if codeLT l q ≠ 0 then (zR, codeLT l q) else if atL l q < 0 then (zR, 5) else ((l[(atL l q).toNat]?).getD zR, 0)
def findV (l : List R) (q : ByteArray) : Value := .tuple #[(findF l q).1.val, .int .i64 (findF l q).2]
theorem find_code {l : List R} {q : ByteArray} {c : Int} (hc : codeLT l q = c) (h : c ≠ 0) : findV l q = .tuple #[.agg #[.int .i64 0, .string ⟨#[]⟩, .string ⟨#[]⟩, .int .i64 0, .bool false], .int .i64 c] := by
  unfold findV findF; rw [hc, if_pos h]; rfl
theorem find_none {l : List R} {q : ByteArray} (h : codeLT l q = 0) (ha : atL l q = -1) : findV l q = .tuple #[.agg #[.int .i64 0, .string ⟨#[]⟩, .string ⟨#[]⟩, .int .i64 0, .bool false], .int .i64 5] := by
  unfold findV findF; rw [if_neg (by simpa using h), if_pos (by rw [ha]; decide)]; rfl
theorem find_here {l : List R} {q : ByteArray} {j : Nat} (h : codeLT l q = 0) (hj : j < l.length) (ha : atL l q = (j : Int)) : findV l q = .tuple #[.agg #[.int .i64 l[j].k, .string l[j].p, .string l[j].b, .int .i64 l[j].m, .bool l[j].o], .int .i64 0] := by
  unfold findV findF; rw [if_neg (by simpa using h), if_neg (by omega), ha, Int.toNat_natCast, List.getElem?_eq_getElem hj]; rfl
theorem text_not {q : ByteArray} {i c : Int} : textK q ≠ .bad i c := by unfold textK; split <;> simp

set_option maxHeartbeats 1600000 in
theorem findRecord_impl (v : Value) (l : List R) (q : ByteArray) (x y : Addr) (w : World) (h : RecSl w v l) (hl : l.length ≤ 1048576) (hr : ∀ r ∈ l, r.p.size ≤ maxLen) (hT : Three w x y) :
    Calls Tryz.prog 42 #[v, .string q] w fun e w' => e = .returned (findV l q) ∧ Below w.heap.size w w' := by
  have hb0 : Below w.heap.size w (w.alloc (.cells #[.int .i64 0, .string ByteArray.empty, .string ByteArray.empty, .int .i64 0, .bool false] 26)) := (Below.refl _ _).alloc (Nat.le_refl _) _
  have hT0 := hT.below hb0 (Nat.le_refl _)
  have HC := checkLayer_any v l x _ (h.below hb0) hl hr hT0.tab hT0.long
  rw [← checkK_val] at HC
  have hsl := h
  obtain ⟨A, cap, rfl, hcap, h⟩ := h
  cases hk : checkK l with
  | fine =>
    rw [hk] at HC
    unfold EK.val at HC
    cases ht : textK q with
    | fine =>
      have H0 := Lib.hid (show codeLT l q = 0 by rw [← arg_lt, hk, ht]; rfl)
      go_enter Tryz.func42, Tryz.ntmps42
      go_wp2_with fail
      refine HC.mono ?_
      rintro e w1 ⟨rfl, hb1⟩
      have c1 := hb0.trans (hb1.mono hb0.size)
      have hT1 := hT.below c1 (Nat.le_refl _)
      obtain ⟨hc1, hf1⟩ := bcell hb1
      have hz1 : w.heap.size < w1.heap.size := by have := hb1.size; simp at this; omega
      have HX := checkText_any q x w1 hT1.long
      rw [ht] at HX
      have HA := arg2_any .fine .fine x y w1 hT1
      unfold EK.val at HX HA
      unfold errV at HX HA
      unfold recV at HA
      go_wp2_with fail
      refine HX.mono ?_
      rintro e w2 ⟨rfl, rfl⟩
      go_wp2_with fail
      refine HA.mono ?_
      rintro e w3 ⟨rfl, hb3⟩
      have c3 := c1.trans (hb3.mono c1.size)
      obtain ⟨hc3, hf3⟩ := bcell hb3
      have hz3 : w.heap.size < w3.heap.size := by have := hb3.size; omega
      have hcode : argFrom [.fine, .fine] 0 = 0 := rfl
      rw [hcode]
      go_wp2_with fail
      refine (indexOfPath_any _ l _ _ (hsl.below c3) hl).mono ?_
      rintro e w4 ⟨rfl, hb4⟩
      have c4 := c3.trans (hb4.mono c3.size)
      obtain ⟨hc4, hf4⟩ := bcell hb4
      have hz4 : w.heap.size < w4.heap.size := by have := hb4.size; omega
      rcases atL_cases l q with ⟨ha, _⟩ | ⟨j, hj, ha, -⟩
      · have HE := Lib.hid (find_none H0.out ha)
        rw [ha]
        go_wp2_with fail
        refine bodyPost_ret (v := .tuple #[.agg #[.int .i64 0, .string ⟨#[]⟩, .string ⟨#[]⟩, .int .i64 0, .bool false], .int .i64 5]) (by simp [results, Tryz.results42, go_sem, hc4, hc3, hc1, hz1, hz3]) rfl ⟨ret_eq HE.out.symm, ?_⟩
        repeat (refine Below.setCell ?_ (by simp) _)
        exact c4
      · have HE := Lib.hid (find_here H0.out hj ha)
        obtain ⟨b, off, rfl, hb, hcell⟩ := h (by omega)
        obtain ⟨f0, f1, f2, f3, f4⟩ := (hcell j l[j] (by simp [hj])).below c4 hb
        have j1 : (0 : Int) ≤ (j : Int) := by omega
        have j2 : (j : Int) < (l.length : Int) := by omega
        have j3 : decide ((j : Int) < 0) = false := by simp
        rw [ha]
        clear ha hcell
        go_wp2_with fail
        refine bodyPost_ret (v := .tuple #[.agg #[.int .i64 l[j].k, .string l[j].p, .string l[j].b, .int .i64 l[j].m, .bool l[j].o], .int .i64 0]) (by simp [results, Tryz.results42, go_sem, hc4, hc3, hc1, hz1, hz3]) rfl ⟨ret_eq HE.out.symm, ?_⟩
        repeat (refine Below.setCell ?_ (by simp) _)
        exact c4
    | long =>
      have HE := Lib.hid (find_code (l := l) (q := q) (c := 2) (by rw [← arg_lt, hk, ht]; rfl) (by decide))
      go_enter Tryz.func42, Tryz.ntmps42
      go_wp2_with fail
      refine HC.mono ?_
      rintro e w1 ⟨rfl, hb1⟩
      have c1 := hb0.trans (hb1.mono hb0.size)
      have hT1 := hT.below c1 (Nat.le_refl _)
      obtain ⟨hc1, hf1⟩ := bcell hb1
      have hz1 : w.heap.size < w1.heap.size := by have := hb1.size; simp at this; omega
      have HX := checkText_any q x w1 hT1.long
      rw [ht] at HX
      have HA := arg2_any .fine .long x y w1 hT1
      unfold EK.val at HX HA
      unfold errV at HX HA
      unfold recV at HA
      go_wp2_with fail
      refine HX.mono ?_
      rintro e w2 ⟨rfl, rfl⟩
      go_wp2_with fail
      refine HA.mono ?_
      rintro e w3 ⟨rfl, hb3⟩
      have c3 := c1.trans (hb3.mono c1.size)
      obtain ⟨hc3, hf3⟩ := bcell hb3
      have hz3 : w.heap.size < w3.heap.size := by have := hb3.size; omega
      have hcode : argFrom [.fine, .long] 0 = 2 := rfl
      rw [hcode]
      go_wp2_with fail
      refine bodyPost_ret (v := .tuple #[.agg #[.int .i64 0, .string ⟨#[]⟩, .string ⟨#[]⟩, .int .i64 0, .bool false], .int .i64 2]) (by simp [results, Tryz.results42, go_sem, hc3, hc1, hz1]) rfl ⟨ret_eq HE.out.symm, ?_⟩
      repeat (refine Below.setCell ?_ (by simp) _)
      exact c3
    | bad i c => exact absurd ht text_not
  | long =>
    rw [hk] at HC
    unfold EK.val errV at HC
    cases ht : textK q with
    | fine =>
      have HE := Lib.hid (find_code (l := l) (q := q) (c := 2) (by rw [← arg_lt, hk, ht]; rfl) (by decide))
      go_enter Tryz.func42, Tryz.ntmps42
      go_wp2_with fail
      refine HC.mono ?_
      rintro e w1 ⟨rfl, hb1⟩
      have c1 := hb0.trans (hb1.mono hb0.size)
      have hT1 := hT.below c1 (Nat.le_refl _)
      obtain ⟨hc1, hf1⟩ := bcell hb1
      have hz1 : w.heap.size < w1.heap.size := by have := hb1.size; simp at this; omega
      have HX := checkText_any q x w1 hT1.long
      rw [ht] at HX
      have HA := arg2_any .long .fine x y w1 hT1
      unfold EK.val at HX HA
      unfold errV at HX HA
      unfold recV at HA
      go_wp2_with fail
      refine HX.mono ?_
      rintro e w2 ⟨rfl, rfl⟩
      go_wp2_with fail
      refine HA.mono ?_
      rintro e w3 ⟨rfl, hb3⟩
      have c3 := c1.trans (hb3.mono c1.size)
      obtain ⟨hc3, hf3⟩ := bcell hb3
      have hz3 : w.heap.size < w3.heap.size := by have := hb3.size; omega
      have hcode : argFrom [.long, .fine] 0 = 2 := rfl
      rw [hcode]
      go_wp2_with fail
      refine bodyPost_ret (v := .tuple #[.agg #[.int .i64 0, .string ⟨#[]⟩, .string ⟨#[]⟩, .int .i64 0, .bool false], .int .i64 2]) (by simp [results, Tryz.results42, go_sem, hc3, hc1, hz1]) rfl ⟨ret_eq HE.out.symm, ?_⟩
      repeat (refine Below.setCell ?_ (by simp) _)
      exact c3
    | long =>
      have HE := Lib.hid (find_code (l := l) (q := q) (c := 2) (by rw [← arg_lt, hk, ht]; rfl) (by decide))
      go_enter Tryz.func42, Tryz.ntmps42
      go_wp2_with fail
      refine HC.mono ?_
      rintro e w1 ⟨rfl, hb1⟩
      have c1 := hb0.trans (hb1.mono hb0.size)
      have hT1 := hT.below c1 (Nat.le_refl _)
      obtain ⟨hc1, hf1⟩ := bcell hb1
      have hz1 : w.heap.size < w1.heap.size := by have := hb1.size; simp at this; omega
      have HX := checkText_any q x w1 hT1.long
      rw [ht] at HX
      have HA := arg2_any .long .long x y w1 hT1
      unfold EK.val at HX HA
      unfold errV at HX HA
      unfold recV at HA
      go_wp2_with fail
      refine HX.mono ?_
      rintro e w2 ⟨rfl, rfl⟩
      go_wp2_with fail
      refine HA.mono ?_
      rintro e w3 ⟨rfl, hb3⟩
      have c3 := c1.trans (hb3.mono c1.size)
      obtain ⟨hc3, hf3⟩ := bcell hb3
      have hz3 : w.heap.size < w3.heap.size := by have := hb3.size; omega
      have hcode : argFrom [.long, .long] 0 = 2 := rfl
      rw [hcode]
      go_wp2_with fail
      refine bodyPost_ret (v := .tuple #[.agg #[.int .i64 0, .string ⟨#[]⟩, .string ⟨#[]⟩, .int .i64 0, .bool false], .int .i64 2]) (by simp [results, Tryz.results42, go_sem, hc3, hc1, hz1]) rfl ⟨ret_eq HE.out.symm, ?_⟩
      repeat (refine Below.setCell ?_ (by simp) _)
      exact c3
    | bad i c => exact absurd ht text_not
  | bad i c =>
    rw [hk] at HC
    unfold EK.val recV at HC
    cases ht : textK q with
    | fine =>
      have HE := Lib.hid (find_code (l := l) (q := q) (c := 1) (by rw [← arg_lt, hk, ht]; rfl) (by decide))
      go_enter Tryz.func42, Tryz.ntmps42
      go_wp2_with fail
      refine HC.mono ?_
      rintro e w1 ⟨rfl, hb1⟩
      have c1 := hb0.trans (hb1.mono hb0.size)
      have hT1 := hT.below c1 (Nat.le_refl _)
      obtain ⟨hc1, hf1⟩ := bcell hb1
      have hz1 : w.heap.size < w1.heap.size := by have := hb1.size; simp at this; omega
      have HX := checkText_any q x w1 hT1.long
      rw [ht] at HX
      have HA := arg2_any (.bad i c) .fine x y w1 hT1
      unfold EK.val at HX HA
      unfold errV at HX HA
      unfold recV at HA
      go_wp2_with fail
      refine HX.mono ?_
      rintro e w2 ⟨rfl, rfl⟩
      go_wp2_with fail
      refine HA.mono ?_
      rintro e w3 ⟨rfl, hb3⟩
      have c3 := c1.trans (hb3.mono c1.size)
      obtain ⟨hc3, hf3⟩ := bcell hb3
      have hz3 : w.heap.size < w3.heap.size := by have := hb3.size; omega
      have hcode : argFrom [(.bad i c), .fine] 0 = 1 := rfl
      rw [hcode]
      go_wp2_with fail
      refine bodyPost_ret (v := .tuple #[.agg #[.int .i64 0, .string ⟨#[]⟩, .string ⟨#[]⟩, .int .i64 0, .bool false], .int .i64 1]) (by simp [results, Tryz.results42, go_sem, hc3, hc1, hz1]) rfl ⟨ret_eq HE.out.symm, ?_⟩
      repeat (refine Below.setCell ?_ (by simp) _)
      exact c3
    | long =>
      have HE := Lib.hid (find_code (l := l) (q := q) (c := 2) (by rw [← arg_lt, hk, ht]; rfl) (by decide))
      go_enter Tryz.func42, Tryz.ntmps42
      go_wp2_with fail
      refine HC.mono ?_
      rintro e w1 ⟨rfl, hb1⟩
      have c1 := hb0.trans (hb1.mono hb0.size)
      have hT1 := hT.below c1 (Nat.le_refl _)
      obtain ⟨hc1, hf1⟩ := bcell hb1
      have hz1 : w.heap.size < w1.heap.size := by have := hb1.size; simp at this; omega
      have HX := checkText_any q x w1 hT1.long
      rw [ht] at HX
      have HA := arg2_any (.bad i c) .long x y w1 hT1
      unfold EK.val at HX HA
      unfold errV at HX HA
      unfold recV at HA
      go_wp2_with fail
      refine HX.mono ?_
      rintro e w2 ⟨rfl, rfl⟩
      go_wp2_with fail
      refine HA.mono ?_
      rintro e w3 ⟨rfl, hb3⟩
      have c3 := c1.trans (hb3.mono c1.size)
      obtain ⟨hc3, hf3⟩ := bcell hb3
      have hz3 : w.heap.size < w3.heap.size := by have := hb3.size; omega
      have hcode : argFrom [(.bad i c), .long] 0 = 2 := rfl
      rw [hcode]
      go_wp2_with fail
      refine bodyPost_ret (v := .tuple #[.agg #[.int .i64 0, .string ⟨#[]⟩, .string ⟨#[]⟩, .int .i64 0, .bool false], .int .i64 2]) (by simp [results, Tryz.results42, go_sem, hc3, hc1, hz1]) rfl ⟨ret_eq HE.out.symm, ?_⟩
      repeat (refine Below.setCell ?_ (by simp) _)
      exact c3
    | bad i c => exact absurd ht text_not

set_option maxHeartbeats 800000 in
theorem findRecord_spec (v : Value) (l : List R) (q : ByteArray) (w : World) (h : RecSl w v l) (hl : l.length ≤ 1048576) :
    Calls Tryz.prog 43 #[v, .string q] w fun e w' => e = .returned (findV l q) ∧ Below w.heap.size w w' := by
  have hb0 : Below w.heap.size w (w.alloc (.cells #[.int .i64 0, .string ByteArray.empty, .string ByteArray.empty, .int .i64 0, .bool false] 26)) := (Below.refl _ _).alloc (Nat.le_refl _) _
  have HC := l03OK_any v l _ (h.below hb0) hl
  have hsl := h
  obtain ⟨A, cap, rfl, hcap, h⟩ := h
  by_cases h4 : 4096 < l.length
  · have HE := Lib.hid (find_code (l := l) (q := q) (c := 2) (by unfold codeLT; rw [if_pos (.inl h4)]) (by decide))
    have hd : decide ((4096 : Int) < (l.length : Int)) = true := by simp; omega
    go_enter Tryz.func43, Tryz.ntmps43
    go_wp2_with fail
    refine bodyPost_ret (v := .tuple #[.agg #[.int .i64 0, .string ⟨#[]⟩, .string ⟨#[]⟩, .int .i64 0, .bool false], .int .i64 2]) (by simp [results, Tryz.results43, go_sem]) rfl ⟨ret_eq HE.out.symm, hb0⟩
  have hd4 : decide ((4096 : Int) < (l.length : Int)) = false := by simp; omega
  by_cases h5 : 65536 < q.size
  · have HE := Lib.hid (find_code (l := l) (q := q) (c := 2) (by unfold codeLT; rw [if_pos (.inr h5)]) (by decide))
    have hd : decide ((65536 : Int) < (q.size : Int)) = true := by simp; omega
    go_enter Tryz.func43, Tryz.ntmps43
    go_wp2_with fail
    refine bodyPost_ret (v := .tuple #[.agg #[.int .i64 0, .string ⟨#[]⟩, .string ⟨#[]⟩, .int .i64 0, .bool false], .int .i64 2]) (by simp [results, Tryz.results43, go_sem]) rfl ⟨ret_eq HE.out.symm, hb0⟩
  have hd5 : decide ((65536 : Int) < (q.size : Int)) = false := by simp; omega
  have HL : Hid (codeLT l q = if layerOK l then 0 else 1) := by show _ = _; unfold codeLT; rw [if_neg (by omega)]
  rcases Bool.eq_false_or_eq_true (layerOK l) with hk | hk
  case inr =>
    have HE := Lib.hid (find_code (l := l) (q := q) (c := 1) (by rw [HL.out, hk]; rfl) (by decide))
    rw [hk] at HC
    go_enter Tryz.func43, Tryz.ntmps43
    go_wp2_with fail
    refine HC.mono ?_
    rintro e w1 ⟨rfl, hb1⟩
    have c1 := hb0.trans (hb1.mono hb0.size)
    obtain ⟨hc1, hf1⟩ := bcell hb1
    have hz1 : w.heap.size < w1.heap.size := by have := hb1.size; simp at this; omega
    go_wp2_with fail
    refine bodyPost_ret (v := .tuple #[.agg #[.int .i64 0, .string ⟨#[]⟩, .string ⟨#[]⟩, .int .i64 0, .bool false], .int .i64 1]) (by simp [results, Tryz.results43, go_sem, hc1]) rfl ⟨ret_eq HE.out.symm, ?_⟩
    repeat (refine Below.setCell ?_ (by simp) _)
    exact c1
  have H0 : Hid (codeLT l q = 0) := by show _ = _; rw [HL.out, hk]; rfl
  rw [hk] at HC
  go_enter Tryz.func43, Tryz.ntmps43
  go_wp2_with fail
  refine HC.mono ?_
  rintro e w1 ⟨rfl, hb1⟩
  have c1 := hb0.trans (hb1.mono hb0.size)
  obtain ⟨hc1, hf1⟩ := bcell hb1
  have hz1 : w.heap.size < w1.heap.size := by have := hb1.size; simp at this; omega
  go_wp2_with fail
  refine (l03At_any _ l _ _ (hsl.below c1) hl).mono ?_
  rintro e w2 ⟨rfl, rfl⟩
  rcases atL_cases l q with ⟨ha, _⟩ | ⟨j, hj, ha, -⟩
  · have HE := Lib.hid (find_none H0.out ha)
    rw [ha]
    go_wp2_with fail
    refine bodyPost_ret (v := .tuple #[.agg #[.int .i64 0, .string ⟨#[]⟩, .string ⟨#[]⟩, .int .i64 0, .bool false], .int .i64 5]) (by simp [results, Tryz.results43, go_sem, hc1]) rfl ⟨ret_eq HE.out.symm, ?_⟩
    repeat (refine Below.setCell ?_ (by simp) _)
    exact c1
  · have HE := Lib.hid (find_here H0.out hj ha)
    obtain ⟨b, off, rfl, hb, hcell⟩ := h (by omega)
    obtain ⟨f0, f1, f2, f3, f4⟩ := (hcell j l[j] (by simp [hj])).below c1 hb
    obtain ⟨e0, e1, e2, e3, e4⟩ := hcell j l[j] (by simp [hj])
    have hbz : b < w.heap.size + 1 := by omega
    have j1 : (0 : Int) ≤ (j : Int) := by omega
    have j2 : (j : Int) < (l.length : Int) := by omega
    have j3 : decide ((j : Int) < 0) = false := by simp
    rw [ha]
    clear ha hcell
    go_wp2_with fail
    refine bodyPost_ret (v := .tuple #[.agg #[.int .i64 l[j].k, .string l[j].p, .string l[j].b, .int .i64 l[j].m, .bool l[j].o], .int .i64 0]) (by simp [results, Tryz.results43, go_sem, hc1]) rfl ⟨ret_eq HE.out.symm, ?_⟩
    repeat (refine Below.setCell ?_ (by simp) _)
    exact c1
end Go.Proofs.YtcbmnihepeefaaaGreatDoor.Recs

/- The choice that some bytes make (laws.at), as a plain function of the bytes. -/
namespace Go.Proofs.YtcbmnihepeefaaaGreatDoor.Draw
open Go.RowKit

theorem atN_range {f : Nat → Nat} {n : Nat} {i k : Int} (hk : 2 ≤ k) : 0 ≤ atN f n i k ∧ atN f n i k < k := by
  unfold atN
  split
  · exact ⟨Int.emod_nonneg _ (by omega), Int.emod_lt_of_pos _ (by omega)⟩
  · exact ⟨Int.emod_nonneg _ (by omega), Int.emod_lt_of_pos _ (by omega)⟩
end Go.Proofs.YtcbmnihepeefaaaGreatDoor.Draw

/- For laws that look at layers: the laws' own comparison of lists of records; their choice among one. -/
namespace Go.Proofs.YtcbmnihepeefaaaGreatDoor.Recs
set_option maxRecDepth 100000
open Go.RowKit Paths

theorem atK_range {f : Nat → Nat} {n : Nat} {i k : Int} (hk : 1 ≤ k) : 0 ≤ atK f n i k ∧ atK f n i k < k := by
  unfold atK
  split
  · omega
  · exact Draw.atN_range (by omega)
theorem recs_new (w : World) (r : R) : RecCells (w.alloc (.cells #[.int .i64 r.k, .string r.p, .string r.b, .int .i64 r.m, .bool r.o] 26)) w.heap.size 0 r := ⟨by go_simp, by go_simp, by go_simp, by go_simp, by go_simp⟩
end Go.Proofs.YtcbmnihepeefaaaGreatDoor.Recs
