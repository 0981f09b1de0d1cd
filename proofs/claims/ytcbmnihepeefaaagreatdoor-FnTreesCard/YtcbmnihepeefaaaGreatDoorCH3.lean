/- Parts of several texts of mine in one file (each begins with its own remark). -/
import Derived.Test.YtcbmnihepeefaaaGreatDoorCA1
import Derived.Test.YtcbmnihepeefaaaGreatDoorCA10
import Derived.Test.YtcbmnihepeefaaaGreatDoorCA2
import Derived.Test.YtcbmnihepeefaaaGreatDoorCA3
import Derived.Test.YtcbmnihepeefaaaGreatDoorCA4
import Derived.Test.YtcbmnihepeefaaaGreatDoorCA5
import Derived.Test.YtcbmnihepeefaaaGreatDoorCA6
import Derived.Test.YtcbmnihepeefaaaGreatDoorCA7
import Derived.Test.YtcbmnihepeefaaaGreatDoorCA8
import Derived.Test.YtcbmnihepeefaaaGreatDoorCA9
import Derived.Test.YtcbmnihepeefaaaGreatDoorCB1
import Derived.Test.YtcbmnihepeefaaaGreatDoorCB10
import Derived.Test.YtcbmnihepeefaaaGreatDoorCB11
import Derived.Test.YtcbmnihepeefaaaGreatDoorCB3
import Derived.Test.YtcbmnihepeefaaaGreatDoorCB4
import Derived.Test.YtcbmnihepeefaaaGreatDoorCB5
import Derived.Test.YtcbmnihepeefaaaGreatDoorCH1
import Derived.Test.YtcbmnihepeefaaaGreatDoorCH2
import Derived.Test.YtcbmnihepeefaaaGreatDoorChecked
import Derived.Test.YtcbmnihepeefaaaGreatDoorShelf
import Derived.Test.YtcbmnihepeefaaaGreatDoorProg
import Derived.Test.YtcbmnihepeefaaaGreatDoorRows
import Derived.Deep.RegionWith
import Derived.StillTailTactics
import Derived.Laws.OwnMore
import Derived.BigQuiet
import Derived.BigRegion
import Derived.Deep.QuietTactic
import Derived.Deep.RegionHeld3
import Derived.Deep.Slices
import Derived.OpenShut
import Derived.ShutString
import Derived.ChangeArms
import Derived.WideShapes
import Derived.Lib.LaidTab
import Derived.Deep.Draws
import Derived.Deep.LoopGhost
import Derived.WalkKit
import Derived.WalkSpells
import Derived.WalkSmall
import Derived.Lib.OthersKept
import Derived.Lib.Hide
import Derived.Lib.Strings
import Derived.Lib.Join
import Derived.Laws.BytesArg
import Derived.Stop.LaidErr
import Derived.WalkLawsBesides
import Derived.LaidEql
import Derived.Stop.Asserts
import Derived.Below
import Derived.Stop.LaidTwo
import Derived.OneCell
import Derived.Lib.SliceRun
import Derived.Lib.Overlaps
import Derived.Lib.AppendZerosOnto
import Derived.Laws.NewBlocks
import Derived.Laws.IdiomCopy
import Derived.Deep.RegionLaw
import Derived.ChangeVars
import Derived.Deep.DeepHandedRow
import Derived.Laws.EntriesVeiled
import Derived.Deep.AppendLies
/- Trees: FindNode, of the program and of its model. Conditions (of the program's): the table of kinds, the two sentinels. -/
namespace Go.Proofs.YtcbmnihepeefaaaGreatDoor.Recs
set_option maxRecDepth 100000
open Go.RowKit Paths Errs

/-- The code of a call's arguments, of the model. -/
theorem l04Ask_any (v : Value) (l : List R) (q : ByteArray) (w : World) (h : NodSl w v l) (hl : l.length ≤ 1048576) :
    Calls Tryz.prog 105 #[v, .string q] w fun e w' => e = .returned (.int .i64 (codeTT l q)) ∧ Below w.heap.size w w' := by
  have HC := l04OK_any v l w h hl
  obtain ⟨_, sA, cap, rfl, hcap, _⟩ := h
  by_cases h4 : 4096 < l.length
  · have HE : Hid (codeTT l q = 2) := by show _ = _; unfold codeTT; rw [if_pos (.inl h4)]
    have hd : decide ((4096 : Int) < (l.length : Int)) = true := by simp; omega
    go_enter Tryz.func105, Tryz.ntmps105
    go_wp2_with fail
    go_ret
    exact ⟨ret_int HE.out.symm, Below.refl _ _⟩
  have hd4 : decide ((4096 : Int) < (l.length : Int)) = false := by simp; omega
  by_cases h5 : 65536 < q.size
  · have HE : Hid (codeTT l q = 2) := by show _ = _; unfold codeTT; rw [if_pos (.inr h5)]
    have hd : decide ((65536 : Int) < (q.size : Int)) = true := by simp; omega
    go_enter Tryz.func105, Tryz.ntmps105
    go_wp2_with fail
    go_ret
    exact ⟨ret_int HE.out.symm, Below.refl _ _⟩
  have hd5 : decide ((65536 : Int) < (q.size : Int)) = false := by simp; omega
  have HL : Hid (codeTT l q = if treeOK l then 0 else 1) := by show _ = _; unfold codeTT; rw [if_neg (by omega)]
  cases hk : treeOK l with
  | true =>
    rw [hk] at HL HC
    go_enter Tryz.func105, Tryz.ntmps105
    go_wp2_with fail
    refine HC.mono ?_
    rintro e w1 ⟨rfl, hb1⟩
    go_wp2_with fail
    go_ret
    exact ⟨ret_int HL.out.symm, hb1⟩
  | false =>
    rw [hk] at HL HC
    go_enter Tryz.func105, Tryz.ntmps105
    go_wp2_with fail
    refine HC.mono ?_
    rintro e w1 ⟨rfl, hb1⟩
    go_wp2_with fail
    go_ret
    exact ⟨ret_int HL.out.symm, hb1⟩
theorem code_tree {l : List R} {q : ByteArray} (h : codeTT l q = 0) : Tree l := by
  unfold codeTT at h
  split at h
  · omega
  · split at h
    · exact tree_of (by assumption)
    · omega
def nodF (l : List R) (q : ByteArray) : R × Int := if codeTT l q ≠ 0 then (zN, codeTT l q) else if pathB q.data.toList then findT l q else (zN, 10)
def nodV (l : List R) (q : ByteArray) : Value := .tuple #[(nodF l q).1.nod, .int .i64 (nodF l q).2]
theorem nod_code {l : List R} {q : ByteArray} {c : Int} (hc : codeTT l q = c) (h : c ≠ 0) : nodV l q = .tuple #[.agg #[.int .i64 0, .string ⟨#[]⟩, .string ⟨#[]⟩, .int .i64 0], .int .i64 c] := by
  unfold nodV nodF; rw [hc, if_pos h]; rfl
theorem nod_name {l : List R} {q : ByteArray} (hc : codeTT l q = 0) (h : pathB q.data.toList = false) : nodV l q = .tuple #[.agg #[.int .i64 0, .string ⟨#[]⟩, .string ⟨#[]⟩, .int .i64 0], .int .i64 10] := by
  unfold nodV nodF; rw [if_neg (by simpa using hc), h]; rfl
theorem nod_find {l : List R} {q : ByteArray} (hc : codeTT l q = 0) (h : pathB q.data.toList = true) : nodV l q = foundV l q := by
  unfold nodV nodF; rw [if_neg (by simpa using hc), h]; rfl
theorem found_here {l : List R} {q : ByteArray} {r : R} (h : recAt l q = some r) : foundV l q = .tuple #[.agg #[.int .i64 r.k, .string r.p, .string r.b, .int .i64 r.m], .int .i64 0] ∧ (findT l q).2 = 0 := by
  unfold foundV findT; rw [h]; exact ⟨rfl, rfl⟩
theorem found_not {l : List R} {q : ByteArray} (h : recAt l q = none) : foundV l q = .tuple #[.agg #[.int .i64 0, .string ⟨#[]⟩, .string ⟨#[]⟩, .int .i64 0], .int .i64 (findT l q).2] ∧ (findT l q).2 ≠ 0 := by
  unfold foundV findT
  rw [h]
  refine ⟨rfl, ?_⟩
  show (if blocked l q = true then (13 : Int) else 5) ≠ 0
  split <;> decide

set_option maxHeartbeats 800000 in
theorem findNode_spec (v : Value) (l : List R) (q : ByteArray) (w : World) (h : NodSl w v l) (hl : l.length ≤ 1048576) :
    Calls Tryz.prog 21 #[v, .string q] w fun e w' => e = .returned (nodV l q) ∧ Below w.heap.size w w' := by
  have hb0 : Below w.heap.size w (w.alloc (.cells #[.int .i64 0, .string ByteArray.empty, .string ByteArray.empty, .int .i64 0] 29)) := (Below.refl _ _).alloc (Nat.le_refl _) _
  have HC := l04Ask_any v l q _ (h.below hb0) hl
  have hsl := h
  obtain ⟨_, sA, cap, rfl, hcap, _⟩ := h
  by_cases h4 : 4096 < l.length
  · have HE := Lib.hid (nod_code (l := l) (q := q) (c := 2) (by unfold codeTT; rw [if_pos (.inl h4)]) (by decide))
    have hd : decide ((4096 : Int) < (l.length : Int)) = true := by simp; omega
    go_enter Tryz.func21, Tryz.ntmps21
    go_wp2_with fail
    refine bodyPost_ret (v := .tuple #[.agg #[.int .i64 0, .string ⟨#[]⟩, .string ⟨#[]⟩, .int .i64 0], .int .i64 2]) (by simp [results, Tryz.results21, go_sem]) rfl ⟨by rw [HE.out], hb0⟩
  have hd4 : decide ((4096 : Int) < (l.length : Int)) = false := by simp; omega
  by_cases h5 : 65536 < q.size
  · have HE := Lib.hid (nod_code (l := l) (q := q) (c := 2) (by unfold codeTT; rw [if_pos (.inr h5)]) (by decide))
    have hd : decide ((65536 : Int) < (q.size : Int)) = true := by simp; omega
    go_enter Tryz.func21, Tryz.ntmps21
    go_wp2_with fail
    refine bodyPost_ret (v := .tuple #[.agg #[.int .i64 0, .string ⟨#[]⟩, .string ⟨#[]⟩, .int .i64 0], .int .i64 2]) (by simp [results, Tryz.results21, go_sem]) rfl ⟨by rw [HE.out], hb0⟩
  have hd5 : decide ((65536 : Int) < (q.size : Int)) = false := by simp; omega
  go_enter Tryz.func21, Tryz.ntmps21
  go_wp2_with fail
  refine HC.mono ?_
  rintro e w1 ⟨rfl, hb1⟩
  have c1 := hb0.trans (hb1.mono hb0.size)
  have hc1 := fun o => (bcell hb1).1 w.heap.size o (by simp)
  have hf1 := fun o => (bcell hb1).2 w.heap.size o (by simp)
  have hz1 : w.heap.size < w1.heap.size := by have := hb1.size; simp at this; omega
  by_cases h0 : codeTT l q = 0
  case neg =>
    have HE := Lib.hid (nod_code (l := l) (q := q) rfl h0)
    have hd : (codeTT l q != 0) = true := by simpa using h0
    generalize codeTT l q = c at *
    clear h0
    go_wp2_with fail
    refine bodyPost_ret (v := .tuple #[.agg #[.int .i64 0, .string ⟨#[]⟩, .string ⟨#[]⟩, .int .i64 0], .int .i64 c]) (by simp [results, Tryz.results21, go_sem, hc1]) rfl ⟨by rw [HE.out], ?_⟩
    repeat (refine Below.setCell ?_ (by simp) _)
    exact c1
  have HP := l01OK_any q w1
  have HT := Lib.hid (code_tree h0)
  have H0 := Lib.hid h0
  rw [h0]
  clear h0
  cases hp : pathB q.data.toList with
  | false =>
    have HE := Lib.hid (nod_name H0.out hp)
    rw [hp] at HP
    go_wp2_with fail
    refine HP.mono ?_
    rintro e w2 ⟨rfl, hb2⟩
    have c2 := c1.trans (hb2.mono c1.size)
    have hc2 := fun o => ((bcell hb2).1 w.heap.size o hz1).trans (hc1 o)
    have hf2 := fun o => ((bcell hb2).2 w.heap.size o hz1).trans (hf1 o)
    clear hc1 hf1
    go_wp2_with fail
    refine bodyPost_ret (v := .tuple #[.agg #[.int .i64 0, .string ⟨#[]⟩, .string ⟨#[]⟩, .int .i64 0], .int .i64 10]) (by simp [results, Tryz.results21, go_sem, hc2]) rfl ⟨by rw [HE.out], ?_⟩
    repeat (refine Below.setCell ?_ (by simp) _)
    exact c2
  | true =>
    have HE := Lib.hid (nod_find H0.out hp)
    rw [hp] at HP
    go_wp2_with fail
    refine HP.mono ?_
    rintro e w2 ⟨rfl, hb2⟩
    have c2 := c1.trans (hb2.mono c1.size)
    have hz2 := Nat.lt_of_lt_of_le hz1 hb2.size
    have hc2 := fun o => ((bcell hb2).1 w.heap.size o hz1).trans (hc1 o)
    have hf2 := fun o => ((bcell hb2).2 w.heap.size o hz1).trans (hf1 o)
    clear hc1 hf1
    have HFI := l04Find_any _ l q w2 (hsl.below c2) hl HT.out.is hp
    unfold foundV R.nod at HFI
    go_wp2_with fail
    refine HFI.mono ?_
    rintro e w3 ⟨rfl, hb3⟩
    have c3 := c2.trans (hb3.mono c2.size)
    have hc3 := fun o => ((bcell hb3).1 w.heap.size o hz2).trans (hc2 o)
    have hf3 := fun o => ((bcell hb3).2 w.heap.size o hz2).trans (hf2 o)
    clear hc2 hf2
    generalize hF : findT l q = F at *
    go_wp2_with fail
    refine bodyPost_ret (v := .tuple #[.agg #[.int .i64 F.1.k, .string F.1.p, .string F.1.b, .int .i64 F.1.m], .int .i64 F.2]) (by simp [results, Tryz.results21, go_sem, hc3]) rfl ⟨by rw [HE.out]; unfold foundV; rw [hF]; rfl, ?_⟩
    repeat (refine Below.setCell ?_ (by simp) _)
    exact c3

set_option maxHeartbeats 1600000 in
theorem findNode_impl (v : Value) (l : List R) (q : ByteArray) (x y : Addr) (w : World) (h : NodSl w v l) (hl : l.length ≤ 1048576) (hr : ∀ r ∈ l, r.p.size ≤ maxLen) (hqm : q.size ≤ maxLen) (hT : Three w x y) :
    Calls Tryz.prog 20 #[v, .string q] w fun e w' => e = .returned (nodV l q) ∧ Below w.heap.size w w' := by
  have hb0 : Below w.heap.size w (w.alloc (.cells #[.int .i64 0, .string ByteArray.empty, .string ByteArray.empty, .int .i64 0] 29)) := (Below.refl _ _).alloc (Nat.le_refl _) _
  have HG := growTree_any v l x y _ (h.below hb0) hl hr (hT.below hb0 (Nat.le_refl _))
  obtain ⟨ho, sA, cap, rfl, hcap, h⟩ := h
  clear h
  go_enter Tryz.func20, Tryz.ntmps20
  go_wp2_with fail
  refine HG.mono ?_
  rintro e w1 ⟨hb1, HK⟩
  have c1 := hb0.trans (hb1.mono hb0.size)
  have hT1 := hT.below c1 (Nat.le_refl _)
  have hc1 := fun o => (bcell hb1).1 w.heap.size o (by simp)
  have hf1 := fun o => (bcell hb1).2 w.heap.size o (by simp)
  have hz1 : w.heap.size < w1.heap.size := by have := hb1.size; simp at this; omega
  have HXA := checkTextN_any q x y w1 hT1.long
  rcases HK with ⟨hk, rfl⟩ | ⟨hk, A, S, rfl, hTr⟩
  · cases hg : growK l with
    | fine => exact absurd hg hk
    | long =>
      cases ht : textN q with
      | fine =>
        unfold EN.val
        unfold errV
        have HA := argN2_any .long .fine x y w1 hT1
        have HX := HXA
        rw [ht] at HX
        have HE := Lib.hid (nod_code (l := l) (q := q) (c := 2) (by rw [← arg_tt, hg, ht]; rfl) (by decide))
        clear HXA
        unfold EN.val at HX HA
        unfold errV at HX HA
        go_wp2_with fail
        refine HX.mono ?_
        rintro e w2 ⟨rfl, rfl⟩
        go_wp2_with fail
        refine HA.mono ?_
        rintro e w3 ⟨rfl, hb3⟩
        have c3 := c1.trans (hb3.mono c1.size)
        have hc3 := fun o => ((bcell hb3).1 w.heap.size o hz1).trans (hc1 o)
        have hf3 := fun o => ((bcell hb3).2 w.heap.size o hz1).trans (hf1 o)
        have hz3 := Nat.lt_of_lt_of_le hz1 hb3.size
        clear hc1 hf1
        have hcode : enFrom [.long, .fine] 0 = 2 := rfl
        rw [hcode]
        go_wp2_with fail
        refine bodyPost_ret (v := .tuple #[.agg #[.int .i64 0, .string ⟨#[]⟩, .string ⟨#[]⟩, .int .i64 0], .int .i64 2]) (by simp [results, Tryz.results20, go_sem, hc3]) rfl ⟨by rw [HE.out], ?_⟩
        repeat (refine Below.setCell ?_ (by simp) _)
        exact c3
      | long =>
        unfold EN.val
        unfold errV
        have HA := argN2_any .long .long x y w1 hT1
        have HX := HXA
        rw [ht] at HX
        have HE := Lib.hid (nod_code (l := l) (q := q) (c := 2) (by rw [← arg_tt, hg, ht]; rfl) (by decide))
        clear HXA
        unfold EN.val at HX HA
        unfold errV at HX HA
        go_wp2_with fail
        refine HX.mono ?_
        rintro e w2 ⟨rfl, rfl⟩
        go_wp2_with fail
        refine HA.mono ?_
        rintro e w3 ⟨rfl, hb3⟩
        have c3 := c1.trans (hb3.mono c1.size)
        have hc3 := fun o => ((bcell hb3).1 w.heap.size o hz1).trans (hc1 o)
        have hf3 := fun o => ((bcell hb3).2 w.heap.size o hz1).trans (hf1 o)
        have hz3 := Nat.lt_of_lt_of_le hz1 hb3.size
        clear hc1 hf1
        have hcode : enFrom [.long, .long] 0 = 2 := rfl
        rw [hcode]
        go_wp2_with fail
        refine bodyPost_ret (v := .tuple #[.agg #[.int .i64 0, .string ⟨#[]⟩, .string ⟨#[]⟩, .int .i64 0], .int .i64 2]) (by simp [results, Tryz.results20, go_sem, hc3]) rfl ⟨by rw [HE.out], ?_⟩
        repeat (refine Below.setCell ?_ (by simp) _)
        exact c3
      | inv => exact absurd ht textN_not
    | inv =>
      cases ht : textN q with
      | fine =>
        unfold EN.val
        unfold errV
        have HA := argN2_any .inv .fine x y w1 hT1
        have HX := HXA
        rw [ht] at HX
        have HE := Lib.hid (nod_code (l := l) (q := q) (c := 1) (by rw [← arg_tt, hg, ht]; rfl) (by decide))
        clear HXA
        unfold EN.val at HX HA
        unfold errV at HX HA
        go_wp2_with fail
        refine HX.mono ?_
        rintro e w2 ⟨rfl, rfl⟩
        go_wp2_with fail
        refine HA.mono ?_
        rintro e w3 ⟨rfl, hb3⟩
        have c3 := c1.trans (hb3.mono c1.size)
        have hc3 := fun o => ((bcell hb3).1 w.heap.size o hz1).trans (hc1 o)
        have hf3 := fun o => ((bcell hb3).2 w.heap.size o hz1).trans (hf1 o)
        have hz3 := Nat.lt_of_lt_of_le hz1 hb3.size
        clear hc1 hf1
        have hcode : enFrom [.inv, .fine] 0 = 1 := rfl
        rw [hcode]
        go_wp2_with fail
        refine bodyPost_ret (v := .tuple #[.agg #[.int .i64 0, .string ⟨#[]⟩, .string ⟨#[]⟩, .int .i64 0], .int .i64 1]) (by simp [results, Tryz.results20, go_sem, hc3]) rfl ⟨by rw [HE.out], ?_⟩
        repeat (refine Below.setCell ?_ (by simp) _)
        exact c3
      | long =>
        unfold EN.val
        unfold errV
        have HA := argN2_any .inv .long x y w1 hT1
        have HX := HXA
        rw [ht] at HX
        have HE := Lib.hid (nod_code (l := l) (q := q) (c := 2) (by rw [← arg_tt, hg, ht]; rfl) (by decide))
        clear HXA
        unfold EN.val at HX HA
        unfold errV at HX HA
        go_wp2_with fail
        refine HX.mono ?_
        rintro e w2 ⟨rfl, rfl⟩
        go_wp2_with fail
        refine HA.mono ?_
        rintro e w3 ⟨rfl, hb3⟩
        have c3 := c1.trans (hb3.mono c1.size)
        have hc3 := fun o => ((bcell hb3).1 w.heap.size o hz1).trans (hc1 o)
        have hf3 := fun o => ((bcell hb3).2 w.heap.size o hz1).trans (hf1 o)
        have hz3 := Nat.lt_of_lt_of_le hz1 hb3.size
        clear hc1 hf1
        have hcode : enFrom [.inv, .long] 0 = 2 := rfl
        rw [hcode]
        go_wp2_with fail
        refine bodyPost_ret (v := .tuple #[.agg #[.int .i64 0, .string ⟨#[]⟩, .string ⟨#[]⟩, .int .i64 0], .int .i64 2]) (by simp [results, Tryz.results20, go_sem, hc3]) rfl ⟨by rw [HE.out], ?_⟩
        repeat (refine Below.setCell ?_ (by simp) _)
        exact c3
      | inv => exact absurd ht textN_not
  · have hg := hk
    unfold ptr
    cases ht : textN q with
    | long =>
      have HA := argN2_any .fine .long x y w1 hT1
      have HX := HXA
      rw [ht] at HX
      have HE := Lib.hid (nod_code (l := l) (q := q) (c := 2) (by rw [← arg_tt, hg, ht]; rfl) (by decide))
      clear HXA
      unfold EN.val at HX HA
      unfold errV at HX HA
      go_wp2_with fail
      refine HX.mono ?_
      rintro e w2 ⟨rfl, rfl⟩
      go_wp2_with fail
      refine HA.mono ?_
      rintro e w3 ⟨rfl, hb3⟩
      have c3 := c1.trans (hb3.mono c1.size)
      have hc3 := fun o => ((bcell hb3).1 w.heap.size o hz1).trans (hc1 o)
      have hf3 := fun o => ((bcell hb3).2 w.heap.size o hz1).trans (hf1 o)
      have hz3 := Nat.lt_of_lt_of_le hz1 hb3.size
      clear hc1 hf1
      have hcode : enFrom [.fine, .long] 0 = 2 := rfl
      rw [hcode]
      go_wp2_with fail
      refine bodyPost_ret (v := .tuple #[.agg #[.int .i64 0, .string ⟨#[]⟩, .string ⟨#[]⟩, .int .i64 0], .int .i64 2]) (by simp [results, Tryz.results20, go_sem, hc3]) rfl ⟨by rw [HE.out], ?_⟩
      repeat (refine Below.setCell ?_ (by simp) _)
      exact c3
    | inv => exact absurd ht textN_not
    | fine =>
      have H0 := Lib.hid (show codeTT l q = 0 by rw [← arg_tt, hg, ht]; rfl)
      have HA := argN2_any .fine .fine x y w1 hT1
      have HX := HXA
      rw [ht] at HX
      clear HXA
      unfold EN.val at HX HA
      unfold errV at HX HA
      go_wp2_with fail
      refine HX.mono ?_
      rintro e w2 ⟨rfl, rfl⟩
      go_wp2_with fail
      refine HA.mono ?_
      rintro e w3 ⟨rfl, hb3⟩
      have c3 := c1.trans (hb3.mono c1.size)
      have hc3 := fun o => ((bcell hb3).1 w.heap.size o hz1).trans (hc1 o)
      have hf3 := fun o => ((bcell hb3).2 w.heap.size o hz1).trans (hf1 o)
      have hz3 := Nat.lt_of_lt_of_le hz1 hb3.size
      clear hc1 hf1
      have hTr3 := hTr.below hb3
      have hcode : enFrom [.fine, .fine] 0 = 0 := rfl
      rw [hcode]
      have HTR := Lib.hid (code_tree H0.out)
      have hl24 := HTR.out.len
      have HR := resolvePath_any hTr3 HTR.out.is (by omega) q hqm
      unfold ptr resP at HR
      cases hp : pathB q.data.toList with
      | false =>
        have HE := Lib.hid (nod_name H0.out hp)
        rw [hp] at HR
        go_wp2_with fail
        refine HR.mono ?_
        rintro e w4 ⟨rfl, hb4⟩
        have c4 := c3.trans (hb4.mono c3.size)
        have hc4 := fun o => ((bcell hb4).1 w.heap.size o hz3).trans (hc3 o)
        have hf4 := fun o => ((bcell hb4).2 w.heap.size o hz3).trans (hf3 o)
        clear hc3 hf3
        go_wp2_with fail
        refine bodyPost_ret (v := .tuple #[.agg #[.int .i64 0, .string ⟨#[]⟩, .string ⟨#[]⟩, .int .i64 0], .int .i64 10]) (by simp [results, Tryz.results20, go_sem, hc4]) rfl ⟨by rw [HE.out], ?_⟩
        repeat (refine Below.setCell ?_ (by simp) _)
        exact c4
      | true =>
        have HE := Lib.hid (nod_find H0.out hp)
        rw [hp, if_pos rfl] at HR
        unfold resV at HR
        cases hra : recAt l q with
        | none =>
          obtain ⟨e1, e2⟩ := found_not hra
          have HE2 := Lib.hid (HE.out.trans e1)
          have hd : ((findT l q).2 != 0) = true := by simpa using e2
          rw [if_neg e2] at HR
          clear e1 e2
          generalize (findT l q).2 = c at *
          go_wp2_with fail
          refine HR.mono ?_
          rintro e w4 ⟨rfl, hb4⟩
          have c4 := c3.trans (hb4.mono c3.size)
          have hc4 := fun o => ((bcell hb4).1 w.heap.size o hz3).trans (hc3 o)
          have hf4 := fun o => ((bcell hb4).2 w.heap.size o hz3).trans (hf3 o)
          clear hc3 hf3
          go_wp2_with fail
          refine bodyPost_ret (v := .tuple #[.agg #[.int .i64 0, .string ⟨#[]⟩, .string ⟨#[]⟩, .int .i64 0], .int .i64 c]) (by simp [results, Tryz.results20, go_sem, hc4]) rfl ⟨by rw [HE2.out], ?_⟩
          repeat (refine Below.setCell ?_ (by simp) _)
          exact c4
        | some r =>
          obtain ⟨e1, e2⟩ := found_here hra
          obtain ⟨hm, hrp⟩ := recAt_mem hra
          have HE2 := Lib.hid (HE.out.trans e1)
          rw [e2, if_pos rfl, ← hrp] at HR
          clear e1 e2
          go_wp2_with fail
          rw [hrp] at HR
          refine HR.mono ?_
          rintro e w4 ⟨rfl, hb4⟩
          have c4 := c3.trans (hb4.mono c3.size)
          have hc4 := fun o => ((bcell hb4).1 w.heap.size o hz3).trans (hc3 o)
          have hf4 := fun o => ((bcell hb4).2 w.heap.size o hz3).trans (hf3 o)
          obtain ⟨_, d1, d2, d3, d4, _⟩ := (hTr3.below hb4).cells (List.mem_cons_of_mem _ hm)
          rw [hrp] at d1 d2 d3 d4
          have hla := (hTr3.below hb4).own r (List.mem_cons_of_mem _ hm)
          rw [hrp] at hla
          have hne : ¬ A q = w.heap.size := by simp at hla; omega
          clear hc3 hf3
          go_wp2_with fail
          refine bodyPost_ret (v := .tuple #[.agg #[.int .i64 r.k, .string r.p, .string r.b, .int .i64 r.m], .int .i64 0]) (by simp [results, Tryz.results20, go_sem, hc4, hrp]) rfl ⟨by rw [HE2.out], ?_⟩
          repeat (refine Below.setCell ?_ (by simp) _)
          exact c4
end Go.Proofs.YtcbmnihepeefaaaGreatDoor.Recs

/- A tree in memory: nodes, of the program. -/
namespace Go.Proofs.YtcbmnihepeefaaaGreatDoor.Recs
set_option maxRecDepth 100000
open Go.RowKit Paths

def takeN (w0 : World) : Value := .func (.func 174) #[] #[ptr w0.heap.size]
theorem three_new (w0 : World) (a b c : Obj) : (((w0.alloc a).alloc b).alloc c).heap[w0.heap.size]? = some a ∧ (((w0.alloc a).alloc b).alloc c).heap[w0.heap.size + 1]? = some b ∧ (((w0.alloc a).alloc b).alloc c).heap[w0.heap.size + 2]? = some c := by
  have h1 := alloc_at (w0.alloc a) b
  have h2 := alloc_at ((w0.alloc a).alloc b) c
  rw [World.size_alloc] at h1 h2
  rw [World.size_alloc] at h2
  refine ⟨?_, ?_, h2⟩
  · rw [Below.heap_alloc _ _ _ (by simp; omega), Below.heap_alloc _ _ _ (by simp)]
    exact alloc_at w0 a
  · rw [Below.heap_alloc _ _ _ (by simp)]
    exact h1
theorem gath_start (w0 : World) (D V : Value) : Gath w0 D V [] (((w0.alloc (.cells #[.slice none 0 0] 23)).alloc (.cells #[D] 103)).alloc (.cells #[V] 172)) := by
  obtain ⟨h1, h2, h3⟩ := three_new w0 (.cells #[.slice none 0 0] 23) (.cells #[D] 103) (.cells #[V] 172)
  exact ⟨(((Below.refl _ _).alloc (Nat.le_refl _) _).alloc (by simp) _).alloc (by simp; omega) _, ⟨.slice none 0 0, h1, ⟨rfl, World.ownsRow_nil _ _ _ _, fun r hr => by cases hr⟩⟩, h2, h3⟩
theorem walkerN {w0 : World} {base : Nat} {A : ByteArray → Nat} {S : ByteArray → Value} {t : List R} (h : Tr w0 base A S t) (hl : t.length ≤ 1000) (ho : ∀ r ∈ t, r.o = false) :
    Walker (Gath w0 (takeN w0) (visV (w0.heap.size + 1) (w0.heap.size + 2))) base A S t (w0.heap.size + 1) (w0.heap.size + 2) 174 (ptr w0.heap.size) :=
  ⟨fun _ _ hg => h.below hg.below, fun _ _ hg => (block_cell hg.cd).1, fun _ _ hg => (block_cell hg.cv).1, fun _ _ hg => hg.drew, fun acc _ r hr hacc hg => nodes1_any r (ho r hr) (by omega) hg⟩

set_option maxHeartbeats 800000 in
theorem eachN_any {w0 : World} {base : Nat} {A : ByteArray → Nat} {S : ByteArray → Value} {t : List R} (h : Tr w0 base A S t) (ht : IsTree t) (hl : t.length ≤ 1000) (ho : ∀ r ∈ t, r.o = false) :
    Calls Tryz.prog 111 #[ptr (A ByteArray.empty), takeN w0] (w0.alloc (.cells #[.slice none 0 0] 23)) fun e w' => (∃ v, e = .returned v) ∧ Gath w0 (takeN w0) (visV (w0.heap.size + 1) (w0.heap.size + 2)) t w' := by
  have HV := visitN_any (walkerN h hl ho) ht hl 5 rootR root_mem (by omega) [] _ (gath_start w0 (takeN w0) (visV (w0.heap.size + 1) (w0.heap.size + 2))) (by rw [rootR_p, all_root]; simp)
  rw [rootR_p, all_root, List.nil_append] at HV
  unfold takeN visV ptr at HV ⊢
  have HVh := Lib.hid HV
  clear HV
  go_enter Tryz.func111, Tryz.ntmps111
  go_wp2_with fail
  refine HVh.out.mono ?_
  rintro e w2 ⟨⟨v2, rfl⟩, hG⟩
  go_wp2_with fail
  go_end0
  exact ⟨⟨_, rfl⟩, hG⟩

set_option maxHeartbeats 800000 in
theorem nodes_any {w : World} {base : Nat} {A : ByteArray → Nat} {S : ByteArray → Value} {t : List R} (h : Tr w base A S t) (ht : IsTree t) (hl : t.length ≤ 1000) (ho : ∀ r ∈ t, r.o = false) :
    Calls Tryz.prog 93 #[ptr (A ByteArray.empty)] w fun e w' => ∃ v, e = .returned v ∧ Below w.heap.size w w' ∧ RowN w' w.heap.size v t.length t := by
  have HE := eachN_any h ht hl ho
  unfold takeN visV ptr at HE
  unfold ptr
  go_enter Tryz.func93, Tryz.ntmps93
  go_wp2_with fail
  refine HE.mono ?_
  rintro e w2 ⟨⟨v2, rfl⟩, hG⟩
  obtain ⟨hb, ⟨v, hlist, hrow⟩, -, -⟩ := hG
  obtain ⟨hc0, hf0⟩ := block_cell hlist
  have HR := Lib.hid hrow
  obtain ⟨sA, cap, rfl⟩ := own_form hrow.2.1
  clear hlist hrow
  go_wp2_with fail
  go_ret
  exact ⟨_, rfl, hb, HR.out⟩
end Go.Proofs.YtcbmnihepeefaaaGreatDoor.Recs

/- A tree in memory: its nodes as records (what LayerOfTree hands to each). -/
namespace Go.Proofs.YtcbmnihepeefaaaGreatDoor.Recs
set_option maxRecDepth 100000
open Go.RowKit Paths

set_option maxHeartbeats 3200000 in
theorem layer1_any {w0 : World} {D V : Value} {acc : List R} {w : World} (r : R) (hro : r.o = false) (hacc : acc.length ≤ 1000) (h : GathR w0 D V acc w) :
    Calls Tryz.prog 112 #[r.nod, ptr w0.heap.size] w fun e w' => (∃ v, e = .returned v) ∧ GathR w0 D V (acc ++ [r]) w' := by
  obtain ⟨i0, hi, hI0, hI1, hI2⟩ := info_parts recInfo
  obtain ⟨hb, ⟨v, hlist, hrow⟩, hcd, hcv⟩ := h
  have hlt : w0.heap.size < w.heap.size := (Array.getElem?_eq_some_iff.1 hlist).1
  have hlt1 : w0.heap.size + 1 < w.heap.size := (Array.getElem?_eq_some_iff.1 hcd).1
  have hlt2 : w0.heap.size + 2 < w.heap.size := (Array.getElem?_eq_some_iff.1 hcv).1
  obtain ⟨hc0, hf0⟩ := block_cell hlist
  have hbA : Below w.heap.size w (w.alloc (.cells #[.int .i64 r.k, .string r.p, .string r.b, .int .i64 r.m] 29)) := (Below.refl _ _).alloc (Nat.le_refl _) _
  have c2 := (hbA.cell (p := ⟨w0.heap.size, 0, none⟩) hlt).trans hc0
  have a0 : (w.alloc (.cells #[.int .i64 r.k, .string r.p, .string r.b, .int .i64 r.m] 29)).cell? ⟨w.heap.size, 0, none⟩ = some (.int .i64 r.k) := by go_simp
  have a1 : (w.alloc (.cells #[.int .i64 r.k, .string r.p, .string r.b, .int .i64 r.m] 29)).cell? ⟨w.heap.size, 1, none⟩ = some (.string r.p) := by go_simp
  have a2 : (w.alloc (.cells #[.int .i64 r.k, .string r.p, .string r.b, .int .i64 r.m] 29)).cell? ⟨w.heap.size, 2, none⟩ = some (.string r.b) := by go_simp
  have a3 : (w.alloc (.cells #[.int .i64 r.k, .string r.p, .string r.b, .int .i64 r.m] 29)).cell? ⟨w.heap.size, 3, none⟩ = some (.int .i64 r.m) := by go_simp
  have hzA : (w.alloc (.cells #[.int .i64 r.k, .string r.p, .string r.b, .int .i64 r.m] 29)).heap.size = w.heap.size + 1 := by simp
  have hnl := own_not hrow.2 typeR3 hlist
  have hnd := own_not hrow.2 typeR1 hcd
  have hnv := own_not hrow.2 typeR2 hcv
  obtain ⟨sA, cap, rfl⟩ := own_form hrow.2
  have HREC := fun w' => recordOfNode_any r hro w'
  have HFIN : Hid (∀ W9 v' w9, Below w.heap.size w W9 → w9.ownsRow w0.heap.size 26 5 v' (acc.length + 1) (flat acc ++ r.cs) → W9.grownBy w9 (Value.slice sA acc.length cap).ownBlock →
      GathR w0 D V (acc ++ [r]) (w9.setCell ⟨w0.heap.size, 0, none⟩ v') ∧ w9.cell? ⟨w0.heap.size, 0, none⟩ = some (.slice sA acc.length cap) ∧ w9.frozen? ⟨w0.heap.size, 0, none⟩ = false) := by
    intro W9 v' w9 hbB ho hg
    have hle : w.heap.size ≤ W9.heap.size := hbB.size
    have hbz : w0.heap.size ≤ W9.heap.size := Nat.le_trans (Nat.le_of_lt hlt) hle
    have k1 := (hg.block w0.heap.size (Nat.lt_of_lt_of_le hlt hle) (fun e => hnl e.symm)).trans ((hbB.block _ hlt).trans hlist)
    have k2 := (hg.block (w0.heap.size + 1) (Nat.lt_of_lt_of_le hlt1 hle) (fun e => hnd e.symm)).trans ((hbB.block _ hlt1).trans hcd)
    have k3 := (hg.block (w0.heap.size + 2) (Nat.lt_of_lt_of_le hlt2 hle) (fun e => hnv e.symm)).trans ((hbB.block _ hlt2).trans hcv)
    have hne := own_not ho typeR3 k1
    have hcb := (hb.trans (hbB.mono hb.size)).grown hg hbz (fun j hj => (hrow.2.lt j hj).1)
    refine ⟨⟨hcb.setCell (Nat.le_refl _) _, ⟨v', ?_, ?_⟩, ?_, ?_⟩, (block_cell k1).1, (block_cell k1).2⟩
    · have := setCell_block k1 0 v'
      rw [this]
      rfl
    · have := row_snoc ho
      exact ⟨this.1, ownsRow_setCell_other this.2 hne _⟩
    · rw [Below.heap_setCell _ _ _ _ (by simp)]; exact k2
    · rw [Below.heap_setCell _ _ _ _ (by simp)]; exact k3
  have HROW := Lib.hid hrow
  have HR3 : Hid (∀ w1, Below (w.heap.size + 1) (w.alloc (.cells #[.int .i64 r.k, .string r.p, .string r.b, .int .i64 r.m] 29)).drew w1 →
      Below w.heap.size w (w1.alloc (.cells #[.int .i64 r.k, .string r.p, .string r.b, .int .i64 r.m, .bool false] 26)) ∧ w1.cell? ⟨w0.heap.size, 0, none⟩ = some (.slice sA acc.length cap) ∧ w0.heap.size < w1.heap.size ∧
      (w1.alloc (.cells #[.int .i64 r.k, .string r.p, .string r.b, .int .i64 r.m, .bool false] 26)).ownsRow w0.heap.size 26 5 (.slice sA acc.length cap) acc.length (flat acc) ∧
      w0.heap.size ≤ (w1.alloc (.cells #[.int .i64 r.k, .string r.p, .string r.b, .int .i64 r.m, .bool false] 26)).heap.size ∧
      ∀ j u, r.cs[j]? = some u → (w1.alloc (.cells #[.int .i64 r.k, .string r.p, .string r.b, .int .i64 r.m, .bool false] 26)).cell? ((⟨w1.heap.size, 0, none⟩ : Addr).add j) = some u) := by
    intro w1 hb1
    have e1 : Below w.heap.size w w1 := hbA.drew.trans (hb1.mono (Nat.le_succ _))
    have e2 : Below w.heap.size w (w1.alloc (.cells #[.int .i64 r.k, .string r.p, .string r.b, .int .i64 r.m, .bool false] 26)) := e1.alloc e1.size _
    have hle := e1.size
    refine ⟨e2, (e1.cell (p := ⟨w0.heap.size, 0, none⟩) hlt).trans hc0, by omega, (HROW.out.below e2).2, by have := e2.size; omega, ?_⟩
    have := rec_cells_new w1 r 26
    rw [hro] at this
    exact this
  have hone := rec_one r
  unfold ptr R.nod
  unfold R.nod R.val at HREC
  rw [hro] at HREC
  have HRECh := Lib.hid HREC
  clear hlist hcd hcv hnl hnd hnv hrow HREC
  go_enter Tryz.func112, Tryz.ntmps112
  go_wp2_with fail
  go_region_law (first
    | (refine step_append_lies _ (by rfl) (.tmp 3) (.tmp 6) 45 (by rfl) w0.heap.size 26 i0 (.agg #[.int .i64 0, .string ByteArray.empty, .string ByteArray.empty, .int .i64 0, .bool false]) 5 56 Tryz.underlying45 hi hI0 hI1 hI2 rfl (by decide) (.slice sA acc.length cap) acc.length (flat acc) (by simp [Act.eval]) hr3 ⟨w1.heap.size, 0, none⟩ 1 1 (R.cs r) (by simp [Act.eval]) rfl hnews hone (by decide) (by unfold maxLen; omega) (by omega) hbz _ rfl ?_; intro g9 cap9 w9 hown9 hgrow9 hat9 hlt9; obtain ⟨HG9, hc9, hf9⟩ := HFIN.out _ _ w9 e2 hown9 hgrow9; have HGH := Lib.hid HG9; clear hown9 hgrow9 HG9 hat9)
    | (go_simp; go_at_call 113; refine (HRECh.out _).mono ?_; rintro e w1 ⟨rfl, hb1⟩; obtain ⟨e2, hcl, hll, hr3, hbz, hnews⟩ := HR3.out w1 (by simpa using hb1)))
  all_goals (go_wp2; go_end0; exact ⟨⟨_, rfl⟩, HGH.out⟩)
end Go.Proofs.YtcbmnihepeefaaaGreatDoor.Recs
