/- Parts of several texts of mine in one file (each begins with its own remark). -/
import Derived.Test.YtcbmnihepeefaaaGreatDoorCA10
import Derived.Test.YtcbmnihepeefaaaGreatDoorCA2
import Derived.Test.YtcbmnihepeefaaaGreatDoorCA3
import Derived.Test.YtcbmnihepeefaaaGreatDoorCA4
import Derived.Test.YtcbmnihepeefaaaGreatDoorCA5
import Derived.Test.YtcbmnihepeefaaaGreatDoorCA6
import Derived.Test.YtcbmnihepeefaaaGreatDoorCA7
import Derived.Test.YtcbmnihepeefaaaGreatDoorCA8
import Derived.Test.YtcbmnihepeefaaaGreatDoorCA9
import Derived.Test.YtcbmnihepeefaaaGreatDoorCB1
import Derived.Test.YtcbmnihepeefaaaGreatDoorCB10
import Derived.Test.YtcbmnihepeefaaaGreatDoorCB11
import Derived.Test.YtcbmnihepeefaaaGreatDoorCB3
import Derived.Test.YtcbmnihepeefaaaGreatDoorCB9
import Derived.Test.YtcbmnihepeefaaaGreatDoorCH1
import Derived.Test.YtcbmnihepeefaaaGreatDoorCH2
import Derived.Test.YtcbmnihepeefaaaGreatDoorCH3
import Derived.Test.YtcbmnihepeefaaaGreatDoorChecked
import Derived.Test.YtcbmnihepeefaaaGreatDoorShelf
import Derived.Test.YtcbmnihepeefaaaGreatDoorProg
import Derived.Test.YtcbmnihepeefaaaGreatDoorRows
import Derived.Deep.RegionWith
import Derived.StillTailTactics
import Derived.Laws.OwnMore
import Derived.BigQuiet
import Derived.BigRegion
import Derived.Deep.QuietTactic
import Derived.Deep.RegionHeld3
import Derived.Deep.Slices
import Derived.OpenShut
import Derived.ShutString
import Derived.ChangeArms
import Derived.WideShapes
import Derived.Lib.LaidTab
import Derived.Deep.Draws
import Derived.Deep.LoopGhost
import Derived.WalkKit
import Derived.WalkSpells
import Derived.WalkSmall
import Derived.Lib.OthersKept
import Derived.Lib.Hide
import Derived.Lib.Strings
import Derived.Lib.Join
import Derived.Laws.BytesArg
import Derived.Stop.LaidErr
import Derived.WalkLawsBesides
import Derived.LaidEql
import Derived.Stop.Asserts
import Derived.Below
import Derived.Stop.LaidTwo
import Derived.OneCell
import Derived.Lib.SliceRun
import Derived.Lib.Overlaps
import Derived.Lib.AppendZerosOnto
import Derived.Laws.NewBlocks
import Derived.Laws.IdiomCopy
import Derived.Deep.RegionLaw
import Derived.ChangeVars
import Derived.Deep.DeepHandedRow
import Derived.Deep.AppendLies
import Derived.Laws.EntriesVeiled
/- Trees: LayerOfTree, of the program and of its model. Conditions (of the program's): the table of kinds, the two sentinels. -/
namespace Go.Proofs.YtcbmnihepeefaaaGreatDoor.Recs
set_option maxRecDepth 100000
open Go.RowKit Paths Errs

def takeR (w0 : World) : Value := .func (.func 112) #[] #[ptr w0.heap.size]
theorem gathR_start (w0 : World) (D V : Value) : GathR w0 D V [] (((w0.alloc (.cells #[.slice none 0 0] 45)).alloc (.cells #[D] 103)).alloc (.cells #[V] 172)) := by
  obtain ⟨h1, h2, h3⟩ := three_new w0 (.cells #[.slice none 0 0] 45) (.cells #[D] 103) (.cells #[V] 172)
  exact ⟨(((Below.refl _ _).alloc (Nat.le_refl _) _).alloc (by simp) _).alloc (by simp; omega) _, ⟨.slice none 0 0, h1, ⟨rfl, World.ownsRow_nil _ _ _ _⟩⟩, h2, h3⟩
theorem walkerR {w0 : World} {base : Nat} {A : ByteArray → Nat} {S : ByteArray → Value} {t : List R} (h : Tr w0 base A S t) (hl : t.length ≤ 1000) (ho : ∀ r ∈ t, r.o = false) :
    Walker (GathR w0 (takeR w0) (visV (w0.heap.size + 1) (w0.heap.size + 2))) base A S t (w0.heap.size + 1) (w0.heap.size + 2) 112 (ptr w0.heap.size) :=
  ⟨fun _ _ hg => h.below hg.below, fun _ _ hg => (block_cell hg.cd).1, fun _ _ hg => (block_cell hg.cv).1, fun _ _ hg => hg.drew, fun acc _ r hr hacc hg => layer1_any r (ho r hr) (by omega) hg⟩

set_option maxHeartbeats 800000 in
theorem eachR_any {w0 : World} {base : Nat} {A : ByteArray → Nat} {S : ByteArray → Value} {t : List R} (h : Tr w0 base A S t) (ht : IsTree t) (hl : t.length ≤ 1000) (ho : ∀ r ∈ t, r.o = false) :
    Calls Tryz.prog 111 #[ptr (A ByteArray.empty), takeR w0] (w0.alloc (.cells #[.slice none 0 0] 45)) fun e w' => (∃ v, e = .returned v) ∧ GathR w0 (takeR w0) (visV (w0.heap.size + 1) (w0.heap.size + 2)) t w' := by
  have HV := visitR_any (walkerR h hl ho) ht hl 5 rootR root_mem (by omega) [] _ (gathR_start w0 (takeR w0) (visV (w0.heap.size + 1) (w0.heap.size + 2))) (by rw [rootR_p, all_root]; simp)
  rw [rootR_p, all_root, List.nil_append] at HV
  unfold takeR visV ptr at HV ⊢
  have HVh := Lib.hid HV
  clear HV
  go_enter Tryz.func111, Tryz.ntmps111
  go_wp2_with fail
  refine HVh.out.mono ?_
  rintro e w2 ⟨⟨v2, rfl⟩, hG⟩
  go_wp2_with fail
  go_end0
  exact ⟨⟨_, rfl⟩, hG⟩

set_option maxHeartbeats 1600000 in
theorem l04Layer_any (v : Value) (l : List R) (w : World) (h : NodSl w v l) (hl : l.length ≤ 1000) :
    Calls Tryz.prog 114 #[v] w fun e w' => ∃ x, e = .returned x ∧ Below w.heap.size w w' ∧ RowOf w' w.heap.size x l.length l := by
  obtain ⟨i0, hi, hI0, hI1, hI2⟩ := info_parts recInfo
  obtain ⟨ho, sA, cap, rfl, hcap, h⟩ := h
  have H := Lib.hid h
  clear h
  have hb0 : Below w.heap.size w (w.alloc (.cells #[] 26)) := (Below.refl _ _).alloc (Nat.le_refl _) _
  have hown0 : (w.alloc (.cells #[] 26)).ownsRow w.heap.size 26 5 (.slice (some ⟨w.heap.size, 0, none⟩) 0 0) 0 [] := World.ownsRow_lit w #[] 0 (Nat.le_refl _) (Nat.zero_le _) rfl
  go_enter Tryz.func114, Tryz.ntmps114
  go_wp2
  go_loopw [3, 4] (fun f i wr => ∃ k : Nat, k ≤ l.length ∧ i = .int .i64 k ∧ RowOf wr w.heap.size f (l.take k).length (l.take k) ∧ Below w.heap.size w wr) (fun _ i _ => l.length - (intOf i).toNat)
  case atStart => exact ⟨0, by omega, rfl, ⟨rfl, hown0⟩, hb0⟩
  case round =>
    obtain ⟨k, hk, rfl, hrow, hbw⟩ := hrel
    by_cases hlt : k < l.length
    · obtain ⟨b, off, rfl, hb, hcell⟩ := H.out (by omega)
      obtain ⟨c0, c1, c2, c3⟩ := (hcell k l[k] (by simp [hlt])).below hbw hb
      clear hcell
      have hi1 : (k : Int) < (l.length : Int) := by omega
      have hi0 : (0 : Int) ≤ (k : Int) := by omega
      have hko := ho l[k] (List.getElem_mem hlt)
      have HREC := l04Record_any l[k] hko wr
      unfold R.nod R.val at HREC
      rw [hko] at HREC
      have e2 : l.take (k + 1) = l.take k ++ [l[k]] := by rw [List.take_add_one, List.getElem?_eq_getElem hlt]; rfl
      have HT := Lib.hid e2
      have hlk : (l.take k).length = k := by rw [List.length_take]; omega
      have HLK := Lib.hid hlk
      obtain ⟨fA, fcap, rfl⟩ := hrow.form
      clear e2
      generalize hM : l.take k = M at *
      clear hM
      go_wp2_with fail
      refine HREC.mono ?_
      rintro e w1 ⟨rfl, hb1⟩
      have d1 := hbw.trans (hb1.mono hbw.size)
      have hr3 : (w1.alloc (.cells #[.int .i64 l[k].k, .string l[k].p, .string l[k].b, .int .i64 l[k].m, .bool false] 26)).ownsRow w.heap.size 26 5 (.slice fA M.length fcap) M.length (flat M) := (hrow.below hb1).2.alloc _
      have hnews := rec_cells_new w1 l[k] 26
      rw [hko] at hnews
      have hone := rec_one l[k]
      have hbz : w.heap.size ≤ (w1.alloc (.cells #[.int .i64 l[k].k, .string l[k].p, .string l[k].b, .int .i64 l[k].m, .bool false] 26)).heap.size := (d1.alloc d1.size _).size
      clear hlk
      go_wp2_with (first
        | (at_builtin; refine wpList_append_own _ rfl _ _ 45 rfl w.heap.size 26 i0 (.agg #[.int .i64 0, .string ByteArray.empty, .string ByteArray.empty, .int .i64 0, .bool false]) 5 56 Tryz.underlying45 hi hI0 hI1 hI2 rfl (by decide) _ _ _ rfl hr3 ⟨w1.heap.size, 0, none⟩ 1 1 (R.cs l[k]) rfl rfl hnews hone (by have := HLK.out; unfold maxLen; omega) (by have := HLK.out; omega) hbz ?_; intro v' w9 hown' hgrow9 hnil9))
      refine ⟨⟨k + 1, by omega, by go_num, ?_, (d1.alloc d1.size _).grown hgrow9 hbz (fun j hj => (hrow.2.lt j hj).1)⟩, by simp [intOf]; omega⟩
      rw [HT.out]
      exact row_snoc hown'
    · obtain rfl : k = l.length := by omega
      rw [List.take_length] at hrow
      go_wp2
      go_ret
      exact ⟨_, rfl, hbw, hrow⟩

def layC (l : List R) : Int := if 4096 < l.length then 2 else if treeOK l then (if 16 < l.length then 6 else 0) else 1
def layR (l : List R) : List R := if layC l = 0 then l else []
def LayPost (l : List R) (w : World) (e : Ending) (w' : World) : Prop :=
  ∃ x, e = .returned (.tuple #[x, .int .i64 (layC l)]) ∧ Below w.heap.size w w' ∧ RowOf w' w.heap.size x (layR l).length (layR l)
theorem layR_not {l : List R} {c : Int} (h : layC l = c) (hc : c ≠ 0) : layR l = [] := if_neg (by rw [h]; exact hc)
theorem layR_yes {l : List R} (h : layC l = 0) : layR l = l := if_pos h
theorem lay_err {l : List R} {c : Int} (h : layC l = c) (hc : c ≠ 0) {w w' : World} {x : Value} (hb : Below w.heap.size w w') (ho : w'.ownsRow w.heap.size 26 5 x 0 []) : LayPost l w (.returned (.tuple #[x, .int .i64 c])) w' := by
  refine ⟨x, by rw [h], hb, ?_⟩
  rw [layR_not h hc]
  exact ⟨rfl, ho⟩
theorem own_low {w : World} {base base' : Nat} {e : TypeId} {size : Nat} {v : Value} {n : Nat} {xs : List Value} (h : w.ownsRow base e size v n xs) (hb : base' ≤ base) : w.ownsRow base' e size v n xs := by
  obtain ⟨h1, h2⟩ := h
  refine ⟨h1, ?_⟩
  rcases h2 with h2 | ⟨g, cap', cur, a, b, c⟩
  · exact .inl h2
  · exact .inr ⟨g, cap', cur, a, Nat.le_trans hb b, c⟩
theorem lay_ok {l : List R} (h : layC l = 0) {w w' : World} {base : Nat} {x : Value} (hb : Below w.heap.size w w') (ho : RowOf w' base x l.length l) (hle : w.heap.size ≤ base) : LayPost l w (.returned (.tuple #[x, .int .i64 0])) w' := by
  refine ⟨x, by rw [h], hb, ?_⟩
  rw [layR_yes h]
  exact ⟨ho.1, own_low ho.2 hle⟩

set_option maxHeartbeats 800000 in
theorem layerOfTree_spec (v : Value) (l : List R) (w : World) (h : NodSl w v l) (hl : l.length ≤ 1048576) :
    Calls Tryz.prog 28 #[v] w (LayPost l w) := by
  have HC := l04OK_any v l w h hl
  have hsl := h
  obtain ⟨_, sA, cap, rfl, hcap, _⟩ := h
  have HN : Hid (∀ w1 : World, Below w.heap.size w w1 → Below w.heap.size w (w1.alloc (.cells #[] 26)) ∧ (w1.alloc (.cells #[] 26)).ownsRow w.heap.size 26 5 (.slice (some ⟨w1.heap.size, 0, none⟩) 0 0) 0 []) := fun w1 hb => ⟨hb.alloc hb.size _, World.ownsRow_lit w1 #[] 0 hb.size (Nat.zero_le _) rfl⟩
  by_cases h4 : 4096 < l.length
  · have HE := Lib.hid (show layC l = 2 from if_pos h4)
    have hd : decide ((4096 : Int) < (l.length : Int)) = true := by simp; omega
    go_enter Tryz.func28, Tryz.ntmps28
    go_wp2_with fail
    go_ret2
    exact lay_err HE.out (by decide) (HN.out _ (Below.refl _ _)).1 (HN.out _ (Below.refl _ _)).2
  have hd4 : decide ((4096 : Int) < (l.length : Int)) = false := by simp; omega
  have HL : Hid (layC l = if treeOK l then (if 16 < l.length then 6 else 0) else 1) := if_neg h4
  cases hk : treeOK l with
  | false =>
    have HE : Hid (layC l = 1) := by show _ = _; rw [HL.out, hk]; rfl
    rw [hk] at HC
    go_enter Tryz.func28, Tryz.ntmps28
    go_wp2_with fail
    refine HC.mono ?_
    rintro e w1 ⟨rfl, hb1⟩
    go_wp2_with fail
    go_ret2
    exact lay_err HE.out (by decide) (HN.out _ hb1).1 (HN.out _ hb1).2
  | true =>
    have hlen := (tree_of hk).len
    rw [hk] at HC
    by_cases h16 : 16 < l.length
    · have HE : Hid (layC l = 6) := by show _ = _; rw [HL.out, hk, if_pos rfl, if_pos h16]
      have hd : decide ((16 : Int) < (l.length : Int)) = true := by simp; omega
      go_enter Tryz.func28, Tryz.ntmps28
      go_wp2_with fail
      refine HC.mono ?_
      rintro e w1 ⟨rfl, hb1⟩
      go_wp2_with fail
      go_ret2
      exact lay_err HE.out (by decide) (HN.out _ hb1).1 (HN.out _ hb1).2
    · have HE : Hid (layC l = 0) := by show _ = _; rw [HL.out, hk, if_pos rfl, if_neg h16]
      have hd : decide ((16 : Int) < (l.length : Int)) = false := by simp; omega
      go_enter Tryz.func28, Tryz.ntmps28
      go_wp2_with fail
      refine HC.mono ?_
      rintro e w1 ⟨rfl, hb1⟩
      go_wp2_with fail
      refine (l04Layer_any _ l _ (hsl.below hb1) (by omega)).mono ?_
      rintro e w2 ⟨x, rfl, hb2, hr2⟩
      have HR := Lib.hid hr2
      obtain ⟨xA, xc, rfl⟩ := hr2.form
      clear hr2
      go_wp2_with fail
      go_ret2
      exact lay_ok HE.out (hb1.trans (hb2.mono hb1.size)) HR.out hb1.size

set_option maxHeartbeats 1600000 in
theorem layerOfTree_impl (v : Value) (l : List R) (x y : Addr) (w : World) (h : NodSl w v l) (hl : l.length ≤ 1048576) (hr : ∀ r ∈ l, r.p.size ≤ maxLen) (hT : Three w x y) :
    Calls Tryz.prog 27 #[v] w (LayPost l w) := by
  have HG := growTree_any v l x y _ h hl hr hT
  obtain ⟨ho, sA, cap, rfl, hcap, h⟩ := h
  clear h
  go_enter Tryz.func27, Tryz.ntmps27
  go_wp2_with fail
  refine HG.mono ?_
  rintro e w1 ⟨hb1, HK⟩
  have hT1 := hT.below hb1 (Nat.le_refl _)
  rcases HK with ⟨hk, rfl⟩ | ⟨hk, A, S, rfl, hTr⟩
  · cases hg : growK l with
    | fine => exact absurd hg hk
    | long =>
      have HE : Hid (layC l = 2) := by
        show _ = _
        have := arg_t l
        rw [hg] at this
        unfold layC
        have h2 : codeT l = 2 := this.symm
        unfold codeT at h2
        have h3 := grow_not hk
        rw [h3] at h2 ⊢
        simpa using h2
      have HA := argN1_any .long x y w1 hT1
      unfold EN.val at HA ⊢
      unfold errV at HA ⊢
      go_wp2_with fail
      refine HA.mono ?_
      rintro e w3 ⟨rfl, hb3⟩
      have c3 := hb1.trans (hb3.mono hb1.size)
      have hcode : enFrom [.long] 0 = 2 := rfl
      rw [hcode]
      go_wp2_with fail
      go_ret2
      exact lay_err HE.out (by decide) c3 (World.ownsRow_nil _ _ _ _)
    | inv =>
      have HE : Hid (layC l = 1) := by
        show _ = _
        have := arg_t l
        rw [hg] at this
        unfold layC
        have h2 : codeT l = 1 := this.symm
        unfold codeT at h2
        have h3 := grow_not hk
        rw [h3] at h2 ⊢
        simpa using h2
      have HA := argN1_any .inv x y w1 hT1
      unfold EN.val at HA ⊢
      unfold errV at HA ⊢
      go_wp2_with fail
      refine HA.mono ?_
      rintro e w3 ⟨rfl, hb3⟩
      have c3 := hb1.trans (hb3.mono hb1.size)
      have hcode : enFrom [.inv] 0 = 1 := rfl
      rw [hcode]
      go_wp2_with fail
      go_ret2
      exact lay_err HE.out (by decide) c3 (World.ownsRow_nil _ _ _ _)
  · have HA := argN1_any .fine x y w1 hT1
    have htree := tree_of (grow_ok.1 hk)
    have hlen := htree.len
    unfold EN.val at HA
    unfold errV at HA
    unfold ptr
    go_wp2_with fail
    refine HA.mono ?_
    rintro e w3 ⟨rfl, hb3⟩
    have c3 := hb1.trans (hb3.mono hb1.size)
    have hcode : enFrom [.fine] 0 = 0 := rfl
    rw [hcode]
    have HL : Hid (layC l = if 16 < l.length then 6 else 0) := by show _ = _; unfold layC; rw [if_neg (by omega), grow_ok.1 hk, if_pos rfl]
    by_cases h16 : 16 < l.length
    · have HE : Hid (layC l = 6) := by show _ = _; rw [HL.out, if_pos h16]
      have hd : decide ((16 : Int) < (l.length : Int)) = true := by simp; omega
      go_wp2_with fail
      go_ret2
      exact lay_err HE.out (by decide) c3 (World.ownsRow_nil _ _ _ _)
    · have HE : Hid (layC l = 0) := by show _ = _; rw [HL.out, if_neg h16]
      have hd : decide ((16 : Int) < (l.length : Int)) = false := by simp; omega
      have HEA := eachR_any (hTr.below hb3) htree.is (by omega) ho
      unfold takeR visV ptr at HEA
      go_wp2_with fail
      refine HEA.mono ?_
      rintro e w4 ⟨⟨v4, rfl⟩, hG⟩
      obtain ⟨hb4, ⟨v, hlist, hrow⟩, -, -⟩ := hG
      obtain ⟨hc0, hf0⟩ := block_cell hlist
      have HR := Lib.hid hrow
      obtain ⟨xA, xc, rfl⟩ := hrow.form
      clear hlist hrow
      go_wp2_with fail
      go_ret2
      exact lay_ok HE.out (c3.trans (hb4.mono c3.size)) HR.out c3.size
end Go.Proofs.YtcbmnihepeefaaaGreatDoor.Recs
