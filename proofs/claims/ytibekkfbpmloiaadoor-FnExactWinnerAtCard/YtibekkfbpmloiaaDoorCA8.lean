/- Parts of several texts of mine in one file (each begins with its own remark). -/
import Derived.Test.YtibekkfbpmloiaaDoorCA1
import Derived.Test.YtibekkfbpmloiaaDoorCA2
import Derived.Test.YtibekkfbpmloiaaDoorCA3
import Derived.Test.YtibekkfbpmloiaaDoorCA4
import Derived.Test.YtibekkfbpmloiaaDoorCA5
import Derived.Test.YtibekkfbpmloiaaDoorCA6
import Derived.Test.YtibekkfbpmloiaaDoorCA7
import Derived.Test.YtibekkfbpmloiaaDoorChecked
import Derived.Test.YtibekkfbpmloiaaDoorRows
import Derived.Test.YtibekkfbpmloiaaDoorProg
import Derived.Test.YtibekkfbpmloiaaDoorShelf
import Derived.StillTailTactics
import Derived.Laws.OwnMore
import Derived.BigQuiet
import Derived.BigRegion
import Derived.Deep.QuietTactic
import Derived.Deep.RegionHeld3
import Derived.Deep.Slices
import Derived.OpenShut
import Derived.ShutString
import Derived.ChangeArms
import Derived.WideShapes
import Derived.Lib.LaidTab
import Derived.Deep.Draws
import Derived.Deep.LoopGhost
import Derived.WalkKit
import Derived.WalkSpells
import Derived.WalkSmall
import Derived.Lib.OthersKept
import Derived.Lib.Hide
import Derived.Lib.Strings
import Derived.Lib.Join
import Derived.Laws.BytesArg
import Derived.Deep.RegionWith
import Derived.OneCell
import Derived.Lib.SliceRun
import Derived.Lib.Overlaps
import Derived.Lib.AppendZerosOnto
import Derived.Laws.NewBlocks
import Derived.Laws.IdiomCopy
import Derived.Deep.RegionLaw
import Derived.ChangeVars
import Derived.Deep.DeepHandedRow
import Derived.LaidEql
import Derived.Stop.Asserts
import Derived.Below
import Derived.Stop.LaidErr
import Derived.Stop.LaidTwo
import Derived.WalkLawsBesides
import Derived.RangeFuncNested
import Derived.RangeFuncBound
import Derived.RangeFuncCalls
import Derived.RangeFuncLeaves
import Derived.RangeFuncBox
import Derived.Shelf.Abstract
import Derived.Shelf.RegionOpen
import Derived.OwnWalkIn
import Derived.TacticsInMore
import Derived.LoopNIn
import Derived.LoopIn
/- Stacks: a copy in memory of its own; StackOK of the program and of its model. Conditions (of the program's): the table of kinds, the two sentinels. -/
namespace Go.Proofs.YtibekkfbpmloiaaDoor.Recs
set_option maxRecDepth 100000
open Go.RowKit Paths Errs

theorem ssInfo : (Tryd.prog.info? 39).map (fun i => (i.zero, i.size, i.bytes)) = some (some (.slice none 0 0), 1, 24) := by kernel_rfl
/-- The first j slices of a row of slices hold the lists, each in a row of its own, apart from the others. -/
def StkUpto (w : World) (base g : Nat) (us : List Value) (LL : List (List R)) (j : Nat) : Prop :=
  (∀ i u l, i < j → us[i]? = some u → LL[i]? = some l → RowOf w base u l.length l ∧ u.ownBlock ≠ some g) ∧
  ∀ i k u u' c, i < j → k < j → us[i]? = some u → us[k]? = some u' → u.ownBlock = some c → u'.ownBlock = some c → i = k
/-- A slice of slices, all in memory of their own. -/
def StkRow (w : World) (base : Nat) (v : Value) (LL : List (List R)) : Prop :=
  ∃ g us, v = .slice (some ⟨g, 0, none⟩) LL.length LL.length ∧ us.length = LL.length ∧ w.ownsRow base 39 1 v LL.length us ∧ StkUpto w base g us LL LL.length
theorem StkRow.sl {w : World} {base : Nat} {v : Value} {LL : List (List R)} (h : StkRow w base v LL) : StkSl w v LL := by
  obtain ⟨g, us, rfl, hn, ho, h1, _⟩ := h
  refine ⟨_, _, rfl, Nat.le_refl _, fun hp => ⟨g, 0, rfl, (ho.lt g rfl).2, fun i l hi => ?_⟩⟩
  have hlt : i < LL.length := (List.getElem?_eq_some_iff.1 hi).1
  refine ⟨us[i]'(by omega), ?_, (h1 i _ l hlt (List.getElem?_eq_getElem (by omega)) hi).1.sl⟩
  have := ho.cellAt i (by omega)
  rw [List.getElem?_eq_getElem (by omega)] at this
  rw [Nat.zero_add]
  exact this
theorem StkUpto.below {w w' : World} {base g : Nat} {us : List Value} {LL : List (List R)} {j : Nat} (h : StkUpto w base g us LL j) (hb : Below w.heap.size w w') : StkUpto w' base g us LL j :=
  ⟨fun i u l hi hu hl => ⟨(h.1 i u l hi hu hl).1.below hb, (h.1 i u l hi hu hl).2⟩, h.2⟩
theorem StkRow.below {w w' : World} {base : Nat} {v : Value} {LL : List (List R)} (h : StkRow w base v LL) (hb : Below w.heap.size w w') : StkRow w' base v LL := by
  obtain ⟨g, us, rfl, hn, ho, hu⟩ := h
  exact ⟨g, us, rfl, hn, own_below ho hb, hu.below hb⟩
theorem made_nils (n : Nat) : (madeCells (Value.slice none 0 0).cells (n * 1)).toList = List.replicate n (.slice none 0 0) := by
  apply List.ext_getElem?
  intro j
  by_cases hj : j < n
  · simp [madeCells, hj, Value.cells, Nat.mod_one]
  · simp [madeCells, hj]
/-- One slice more. -/
theorem StkUpto.step {w w1 : World} {base g j n : Nat} {us : List Value} {LL : List (List R)} {x : Value} (h : StkUpto w base g us LL j) (hj : j < LL.length) (hu : us.length = LL.length) (hb1 : Below w.heap.size w w1) (hg : base ≤ g) (hgl : g < w.heap.size)
    (ho : w.ownsRow base 39 1 (.slice (some ⟨g, 0, none⟩) n n) n us) (hx : RowOf w1 w.heap.size x LL[j].length LL[j]) :
    StkUpto (w1.setCell ⟨g, j, none⟩ x) base g (us.set j x) LL (j + 1) ∧ (w1.setCell ⟨g, j, none⟩ x).ownsRow base 39 1 (.slice (some ⟨g, 0, none⟩) n n) n (us.set j x) ∧ w1.grownBy (w1.setCell ⟨g, j, none⟩ x) (some g) := by
  obtain ⟨ho1, hgr⟩ := (own_below ho hb1).stored j x
  have hxb : ∀ c, x.ownBlock = some c → w.heap.size ≤ c := fun c hc => (hx.2.lt c hc).1
  have hold : ∀ i u l, i < j → us[i]? = some u → LL[i]? = some l → ∀ c, u.ownBlock = some c → c < w.heap.size := fun i u l hi hui hl c hc => ((h.1 i u l hi hui hl).1.2.lt c hc).2
  refine ⟨⟨fun i u l hi hui hl => ?_, fun i k u u' c hi hk hui huk hc hc' => ?_⟩, ho1, hgr⟩
  · rw [List.getElem?_set] at hui
    by_cases hij : j = i
    · subst hij
      rw [if_pos rfl, if_pos (by omega)] at hui
      cases hui
      rw [List.getElem?_eq_getElem hj] at hl
      cases hl
      have hne : x.ownBlock ≠ some g := fun e => by have := hxb g e; omega
      exact ⟨⟨rfl, own_down (hx.2.kept hgr (.inr hne)) (by omega)⟩, hne⟩
    · rw [if_neg hij] at hui
      obtain ⟨h1, h2⟩ := h.1 i u l (by omega) hui hl
      exact ⟨⟨rfl, (h1.below hb1).2.kept hgr (.inr h2)⟩, h2⟩
  · rw [List.getElem?_set] at hui huk
    by_cases hij : j = i
    · by_cases hkj : j = k
      · omega
      · rw [if_pos hij, if_pos (by omega)] at hui
        rw [if_neg hkj] at huk
        cases hui
        have h1 := hxb c hc
        have h2 := hold k u' LL[k] (by omega) huk (List.getElem?_eq_getElem (by omega)) c hc'
        omega
    · rw [if_neg hij] at hui
      by_cases hkj : j = k
      · rw [if_pos hkj, if_pos (by omega)] at huk
        cases huk
        have h1 := hxb c hc'
        have h2 := hold i u LL[i] (by omega) hui (List.getElem?_eq_getElem (by omega)) c hc
        omega
      · rw [if_neg hkj] at huk
        exact h.2 i k u u' c (by omega) (by omega) hui huk hc hc'

set_option maxHeartbeats 800000 in
theorem toRecordSS_any (v : Value) (LL : List (List R)) (w : World) (h : StkSl w v LL) (hl : LL.length ≤ 1048576) (hll : ∀ l ∈ LL, l.length ≤ 1048576) :
    Calls Tryd.prog 6 #[v] w fun e w' => ∃ x, e = .returned x ∧ Below w.heap.size w w' ∧ StkRow w' w.heap.size x LL := by
  obtain ⟨i0, hi, hz0, hz1, hz2⟩ := info_parts ssInfo
  obtain ⟨A, cap, rfl, hcap, h⟩ := h
  have H := Lib.hid h
  have HL := Lib.hid hll
  clear h hll
  obtain ⟨w0, hr, hown, hg⟩ := run_make_full (P := Tryd.prog) w w.heap.size 28 39 i0 _ 1 Tryd.underlying28 hi hz0 hz1 .i64 .i64 LL.length (by rw [hz2]; omega) (by unfold maxLen; omega) (Nat.le_refl _)
  rw [made_nils] at hown
  have hb0 : Below w.heap.size w w0 := (Below.refl _ _).grown hg (Nat.le_refl _) (fun k hk => by cases hk)
  clear hg
  go_enter Tryd.func6, Tryd.ntmps6
  go_wp2
  go_loopw [4] (fun i wr => ∃ (j : Nat) (us : List Value), j ≤ LL.length ∧ i = .int .i64 j ∧ us.length = LL.length ∧ wr.ownsRow w.heap.size 39 1 (.slice (some ⟨w.heap.size, 0, none⟩) LL.length LL.length) LL.length us ∧ Hid (StkUpto wr w.heap.size w.heap.size us LL j) ∧ Below w.heap.size w wr) (fun i _ => LL.length - (intOf i).toNat)
  case atStart => exact ⟨0, _, by omega, rfl, by simp, hown, ⟨fun i _ _ hi => by omega, fun i _ _ _ _ hi => by omega⟩, hb0⟩
  case round =>
    obtain ⟨j, us, hj, rfl, hus, hrj, HU, hbw⟩ := hrel
    by_cases hlt : j < LL.length
    · obtain ⟨b, off, rfl, hb, hcell⟩ := H.out (by omega)
      obtain ⟨u, c0, hu⟩ := hcell j LL[j] (by simp [hlt])
      have c0' := (hbw.cell (p := ⟨b, off + j, none⟩) hb).trans c0
      have HE := toRecordS_any u LL[j] wr (hu.below hbw) (HL.out _ (List.getElem_mem hlt))
      obtain ⟨uA, ucap, rfl, _⟩ := hu
      clear hcell c0
      have hi1 : (j : Int) < (LL.length : Int) := by omega
      have hi0 : (0 : Int) ≤ (j : Int) := by omega
      go_wp2_with fail
      refine HE.mono ?_
      rintro e w1 ⟨x, rfl, hb1, hx⟩
      have hgl := (hrj.lt w.heap.size rfl).2
      have HST := Lib.hid (HU.out.step hlt hus hb1 (Nat.le_refl _) hgl hrj hx)
      have hbw1 := hbw.trans (hb1.mono hbw.size)
      have d0 := (own_below hrj hb1).cellAt j (by omega)
      rw [List.getElem?_eq_getElem (by omega)] at d0
      have hf := (own_below hrj hb1).frozenAt
      obtain ⟨xA, xcap, rfl⟩ := hx.form
      clear hx hrj
      go_wp2
      go_roundw
      case rel => exact ⟨j + 1, _, by omega, by go_num, by rw [List.length_set]; exact hus, HST.out.2.1, HST.out.1, hbw1.grown HST.out.2.2 hbw1.size (fun k hk => by cases hk; exact Nat.le_refl _)⟩
      case measure => simp [intOf]; omega
    · obtain rfl : j = LL.length := by omega
      go_wp2
      go_ret
      exact ⟨_, rfl, hbw, w.heap.size, us, rfl, hus, hrj, HU.out⟩

/-- A stack. -/
def stackOK (LL : List (List R)) : Bool := decide (LL.length ≤ 5) && LL.all layerOK
def stkE (LL : List (List R)) : EN := if 4096 < LL.length then .long else if stackOK LL then .fine else .inv
theorem ok_short {l : List R} : (decide (l.length ≤ 4096) && layerOK l) = layerOK l := by
  cases h : layerOK l with
  | false => simp
  | true => simp [Nat.le_trans (layer_len h) (by omega : 16 ≤ 4096)]
theorem stack_bad {LL : List (List R)} {j : Nat} (hj : j < LL.length) (h : layerOK LL[j] = false) : stackOK LL = false := by
  unfold stackOK
  have : LL.all layerOK = false := by
    rw [Bool.eq_false_iff]
    intro h2
    have := List.all_eq_true.1 h2 _ (List.getElem_mem hj)
    rw [h] at this
    cases this
  rw [this]
  simp
theorem stack_many {LL : List (List R)} (h : 5 < LL.length) : stackOK LL = false := by
  unfold stackOK
  rw [decide_eq_false (by omega)]
  rfl
theorem stack_good {LL : List (List R)} (h : LL.length ≤ 5) (ha : ∀ l ∈ LL.take LL.length, layerOK l = true) : stackOK LL = true := by
  rw [List.take_of_length_le (Nat.le_refl _)] at ha
  unfold stackOK
  rw [decide_eq_true h, List.all_eq_true.2 ha]
  rfl
theorem take_more {LL : List (List R)} {j : Nat} (hj : j < LL.length) (h : ∀ l ∈ LL.take j, layerOK l = true) (hl : layerOK LL[j] = true) : ∀ l ∈ LL.take (j + 1), layerOK l = true := by
  rw [List.take_succ_eq_append_getElem hj]
  intro l hm
  rcases List.mem_append.1 hm with hm | hm
  · exact h l hm
  · rw [List.mem_singleton.1 hm]; exact hl

set_option maxHeartbeats 800000 in
theorem l05Stack_any (v : Value) (LL : List (List R)) (w : World) (h : StkSl w v LL) (hl : LL.length ≤ 1048576) (hll : ∀ l ∈ LL, l.length ≤ 1048576) :
    Calls Tryd.prog 11 #[v] w fun e w' => e = .returned (.bool (stackOK LL)) ∧ Below w.heap.size w w' := by
  obtain ⟨A, cap, rfl, hcap, h⟩ := h
  have H := Lib.hid h
  have HL := Lib.hid hll
  clear h hll
  by_cases h5 : 5 < LL.length
  · have hd : decide ((5 : Int) < (LL.length : Int)) = true := by simp; omega
    have HE := Lib.hid (stack_many h5)
    go_enter Tryd.func11, Tryd.ntmps11
    go_wp2_with fail
    go_ret
    exact ⟨ret_bool HE.out.symm, Below.refl _ _⟩
  have hd : decide ((5 : Int) < (LL.length : Int)) = false := by simp; omega
  go_enter Tryd.func11, Tryd.ntmps11
  go_wp2
  go_loopw [3] (fun i wr => ∃ (j : Nat), j ≤ LL.length ∧ i = .int .i64 j ∧ Hid (∀ l ∈ LL.take j, layerOK l = true) ∧ Below w.heap.size w wr) (fun i _ => LL.length - (intOf i).toNat)
  case atStart => exact ⟨0, by omega, rfl, (fun l hl => by simp at hl), Below.refl _ _⟩
  case round =>
    obtain ⟨j, hj, rfl, HA, hbw⟩ := hrel
    by_cases hlt : j < LL.length
    · obtain ⟨b, off, rfl, hb, hcell⟩ := H.out (by omega)
      obtain ⟨u, c0, hu⟩ := hcell j LL[j] (by simp [hlt])
      have c0' := (hbw.cell (p := ⟨b, off + j, none⟩) hb).trans c0
      have HE := l03OK_any u LL[j] wr (hu.below hbw) (HL.out _ (List.getElem_mem hlt))
      obtain ⟨uA, ucap, rfl, _⟩ := hu
      clear hcell c0
      have hi1 : (j : Int) < (LL.length : Int) := by omega
      have hi0 : (0 : Int) ≤ (j : Int) := by omega
      go_wp2_with fail
      refine HE.mono ?_
      rintro e w1 ⟨rfl, hb1⟩
      have hbw1 := hbw.trans (hb1.mono hbw.size)
      cases hk : layerOK LL[j] with
      | false =>
        have HB := Lib.hid (stack_bad hlt hk)
        go_wp2_with fail
        go_ret
        exact ⟨ret_bool HB.out.symm, hbw1⟩
      | true =>
        have HB := Lib.hid (take_more hlt HA.out hk)
        go_wp2_with fail
        go_roundw
        case rel => exact ⟨j + 1, by omega, by go_num, HB.out, hbw1⟩
        case measure => simp [intOf]; omega
    · obtain rfl : j = LL.length := by omega
      have HE := Lib.hid (stack_good (by omega) HA.out)
      go_wp2
      go_ret
      exact ⟨ret_bool HE.out.symm, hbw⟩

set_option maxHeartbeats 800000 in
theorem checkStack_any (v : Value) (LL : List (List R)) (x y : Addr) (w : World) (h : StkSl w v LL) (hl : LL.length ≤ 1048576) (hll : ∀ l ∈ LL, l.length ≤ 1048576 ∧ ∀ r ∈ l, r.p.size ≤ maxLen) (hT : Three w x y) :
    Calls Tryd.prog 27 #[v] w fun e w' => e = .returned ((stkE LL).val x y) ∧ Below w.heap.size w w' := by
  obtain ⟨A, cap, rfl, hcap, h⟩ := h
  have H := Lib.hid h
  have HL := Lib.hid hll
  clear h hll
  have hx := hT.long
  have hy := hT.bad
  by_cases h4 : 4096 < LL.length
  · have hd : decide ((4096 : Int) < (LL.length : Int)) = true := by simp; omega
    have HE : Hid (stkE LL = .long) := if_pos h4
    unfold errV at hx
    go_enter Tryd.func27, Tryd.ntmps27
    go_wp2_with fail
    go_ret
    exact ⟨by rw [HE.out]; rfl, Below.refl _ _⟩
  have hd4 : decide ((4096 : Int) < (LL.length : Int)) = false := by simp; omega
  have hinv : stackOK LL = false → stkE LL = .inv := fun hh => by unfold stkE; rw [if_neg h4, hh]; rfl
  have hfine : stackOK LL = true → stkE LL = .fine := fun hh => by unfold stkE; rw [if_neg h4, if_pos hh]
  by_cases h5 : 5 < LL.length
  · have hd : decide ((5 : Int) < (LL.length : Int)) = true := by simp; omega
    have HE := Lib.hid (hinv (stack_many h5))
    clear hinv hfine
    unfold errV at hy
    go_enter Tryd.func27, Tryd.ntmps27
    go_wp2_with fail
    go_ret
    exact ⟨by rw [HE.out]; rfl, Below.refl _ _⟩
  have hd : decide ((5 : Int) < (LL.length : Int)) = false := by simp; omega
  have HINV := Lib.hid hinv
  have HFINE := Lib.hid hfine
  have HT := Lib.hid hT
  clear hinv hfine hx hy hT
  go_enter Tryd.func27, Tryd.ntmps27
  go_wp2
  go_loopw [15] (fun i wr => ∃ (j : Nat), j ≤ LL.length ∧ i = .int .i64 j ∧ Hid (∀ l ∈ LL.take j, layerOK l = true) ∧ Below w.heap.size w wr) (fun i _ => LL.length - (intOf i).toNat)
  case atStart => exact ⟨0, by omega, rfl, (fun l hl => by simp at hl), Below.refl _ _⟩
  case round =>
    obtain ⟨j, hj, rfl, HA, hbw⟩ := hrel
    by_cases hlt : j < LL.length
    · obtain ⟨b, off, rfl, hb, hcell⟩ := H.out (by omega)
      obtain ⟨u, c0, hu⟩ := hcell j LL[j] (by simp [hlt])
      have c0' := (hbw.cell (p := ⟨b, off + j, none⟩) hb).trans c0
      have hTr := HT.out.below hbw (Nat.le_refl _)
      obtain ⟨hl1, hl2⟩ := HL.out _ (List.getElem_mem hlt)
      have HE := layerOK_impl u LL[j] x wr (hu.below hbw) hl1 hl2 hTr.tab hTr.long
      rw [ok_short] at HE
      obtain ⟨uA, ucap, rfl, _⟩ := hu
      clear hcell c0 hl1 hl2
      have hi1 : (j : Int) < (LL.length : Int) := by omega
      have hi0 : (0 : Int) ≤ (j : Int) := by omega
      go_wp2_with fail
      refine HE.mono ?_
      rintro e w1 ⟨rfl, hb1⟩
      have hbw1 := hbw.trans (hb1.mono hbw.size)
      have hy := (hTr.below hb1 (Nat.le_refl _)).bad
      clear hTr
      unfold errV at hy
      cases hk : layerOK LL[j] with
      | false =>
        have HB := Lib.hid (HINV.out (stack_bad hlt hk))
        go_wp2_with fail
        go_ret
        exact ⟨by rw [HB.out]; rfl, hbw1⟩
      | true =>
        have HB := Lib.hid (take_more hlt HA.out hk)
        go_wp2_with fail
        go_roundw
        case rel => exact ⟨j + 1, by omega, by go_num, HB.out, hbw1⟩
        case measure => simp [intOf]; omega
    · obtain rfl : j = LL.length := by omega
      have HE := Lib.hid (HFINE.out (stack_good (by omega) HA.out))
      go_wp2
      go_ret
      exact ⟨by rw [HE.out]; rfl, hbw⟩

end Go.Proofs.YtibekkfbpmloiaaDoor.Recs

/- The code of a call with a stack. Conditions: the table of kinds, the two sentinels. -/
namespace Go.Proofs.YtibekkfbpmloiaaDoor.Recs
set_option maxRecDepth 100000
open Go.RowKit Paths Errs

theorem stack_of {LL : List (List R)} (h : stackOK LL = true) : LL.length ≤ 5 ∧ ∀ l ∈ LL, layerOK l = true := by
  unfold stackOK at h
  rw [Bool.and_eq_true] at h
  exact ⟨by simpa using h.1, fun l hm => (List.all_eq_true.1 h.2) l hm⟩
theorem stackU_any (v : Value) (LL : List (List R)) (x y : Addr) (w : World) (h : StkSl w v LL) (hl : LL.length ≤ 1048576) (hll : ∀ l ∈ LL, l.length ≤ 1048576 ∧ ∀ r ∈ l, r.p.size ≤ maxLen) (hT : Three w x y) :
    Calls Tryd.prog 27 #[v] w fun e w' => e = .returned ((stkE LL).u.val x y) ∧ Below w.heap.size w w' := by
  rw [EN.u_val]
  exact checkStack_any v LL x y w h hl hll hT
theorem StkSl.form {w : World} {v : Value} {LL : List (List R)} (h : StkSl w v LL) : ∃ A cap, v = .slice A LL.length cap := by
  obtain ⟨A, cap, rfl, _⟩ := h
  exact ⟨A, cap, rfl⟩
end Go.Proofs.YtibekkfbpmloiaaDoor.Recs

/- The highest layer that cuts a path off: of the program (a range over the library's slices.Backward) and of its model; CutDepth. Conditions (of the program's): the table of kinds, the two sentinels. -/
namespace Go.Proofs.YtibekkfbpmloiaaDoor.Recs
set_option maxRecDepth 100000
open Go.RowKit Paths Errs Go.Shelf
attribute [local go_sem] Oper.semAt_some

theorem cut_none {LL : List (List R)} {q : ByteArray} : ∀ m, m ≤ LL.length → (∀ i (h : i < LL.length), cutsL LL[i] q = false) → cutD (LL.take m) q = 0
  | 0, _, _ => rfl
  | m + 1, hm, h => by
    rw [cut_take (by omega), h m (by omega)]
    exact cut_none m (by omega) h
theorem cut_stays {LL : List (List R)} {q : ByteArray} {k : Nat} : ∀ m, k ≤ m → m ≤ LL.length → (∀ i (h : i < LL.length), k ≤ i → cutsL LL[i] q = false) → cutD (LL.take m) q = cutD (LL.take k) q
  | 0, hk, _, _ => by
    obtain rfl : k = 0 := by omega
    rfl
  | m + 1, hk, hm, h => by
    rcases Nat.lt_or_ge m k with h1 | h1
    · obtain rfl : k = m + 1 := by omega
      rfl
    · rw [cut_take (by omega), h m (by omega) h1]
      exact cut_stays m h1 (by omega) h
theorem cut_here {LL : List (List R)} {q : ByteArray} {k : Nat} (hk : k < LL.length) (hc : cutsL LL[k] q = true) (h : ∀ i (h : i < LL.length), k + 1 ≤ i → cutsL LL[i] q = false) : cutD LL q = k + 1 := by
  have := cut_stays (k := k + 1) LL.length (by omega) (Nat.le_refl _) h
  rw [List.take_length, cut_take hk, hc] at this
  exact this
theorem cut_all0 {LL : List (List R)} {q : ByteArray} (h : ∀ i (h : i < LL.length), cutsL LL[i] q = false) : cutD LL q = 0 := by
  have := cut_none LL.length (Nat.le_refl _) h
  rw [List.take_length] at this
  exact this

/-- A layer as the iterator hands it out. -/
structure Itm (LL : List (List R)) (w0 : World) where
  i : Nat
  u : Value
  lt : i < LL.length
  sl : RecSl w0 u LL[i]
def dn (n : Nat) : List Nat := (List.range n).reverse
theorem dn_succ (n : Nat) : dn (n + 1) = n :: dn n := by unfold dn; rw [List.range_succ, List.reverse_append]; rfl
theorem dn_mem {n i : Nat} : i ∈ dn n ↔ i < n := by unfold dn; rw [List.mem_reverse, List.mem_range]
theorem dn_last {ini : List Nat} {x k n : Nat} (h : ini ++ [x] ++ dn k = dn n) : x = k ∧ ∀ j, k < j → j < n → j ∈ ini := by
  have hx : x = k := by
    induction n generalizing ini with
    | zero => cases ini <;> simp [dn] at h
    | succ n ih =>
      rw [dn_succ] at h
      cases ini with
      | nil =>
        have h1 : x :: dn k = n :: dn n := h
        have e1 : x = n := (List.cons.inj h1).1
        have e2 : dn k = dn n := (List.cons.inj h1).2
        have e3 : k = n := by
          have := congrArg List.length e2
          simpa [dn] using this
        omega
      | cons a t =>
        have h1 : a :: (t ++ [x] ++ dn k) = n :: dn n := h
        exact ih (ini := t) (List.cons.inj h1).2
  refine ⟨hx, fun j h1 h2 => ?_⟩
  have : j ∈ dn n := dn_mem.2 h2
  rw [← h] at this
  rcases List.mem_append.1 this with h3 | h3
  · rcases List.mem_append.1 h3 with h3 | h3
    · exact h3
    · rw [List.mem_singleton.1 h3] at h1; omega
  · have := dn_mem.1 h3; omega
theorem others_of {w w' : World} (h : Below w.heap.size w w') : KeepsOthers w w' := ⟨h.size, fun k _ hk _ => (h.block k (Array.getElem?_eq_some_iff.1 hk).1).trans hk⟩

theorem backward_any (v : Value) (A : Option Addr) (n cap : Nat) (hv : v = .slice A n cap) (w : World) :
    Calls Tryd.prog 43 #[v] w fun e w' => e = .returned (.func (.func 54) #[] #[.pointer (some ⟨w.heap.size, 0, none⟩)]) ∧ w' = w.alloc (.cells #[v] 28) := by
  subst hv
  go_enter Tryd.func43, Tryd.ntmps43
  go_wp2_with fail
  go_ret
  exact ⟨rfl, rfl⟩

set_option maxHeartbeats 2000000 in
/-- slices.Backward's iterator over a stack, for every loop body. -/
theorem back1_in (F : Fence) (n : Nat) (hF : F.fn 54) (hro : F.round = none) (hn : 1 ≤ n) (l Bs : Nat) (v : Value) (LL : List (List R)) (w0 : World) (hsl : StkSl w0 v LL) (hBs : w0.cell? ⟨Bs, 0, none⟩ = some v) (hBl : Bs < w0.heap.size) (hlen : LL.length ≤ 1048576)
    (J Jx : List (Itm LL w0) → World → Prop)
    (hY : ∀ pre x W, J pre W → pre.length < LL.length → YieldAt F (n - 1) Tryd.prog l #[.int .i64 (x.i : Int), x.u] W fun e W' =>
      (e = .returned (.bool true) ∧ J (pre ++ [x]) W' ∧ Below w0.heap.size W W') ∨ (e = .returned (.bool false) ∧ Jx (pre ++ [x]) W'))
    (W : World) (hW : Below w0.heap.size w0 W) (h0 : J [] W) :
    CallsIn F n Tryd.prog 54 #[.func (.yield l) #[] #[], .pointer (some ⟨Bs, 0, none⟩)] W fun e W' => (∃ v, e = .returned v) ∧
      ((∃ xs : List (Itm LL w0), xs.map Itm.i = dn LL.length ∧ J xs W') ∨ (∃ pre : List (Itm LL w0), (∃ k, pre.map Itm.i ++ dn k = dn LL.length) ∧ Jx pre W')) := by
  obtain ⟨A, cap, rfl, hcap, h⟩ := hsl
  have H := Lib.hid h
  clear h
  have hbs : W.cell? ⟨Bs, 0, none⟩ = some (.slice A LL.length cap) := (hW.cell (p := ⟨Bs, 0, none⟩) hBl).trans hBs
  refine callsIn_of_wp Tryd.func54 rfl hF ?_ hro
  simp only [Tryd.ntmps54, List.size_toArray, List.length_cons, List.length_nil, Nat.reduceAdd, Nat.reduceSub, Array.replicate_succ, Array.replicate_zero, List.push_toArray, List.append_toArray, List.nil_append, List.cons_append]
  gi_wp2
  gi_loopw [3] (fun i wr => ∃ (k : Nat) (z : Int) (pre : List (Itm LL w0)), k ≤ LL.length ∧ i = .int .i64 z ∧ Hid (z = (k : Int) - 1) ∧ Hid (pre.map Itm.i ++ dn k = dn LL.length) ∧ J pre wr ∧ Below w0.heap.size w0 wr)
    (fun i _ => (intOf i + 1).toNat)
  case atStart => exact ⟨LL.length, _, [], Nat.le_refl _, rfl, rfl, rfl, h0, hW⟩
  case round =>
    obtain ⟨k, z, pre, hk, rfl, HZ, HP, hJ, hb⟩ := hrel
    have hbs2 : wr.cell? ⟨Bs, 0, none⟩ = some (.slice A LL.length cap) := (hb.cell (p := ⟨Bs, 0, none⟩) hBl).trans hBs
    cases k with
    | zero =>
      have hz : z = -1 := HZ.out
      subst hz
      gi_wp2
      go_end0
      exact ⟨⟨_, rfl⟩, .inl ⟨pre, by have := HP.out; rw [show dn 0 = [] from rfl, List.append_nil] at this; exact this, hJ⟩⟩
    | succ m =>
      have hz : z = (m : Int) := by have := HZ.out; omega
      subst hz
      obtain ⟨b, off, rfl, hbl, hcell⟩ := H.out (by omega)
      obtain ⟨u, hu0, hur⟩ := hcell m LL[m] (by rw [List.getElem?_eq_getElem (by omega)])
      have hu : wr.cell? ⟨b, off + m, none⟩ = some u := (hb.cell (p := ⟨b, off + m, none⟩) hbl).trans hu0
      have hpl : pre.length < LL.length := by
        have := congrArg List.length HP.out
        simp [dn] at this
        omega
      obtain ⟨fn, tmps, assign, body, hy, hR⟩ := hY pre ⟨m, u, by omega, hur⟩ wr hJ hpl
      dsimp only at hy
      have hi1 : (m : Int) < (LL.length : Int) := by omega
      have hi0 : (0 : Int) ≤ (m : Int) := by omega
      have HN : Hid ((pre ++ [(⟨m, u, by omega, hur⟩ : Itm LL w0)]).map Itm.i ++ dn m = dn LL.length) := by
        show _ = _
        rw [← HP.out, dn_succ, List.map_append]
        simp
      clear hcell hu0 hpl
      gi_wp2
      refine hR.mono ?_
      rintro e W3 (⟨rfl, hJ3, hk3⟩ | ⟨rfl, hJx3⟩)
      · gi_wp2
        go_roundw
        case rel => exact ⟨m, (m : Int) - 1, _, by omega, rfl, rfl, HN, hJ3, hb.trans hk3⟩
        case measure => simp [intOf]
      · gi_wp2
        refine bodyPost_ret (results_none rfl _ _ _) rfl ?_
        exact ⟨⟨_, rfl⟩, .inr ⟨_, ⟨m, HN.out⟩, hJx3⟩⟩

theorem back_stops (F : Fence) (n : Nat) (hF : F.fn 54) (hro : F.round = none) (hn : 1 ≤ n) (Bs : Nat) (v : Value) (LL : List (List R)) (w0 : World) (hsl : StkSl w0 v LL) (hBs : w0.cell? ⟨Bs, 0, none⟩ = some v) (hBl : Bs < w0.heap.size) (hlen : LL.length ≤ 1048576) :
    SeqStopsK F n Tryd.prog 54 #[.pointer (some ⟨Bs, 0, none⟩)] (fun x : Itm LL w0 => #[.int .i64 (x.i : Int), x.u]) (Below w0.heap.size) (fun xs => xs.map Itm.i = dn LL.length) (fun pre => ∃ k, pre.map Itm.i ++ dn k = dn LL.length) LL.length w0 := fun l J Jx W hW _ _ hY h0 =>
  back1_in F n hF hro hn l Bs v LL w0 hsl hBs hBl hlen J Jx hY W hW h0

/-- The number of the last layer handed out. -/
def lastI {LL : List (List R)} {w0 : World} (pre : List (Itm LL w0)) : Int := ((pre.getLast?.map fun x => (x.i : Int) + 1)).getD 0
def cutStop {LL : List (List R)} {w0 : World} (q : ByteArray) (pre : List (Itm LL w0)) : Prop := ∃ ini x, pre = ini ++ [x] ∧ (∀ y ∈ ini, cutsL (LL[y.i]'y.lt) q = false) ∧ cutsL (LL[x.i]'x.lt) q = true
theorem cut_done {LL : List (List R)} {w0 : World} {q : ByteArray} {xs : List (Itm LL w0)} (h : xs.map Itm.i = dn LL.length) (hc : ∀ y ∈ xs, cutsL (LL[y.i]'y.lt) q = false) : cutD LL q = 0 :=
  cut_all0 fun i hi => by
    have : i ∈ xs.map Itm.i := by rw [h]; exact dn_mem.2 hi
    obtain ⟨y, hy, rfl⟩ := List.mem_map.1 this
    exact hc y hy
theorem cut_stopped {LL : List (List R)} {w0 : World} {q : ByteArray} {pre : List (Itm LL w0)} (h : ∃ k, pre.map Itm.i ++ dn k = dn LL.length) (hc : cutStop q pre) : lastI pre = (cutD LL q : Int) := by
  obtain ⟨ini, x, rfl, h1, h2⟩ := hc
  obtain ⟨k, hk⟩ := h
  rw [List.map_append] at hk
  obtain ⟨h3, h4⟩ := dn_last hk
  have := cut_here x.lt h2 fun i hi hxi => by
    have hm := h4 i (by omega) hi
    obtain ⟨y, hy, rfl⟩ := List.mem_map.1 hm
    exact h1 y hy
  rw [this]
  simp [lastI]

set_option maxHeartbeats 2000000 in
theorem cutDepth_in (F : Fence) (n : Nat) (hF : F.fn 32) (hBk : F.fn 43) (hB1 : F.fn 54) (hro : F.round = none) (hn : 6 ≤ n) (hw : F = Fence.wide ∧ n = 6) (v : Value) (LL : List (List R)) (q : ByteArray) (w : World) (h : StkSl w v LL) (hlen : LL.length ≤ 1048576) (hok : ∀ l ∈ LL, layerOK l = true) (hq : pathB q.data.toList = true) (hqm : q.size ≤ maxLen) (hr : ∀ l ∈ LL, ∀ r ∈ l, r.p.size ≤ maxLen) :
    CallsIn F n Tryd.prog 32 #[v, .string q] w fun e w' => e = .returned (.int .i64 (cutD LL q)) ∧ Below w.heap.size w w' := by
  have h1 : 1 ≤ n := by omega
  obtain ⟨vA, vcap, hve⟩ := h.form
  have HCU : Hid (∀ (w0 : World) (x : Itm LL w0) (W : World), Below w0.heap.size w0 W → Calls Tryd.prog 44 #[x.u, .string q] W fun e w'' => e = .returned (.bool (cutsL (LL[x.i]'x.lt) q)) ∧ Below W.heap.size W w'') := fun w0 x W hW => by
    have hk := hok _ (List.getElem_mem x.lt)
    rw [← cuts_same (layer_sorted hk) (fun _ hm => layer_rec hk hm) hq]
    exact cutsOff_any x.u _ q W (x.sl.below hW) (by have := layer_len hk; omega) hqm (hr _ (List.getElem_mem x.lt))
  have hBW := backward_any v vA LL.length vcap hve
  refine callsIn_of_wp_marks Tryd.func32 rfl hF ?_ hro
  simp only [Tryd.ntmps32, List.size_toArray, List.length_cons, List.length_nil, Nat.reduceAdd, Nat.reduceSub, Array.replicate_succ, Array.replicate_zero, List.push_toArray, List.append_toArray, List.nil_append, List.cons_append]
  obtain ⟨rfl, rfl⟩ := hw
  rw [hve] at hBW ⊢
  gi_wp2
  refine (callsIn_wide.2 (hBW _)).mono ?_
  rintro e w' ⟨rfl, rfl⟩
  gi_wp2
  obtain ⟨W0, hW0⟩ : ∃ W0, ((w.alloc (.cells #[.string q] 9)).alloc (.cells #[.int .i64 0] 3)).alloc (.cells #[.slice vA LL.length vcap] 28) = W0 := ⟨_, rfl⟩
  have hb0 : Below w.heap.size w W0 := by rw [← hW0]; exact (((Below.refl _ w).alloc (Nat.le_refl _) _).alloc (by simp) _).alloc (by simp; omega) _
  have hs0 : W0.heap.size = w.heap.size + 3 := by rw [← hW0]; simp
  have hbq : Boxed W0 w.heap.size 9 (.string q) := by rw [← hW0]; exact ((Boxed.new w _ _).alloc _).alloc _
  have hbr : Boxed W0 (w.heap.size + 1) 3 (.int .i64 0) := by
    rw [← hW0]
    have := Boxed.new (w.alloc (.cells #[.string q] 9)) 3 (.int .i64 0)
    rw [World.size_alloc] at this
    exact this.alloc _
  have hbs : Boxed W0 (w.heap.size + 1 + 1) 28 (.slice vA LL.length vcap) := by
    rw [← hW0]
    have := Boxed.new ((w.alloc (.cells #[.string q] 9)).alloc (.cells #[.int .i64 0] 3)) 28 (.slice vA LL.length vcap)
    rw [World.size_alloc, World.size_alloc] at this
    exact this
  have hsl0 : StkSl W0 (.slice vA LL.length vcap) LL := hve ▸ h.below hb0
  rw [hW0]
  refine wpIn_rangeFunc_ownF hro h1 (gf := 54) (lb := #[.pointer (some ⟨w.heap.size + 1 + 1, 0, none⟩)]) rfl hB1 (enters_of Tryd.func54 (by kernel_rfl) rfl)
    (back_stops Fence.wide (6 - 1) hB1 hro (by omega) (w.heap.size + 1 + 1) (.slice vA LL.length vcap) LL W0 hsl0 hbs.cell hbs.lt hlen) belowK_t (belowK_b (Nat.le_refl _)) (Below.refl _ _) (fun _ => rfl)
    (fun pre W => (∀ y ∈ pre, cutsL (LL[y.i]'y.lt) q = false) ∧ Below W0.heap.size W0 W)
    (fun c pre W => (c = .ret ∧ cutStop q pre) ∧ Boxed W (w.heap.size + 1) 3 (.int .i64 (lastI pre)) ∧ Below w.heap.size w W)
    (OwnFrom.and (ownFrom_pure _ _) (ownFrom_below (Nat.le_refl _) (Nat.le_refl _)))
    (fun c => OwnFrom.and (ownFrom_pure _ _) (OwnFrom.and (Own.from (boxed_own (w.heap.size + 1) 3 (fun pre => .int .i64 (lastI pre))) _) (ownFrom_below (Nat.le_refl _) hb0.size)))
    ⟨(fun y hy => by cases hy), Below.refl _ _⟩
    (fun x => { tmps := #[.slice vA LL.length vcap, .string q, undef, .pointer (some ⟨w.heap.size, 0, none⟩), .pointer (some ⟨w.heap.size + 1, 0, none⟩), .int .i64 (x.i : Int), x.u, .slice vA LL.length vcap, .func (.func 54) #[] #[.pointer (some ⟨w.heap.size + 1 + 1, 0, none⟩)], .int .i64 (x.i : Int), x.u, undef, undef, undef, undef, undef], defers := [] }) ?assign ?body ?done ?stop
  case assign =>
    intro l x W K hK
    gi_wp2
    exact hK
  case body =>
    rintro l pre x W ⟨hp, hB⟩ hlt
    have hqc := (hbq.kept (W' := W) (row := none) ⟨hB.os, hB.tape, hB.output, hB.size, fun k hk _ => hB.block k hk⟩ (by simp)).cell
    have HC := HCU.out W0 x W hB
    have hxl := x.lt
    rcases Bool.eq_false_or_eq_true (cutsL (LL[x.i]'x.lt) q) with hc | hc
    · rw [hc] at HC
      have HP := Lib.hid (show cutStop q (pre ++ [x]) from ⟨pre, x, rfl, hp, hc⟩)
      have HL : Hid (lastI (pre ++ [x]) = (x.i : Int) + 1) := by show _ = _; simp [lastI]
      have hbb : Boxed W (w.heap.size + 1) 3 (.int .i64 0) := (hB.block _ hbr.lt).trans hbr
      gi_wp2
      refine ⟨trivial, (CallsIn.inRound l (callsIn_wide.2 HC)).mono ?_⟩
      rintro e W1 ⟨rfl, hb1⟩
      have hb1c : Boxed W1 (w.heap.size + 1) 3 (.int .i64 0) := (hb1.block _ hbb.lt).trans hbb
      have hcc := hb1c.cell
      have hcf := hb1c.frozen
      gi_wp2
      refine ⟨(others_of hb1).trans (KeepsOthers.setCell _ _ _), ⟨rfl, HP.out⟩, ?_, ?_⟩
      · rw [HL.out]
        exact hb1c.set _
      · exact (hb0.trans ((hB.mono hb0.size).trans (hb1.mono (by have := hB.size; omega)))).setCell (p := ⟨w.heap.size + 1, 0, none⟩) (by simp) _
    · rw [hc] at HC
      have HP : Hid (∀ y ∈ pre ++ [x], cutsL (LL[y.i]'y.lt) q = false) := fun y hy => by
        rcases List.mem_append.1 hy with hy | hy
        · exact hp y hy
        · rw [List.mem_singleton.1 hy]; exact hc
      gi_wp2
      refine ⟨trivial, (CallsIn.inRound l (callsIn_wide.2 HC)).mono ?_⟩
      rintro e W1 ⟨rfl, hb1⟩
      gi_wp2
      exact ⟨others_of hb1, hb1.mono hB.size, HP.out, hB.trans (hb1.mono hB.size)⟩
  case done =>
    rintro D xs W hD hS ⟨hp, hB⟩ hK
    have HE := Lib.hid (cut_done hS hp)
    have hbb : Boxed W (w.heap.size + 1) 3 (.int .i64 0) := (hB.block _ hbr.lt).trans hbr
    have hcc := hbb.cell
    have hcf := hbb.frozen
    clear hp
    gi_wp2
    have hK' := (KeepsOthers.setCell W ⟨w.heap.size + 1, 0, none⟩ (.int .i64 0)).same D _ hK rfl
    refine ⟨by simp, .inl ⟨_, _, rfl, run_takeDeferred hK', ?_⟩⟩
    have hc5 := cell_kept (hbb.set (.int .i64 0)).cell (grownBy_putObj' _ D (.deferred none)) (fun r e => by cases e; exact ⟨_, hK', rfl⟩)
    refine ⟨.int .i64 0, ?_, by rw [HE.out]; rfl, ?_⟩
    · simp [results, Tryd.f32, go_sem, hc5]
    · exact ((hb0.trans (hB.mono hb0.size)).setCell (p := ⟨w.heap.size + 1, 0, none⟩) (by simp) _).trans (belowK_b (w := w) (Nat.le_refl _) _ D _ _ (by omega) hK' rfl rfl)
  case stop =>
    rintro D c pre W hD hS ⟨⟨rfl, hst⟩, hbx, hB⟩ hK
    have HE := Lib.hid (cut_stopped hS hst)
    gi_wp2
    refine ⟨by simp, .inl ⟨_, _, rfl, run_takeDeferred hK, ?_⟩⟩
    have hc5 := cell_kept hbx.cell (grownBy_putObj' _ D (.deferred none)) (fun r e => by cases e; exact ⟨_, hK, rfl⟩)
    refine ⟨.int .i64 (lastI pre), ?_, by rw [HE.out], ?_⟩
    · simp [results, Tryd.f32, go_sem, hc5]
    · exact hB.trans (belowK_b (w := w) (Nat.le_refl _) _ D _ _ (by omega) hK rfl rfl)
theorem cutDepth_any (v : Value) (LL : List (List R)) (q : ByteArray) (w : World) (h : StkSl w v LL) (hlen : LL.length ≤ 1048576) (hok : ∀ l ∈ LL, layerOK l = true) (hq : pathB q.data.toList = true) (hqm : q.size ≤ maxLen) (hr : ∀ l ∈ LL, ∀ r ∈ l, r.p.size ≤ maxLen) :
    Calls Tryd.prog 32 #[v, .string q] w fun e w' => e = .returned (.int .i64 (cutD LL q)) ∧ Below w.heap.size w w' :=
  callsIn_wide.1 (cutDepth_in Fence.wide 6 trivial trivial trivial rfl (by omega) ⟨rfl, rfl⟩ v LL q w h hlen hok hq hqm hr)
end Go.Proofs.YtibekkfbpmloiaaDoor.Recs
