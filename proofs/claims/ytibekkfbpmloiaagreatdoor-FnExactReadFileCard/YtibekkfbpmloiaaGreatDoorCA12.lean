/- Parts of several texts of mine in one file (each begins with its own remark). -/
import Derived.Test.YtibekkfbpmloiaaGreatDoorCA1
import Derived.Test.YtibekkfbpmloiaaGreatDoorCA10
import Derived.Test.YtibekkfbpmloiaaGreatDoorCA11
import Derived.Test.YtibekkfbpmloiaaGreatDoorCA2
import Derived.Test.YtibekkfbpmloiaaGreatDoorCA3
import Derived.Test.YtibekkfbpmloiaaGreatDoorCA4
import Derived.Test.YtibekkfbpmloiaaGreatDoorCA5
import Derived.Test.YtibekkfbpmloiaaGreatDoorCA6
import Derived.Test.YtibekkfbpmloiaaGreatDoorCA7
import Derived.Test.YtibekkfbpmloiaaGreatDoorCA8
import Derived.Test.YtibekkfbpmloiaaGreatDoorCA9
import Derived.Test.YtibekkfbpmloiaaGreatDoorChecked
import Derived.Test.YtibekkfbpmloiaaGreatDoorRows
import Derived.Test.YtibekkfbpmloiaaGreatDoorProg
import Derived.Test.YtibekkfbpmloiaaGreatDoorShelf
import Derived.StillTailTactics
import Derived.Laws.OwnMore
import Derived.BigQuiet
import Derived.BigRegion
import Derived.Deep.QuietTactic
import Derived.Deep.RegionHeld3
import Derived.Deep.Slices
import Derived.OpenShut
import Derived.ShutString
import Derived.ChangeArms
import Derived.WideShapes
import Derived.Lib.LaidTab
import Derived.Deep.Draws
import Derived.Deep.LoopGhost
import Derived.WalkKit
import Derived.WalkSpells
import Derived.WalkSmall
import Derived.Lib.OthersKept
import Derived.Lib.Hide
import Derived.Lib.Strings
import Derived.Lib.Join
import Derived.Laws.BytesArg
import Derived.Deep.RegionWith
import Derived.OneCell
import Derived.Lib.SliceRun
import Derived.Lib.Overlaps
import Derived.Lib.AppendZerosOnto
import Derived.Laws.NewBlocks
import Derived.Laws.IdiomCopy
import Derived.Deep.RegionLaw
import Derived.ChangeVars
import Derived.Deep.DeepHandedRow
import Derived.LaidEql
import Derived.Stop.Asserts
import Derived.Below
import Derived.Stop.LaidErr
import Derived.Stop.LaidTwo
import Derived.WalkLawsBesides
/- Stacks: slices of slices of records: what the memory holds; one that came in; the laws' own size, copy and comparison of them. -/
namespace Go.Proofs.YtibekkfbpmloiaaGreatDoor.Recs
set_option maxRecDepth 100000
open Go.RowKit Paths Go.WideShapes Go.ChangeShapes

/-- A slice of slices that reads as the lists LL. -/
def StkSl (w : World) (v : Value) (LL : List (List R)) : Prop :=
  ∃ A cap, v = .slice A LL.length cap ∧ LL.length ≤ cap ∧ (0 < LL.length → ∃ b off, A = some ⟨b, off, none⟩ ∧ b < w.heap.size ∧ ∀ i l, LL[i]? = some l → ∃ u, w.cell? ⟨b, off + i, none⟩ = some u ∧ RecSl w u l)
theorem StkSl.below {w w' : World} {v : Value} {LL : List (List R)} (h : StkSl w v LL) (hb : Below w.heap.size w w') : StkSl w' v LL := by
  obtain ⟨A, cap, rfl, hc, h⟩ := h
  refine ⟨A, cap, rfl, hc, fun hn => ?_⟩
  obtain ⟨b, off, rfl, hlt, hcell⟩ := h hn
  refine ⟨b, off, rfl, Nat.lt_of_lt_of_le hlt hb.size, fun i l hi => ?_⟩
  obtain ⟨u, h1, h2⟩ := hcell i l hi
  exact ⟨u, (hb.cell (p := ⟨b, off + i, none⟩) hlt).trans h1, h2.below hb⟩

section
variable {H : Type} {enc : TypeId × Value → H} {w : World} {base : Nat} {spare : Nat → Bool} {held : Bool}
theorem cSS : Tryz.prog.cellsOf 46 = 1 := by kernel_rfl
/-- The lists of a slice of slices of records that came in. -/
theorem open_stk {t : TypeId} {fuel : Nat} {cs : List Value} {x : DataW H × List MemPlace} (ht : Tryz.prog.underlying t = some (.slice 46))
    (h : DataW.trod enc Tryz.prog w base spare held fuel t cs = some x) :
    ∃ (v : Value) (LL : List (List R)), cs = [v] ∧ StkSl w v LL ∧ LL.length ≤ maxLen ∧ ∀ l ∈ LL, l.length ≤ maxLen ∧ ∀ r ∈ l, r.p.size ≤ maxLen ∧ r.b.size ≤ maxLen := by
  rcases DataW.trod_slice ht h with ⟨rfl, _⟩ | ⟨a, len, cap, elems, rest, n, _, rfl, _, _, hl, hm0, hel, hat, _, _⟩
  · exact ⟨_, [], rfl, ⟨none, 0, rfl, Nat.le_refl _, fun h => by cases h⟩, Nat.zero_le _, fun r hr => by cases hr⟩
  · rw [cSS] at hat
    have hone : ∀ i, i < len → ∃ (l : List R) (u : Value), w.cells? base (a.add (i * 1)) 1 = some [u] ∧ RecSl w u l ∧ l.length ≤ maxLen ∧ ∀ r ∈ l, r.p.size ≤ maxLen ∧ r.b.size ≤ maxLen := by
      intro i hi
      have h1 := hat i hi
      rw [List.getElem?_eq_getElem (by omega)] at h1
      obtain ⟨cs', hc, htr⟩ := Option.bind_eq_some_iff.1 h1
      obtain ⟨u, l, rfl, h1, h2, h3⟩ := open_recs Tryz.underlying46 htr
      exact ⟨l, u, hc, h1, h2, h3⟩
    have hall : ∀ m, m ≤ len → ∃ LL : List (List R), LL.length = m ∧ (∀ i l, LL[i]? = some l → ∃ u, w.cells? base (a.add (i * 1)) 1 = some [u] ∧ RecSl w u l) ∧ ∀ l ∈ LL, l.length ≤ maxLen ∧ ∀ r ∈ l, r.p.size ≤ maxLen ∧ r.b.size ≤ maxLen := by
      intro m
      induction m with
      | zero => exact fun _ => ⟨[], rfl, fun i r hi => by simp at hi, fun r hr => by cases hr⟩
      | succ m ih =>
        intro hm
        obtain ⟨LL, hL, h1, h2⟩ := ih (by omega)
        obtain ⟨l, u, hc, hu, hs1, hs2⟩ := hone m (by omega)
        refine ⟨LL ++ [l], by simp [hL], fun i q hi => ?_, fun q hq => ?_⟩
        · rcases Nat.lt_trichotomy i m with hj | hj | hj
          · rw [List.getElem?_append_left (by omega)] at hi
            exact h1 i q hi
          · subst hj
            rw [List.getElem?_append_right (by omega), hL] at hi
            simp at hi
            subst hi
            exact ⟨u, hc, hu⟩
          · rw [List.getElem?_append_right (by omega)] at hi
            rw [List.getElem?_eq_none (by simp; omega)] at hi
            cases hi
        · rcases List.mem_append.1 hq with hq | hq
          · exact h2 q hq
          · rw [List.mem_singleton.1 hq]; exact ⟨hs1, hs2⟩
    obtain ⟨LL, hL, hc, hs⟩ := hall len (Nat.le_refl _)
    subst hL
    refine ⟨_, LL, rfl, ⟨some a, cap, rfl, hl, fun hn => ?_⟩, Nat.le_trans hl hm0, hs⟩
    obtain ⟨b, off, spot⟩ := a
    obtain ⟨u0, hfirst, _⟩ := hc 0 LL[0] (by simp [hn])
    obtain ⟨_, _, hcell⟩ := World.cells?_some hfirst
    have h0 := hcell 0 (by omega)
    have hspot : spot = none := by simpa [Addr.add] using World.cell?_spot (h0.trans (by rfl))
    subst hspot
    refine ⟨b, off, rfl, World.block_lt_of_cell? w _ (h0.trans (by rfl)), fun i l hi => ?_⟩
    obtain ⟨u, hcu, hu⟩ := hc i l hi
    obtain ⟨_, _, hcell⟩ := World.cells?_some hcu
    have c0 := hcell 0 (by omega)
    simp [Addr.add_lit] at c0
    exact ⟨u, c0, hu⟩
end

set_option maxHeartbeats 800000 in
theorem eqRecordSS_same (v1 v2 : Value) (LL : List (List R)) (w : World) (h1 : StkSl w v1 LL) (h2 : StkSl w v2 LL) (hl : LL.length ≤ 1048576) (hll : ∀ l ∈ LL, l.length ≤ 1048576) :
    Calls Tryz.prog 14 #[v1, v2] w fun e w' => e = .returned (.bool true) ∧ Below w.heap.size w w' := by
  obtain ⟨A1, cap1, rfl, hcap1, h1⟩ := h1
  obtain ⟨A2, cap2, rfl, hcap2, h2⟩ := h2
  have H1 := Lib.hid h1
  have H2 := Lib.hid h2
  have HL := Lib.hid hll
  clear h1 h2 hll
  go_enter Tryz.func14, Tryz.ntmps14
  go_wp2
  go_loopw [5] (fun i wr => ∃ (j : Nat), j ≤ LL.length ∧ i = .int .i64 j ∧ Below w.heap.size w wr) (fun i _ => LL.length - (intOf i).toNat)
  case atStart => exact ⟨0, by omega, rfl, Below.refl _ _⟩
  case round =>
    obtain ⟨j, hj, rfl, hbw⟩ := hrel
    by_cases hlt : j < LL.length
    · obtain ⟨b1, off1, rfl, hb1, hcell1⟩ := H1.out (by omega)
      obtain ⟨b2, off2, rfl, hb2, hcell2⟩ := H2.out (by omega)
      obtain ⟨u1, c1, hu1⟩ := hcell1 j LL[j] (by simp [hlt])
      obtain ⟨u2, c2, hu2⟩ := hcell2 j LL[j] (by simp [hlt])
      have c1' := (hbw.cell (p := ⟨b1, off1 + j, none⟩) hb1).trans c1
      have c2' := (hbw.cell (p := ⟨b2, off2 + j, none⟩) hb2).trans c2
      have HE : ∀ w', Below w.heap.size w w' → Calls Tryz.prog 35 #[u1, u2] w' fun e w'' => e = .returned (.bool true) ∧ Below w'.heap.size w' w'' := fun w' hb => eqRecordS_same u1 u2 LL[j] w' (hu1.below hb) (hu2.below hb) (HL.out _ (List.getElem_mem hlt))
      obtain ⟨x1, d1, rfl, _⟩ := hu1
      obtain ⟨x2, d2, rfl, _⟩ := hu2
      clear hcell1 hcell2 c1 c2
      have HEE := Lib.hid HE
      clear HE
      have hi1 : (j : Int) < (LL.length : Int) := by omega
      have hi0 : (0 : Int) ≤ (j : Int) := by omega
      go_wp2_with fail
      go_still_tail 8, (by kernel_rfl)
      change wpList _ _ _ _ _ wr.drew
      have hbw' : Below w.heap.size w wr.drew := hbw.drew
      clear hbw
      generalize wr.drew = W2 at *
      go_wp2_with fail
      refine (HEE.out _ hbw').mono ?_
      rintro e w1 ⟨rfl, hb1⟩
      go_wp2_with fail
      go_roundw
      case rel => exact ⟨j + 1, by omega, by go_num, hbw'.trans (hb1.mono hbw'.size)⟩
      case measure => simp [intOf]; omega
    · obtain rfl : j = LL.length := by omega
      go_wp2
      go_ret
      exact ⟨rfl, hbw⟩
end Go.Proofs.YtibekkfbpmloiaaGreatDoor.Recs

/- Stacks: a copy in memory of its own; StackOK of the program and of its model. Conditions (of the program's): the table of kinds, the two sentinels. -/
namespace Go.Proofs.YtibekkfbpmloiaaGreatDoor.Recs
set_option maxRecDepth 100000
open Go.RowKit Paths Errs

theorem ssInfo : (Tryz.prog.info? 50).map (fun i => (i.zero, i.size, i.bytes)) = some (some (.slice none 0 0), 1, 24) := by kernel_rfl
/-- The first j slices of a row of slices hold the lists, each in a row of its own, apart from the others. -/
def StkUpto (w : World) (base g : Nat) (us : List Value) (LL : List (List R)) (j : Nat) : Prop :=
  (∀ i u l, i < j → us[i]? = some u → LL[i]? = some l → RowOf w base u l.length l ∧ u.ownBlock ≠ some g) ∧
  ∀ i k u u' c, i < j → k < j → us[i]? = some u → us[k]? = some u' → u.ownBlock = some c → u'.ownBlock = some c → i = k
/-- A slice of slices, all in memory of their own. -/
def StkRow (w : World) (base : Nat) (v : Value) (LL : List (List R)) : Prop :=
  ∃ g us, v = .slice (some ⟨g, 0, none⟩) LL.length LL.length ∧ us.length = LL.length ∧ w.ownsRow base 50 1 v LL.length us ∧ StkUpto w base g us LL LL.length
theorem StkRow.sl {w : World} {base : Nat} {v : Value} {LL : List (List R)} (h : StkRow w base v LL) : StkSl w v LL := by
  obtain ⟨g, us, rfl, hn, ho, h1, _⟩ := h
  refine ⟨_, _, rfl, Nat.le_refl _, fun hp => ⟨g, 0, rfl, (ho.lt g rfl).2, fun i l hi => ?_⟩⟩
  have hlt : i < LL.length := (List.getElem?_eq_some_iff.1 hi).1
  refine ⟨us[i]'(by omega), ?_, (h1 i _ l hlt (List.getElem?_eq_getElem (by omega)) hi).1.sl⟩
  have := ho.cellAt i (by omega)
  rw [List.getElem?_eq_getElem (by omega)] at this
  rw [Nat.zero_add]
  exact this
theorem StkUpto.below {w w' : World} {base g : Nat} {us : List Value} {LL : List (List R)} {j : Nat} (h : StkUpto w base g us LL j) (hb : Below w.heap.size w w') : StkUpto w' base g us LL j :=
  ⟨fun i u l hi hu hl => ⟨(h.1 i u l hi hu hl).1.below hb, (h.1 i u l hi hu hl).2⟩, h.2⟩
theorem StkRow.below {w w' : World} {base : Nat} {v : Value} {LL : List (List R)} (h : StkRow w base v LL) (hb : Below w.heap.size w w') : StkRow w' base v LL := by
  obtain ⟨g, us, rfl, hn, ho, hu⟩ := h
  exact ⟨g, us, rfl, hn, own_below ho hb, hu.below hb⟩
theorem made_nils (n : Nat) : (madeCells (Value.slice none 0 0).cells (n * 1)).toList = List.replicate n (.slice none 0 0) := by
  apply List.ext_getElem?
  intro j
  by_cases hj : j < n
  · simp [madeCells, hj, Value.cells, Nat.mod_one]
  · simp [madeCells, hj]
/-- One slice more. -/
theorem StkUpto.step {w w1 : World} {base g j n : Nat} {us : List Value} {LL : List (List R)} {x : Value} (h : StkUpto w base g us LL j) (hj : j < LL.length) (hu : us.length = LL.length) (hb1 : Below w.heap.size w w1) (hg : base ≤ g) (hgl : g < w.heap.size)
    (ho : w.ownsRow base 50 1 (.slice (some ⟨g, 0, none⟩) n n) n us) (hx : RowOf w1 w.heap.size x LL[j].length LL[j]) :
    StkUpto (w1.setCell ⟨g, j, none⟩ x) base g (us.set j x) LL (j + 1) ∧ (w1.setCell ⟨g, j, none⟩ x).ownsRow base 50 1 (.slice (some ⟨g, 0, none⟩) n n) n (us.set j x) ∧ w1.grownBy (w1.setCell ⟨g, j, none⟩ x) (some g) := by
  obtain ⟨ho1, hgr⟩ := (own_below ho hb1).stored j x
  have hxb : ∀ c, x.ownBlock = some c → w.heap.size ≤ c := fun c hc => (hx.2.lt c hc).1
  have hold : ∀ i u l, i < j → us[i]? = some u → LL[i]? = some l → ∀ c, u.ownBlock = some c → c < w.heap.size := fun i u l hi hui hl c hc => ((h.1 i u l hi hui hl).1.2.lt c hc).2
  refine ⟨⟨fun i u l hi hui hl => ?_, fun i k u u' c hi hk hui huk hc hc' => ?_⟩, ho1, hgr⟩
  · rw [List.getElem?_set] at hui
    by_cases hij : j = i
    · subst hij
      rw [if_pos rfl, if_pos (by omega)] at hui
      cases hui
      rw [List.getElem?_eq_getElem hj] at hl
      cases hl
      have hne : x.ownBlock ≠ some g := fun e => by have := hxb g e; omega
      exact ⟨⟨rfl, own_down (hx.2.kept hgr (.inr hne)) (by omega)⟩, hne⟩
    · rw [if_neg hij] at hui
      obtain ⟨h1, h2⟩ := h.1 i u l (by omega) hui hl
      exact ⟨⟨rfl, (h1.below hb1).2.kept hgr (.inr h2)⟩, h2⟩
  · rw [List.getElem?_set] at hui huk
    by_cases hij : j = i
    · by_cases hkj : j = k
      · omega
      · rw [if_pos hij, if_pos (by omega)] at hui
        rw [if_neg hkj] at huk
        cases hui
        have h1 := hxb c hc
        have h2 := hold k u' LL[k] (by omega) huk (List.getElem?_eq_getElem (by omega)) c hc'
        omega
    · rw [if_neg hij] at hui
      by_cases hkj : j = k
      · rw [if_pos hkj, if_pos (by omega)] at huk
        cases huk
        have h1 := hxb c hc'
        have h2 := hold i u LL[i] (by omega) hui (List.getElem?_eq_getElem (by omega)) c hc
        omega
      · rw [if_neg hkj] at huk
        exact h.2 i k u u' c (by omega) (by omega) hui huk hc hc'

set_option maxHeartbeats 800000 in
theorem toRecordSS_any (v : Value) (LL : List (List R)) (w : World) (h : StkSl w v LL) (hl : LL.length ≤ 1048576) (hll : ∀ l ∈ LL, l.length ≤ 1048576) :
    Calls Tryz.prog 11 #[v] w fun e w' => ∃ x, e = .returned x ∧ Below w.heap.size w w' ∧ StkRow w' w.heap.size x LL := by
  obtain ⟨i0, hi, hz0, hz1, hz2⟩ := info_parts ssInfo
  obtain ⟨A, cap, rfl, hcap, h⟩ := h
  have H := Lib.hid h
  have HL := Lib.hid hll
  clear h hll
  obtain ⟨w0, hr, hown, hg⟩ := run_make_full (P := Tryz.prog) w w.heap.size 28 50 i0 _ 1 Tryz.underlying28 hi hz0 hz1 .i64 .i64 LL.length (by rw [hz2]; omega) (by unfold maxLen; omega) (Nat.le_refl _)
  rw [made_nils] at hown
  have hb0 : Below w.heap.size w w0 := (Below.refl _ _).grown hg (Nat.le_refl _) (fun k hk => by cases hk)
  clear hg
  go_enter Tryz.func11, Tryz.ntmps11
  go_wp2
  go_loopw [4] (fun i wr => ∃ (j : Nat) (us : List Value), j ≤ LL.length ∧ i = .int .i64 j ∧ us.length = LL.length ∧ wr.ownsRow w.heap.size 50 1 (.slice (some ⟨w.heap.size, 0, none⟩) LL.length LL.length) LL.length us ∧ Hid (StkUpto wr w.heap.size w.heap.size us LL j) ∧ Below w.heap.size w wr) (fun i _ => LL.length - (intOf i).toNat)
  case atStart => exact ⟨0, _, by omega, rfl, by simp, hown, ⟨fun i _ _ hi => by omega, fun i _ _ _ _ hi => by omega⟩, hb0⟩
  case round =>
    obtain ⟨j, us, hj, rfl, hus, hrj, HU, hbw⟩ := hrel
    by_cases hlt : j < LL.length
    · obtain ⟨b, off, rfl, hb, hcell⟩ := H.out (by omega)
      obtain ⟨u, c0, hu⟩ := hcell j LL[j] (by simp [hlt])
      have c0' := (hbw.cell (p := ⟨b, off + j, none⟩) hb).trans c0
      have HE := toRecordS_any u LL[j] wr (hu.below hbw) (HL.out _ (List.getElem_mem hlt))
      obtain ⟨uA, ucap, rfl, _⟩ := hu
      clear hcell c0
      have hi1 : (j : Int) < (LL.length : Int) := by omega
      have hi0 : (0 : Int) ≤ (j : Int) := by omega
      go_wp2_with fail
      refine HE.mono ?_
      rintro e w1 ⟨x, rfl, hb1, hx⟩
      have hgl := (hrj.lt w.heap.size rfl).2
      have HST := Lib.hid (HU.out.step hlt hus hb1 (Nat.le_refl _) hgl hrj hx)
      have hbw1 := hbw.trans (hb1.mono hbw.size)
      have d0 := (own_below hrj hb1).cellAt j (by omega)
      rw [List.getElem?_eq_getElem (by omega)] at d0
      have hf := (own_below hrj hb1).frozenAt
      obtain ⟨xA, xcap, rfl⟩ := hx.form
      clear hx hrj
      go_wp2
      go_roundw
      case rel => exact ⟨j + 1, _, by omega, by go_num, by rw [List.length_set]; exact hus, HST.out.2.1, HST.out.1, hbw1.grown HST.out.2.2 hbw1.size (fun k hk => by cases hk; exact Nat.le_refl _)⟩
      case measure => simp [intOf]; omega
    · obtain rfl : j = LL.length := by omega
      go_wp2
      go_ret
      exact ⟨_, rfl, hbw, w.heap.size, us, rfl, hus, hrj, HU.out⟩

/-- A stack. -/
def stackOK (LL : List (List R)) : Bool := decide (LL.length ≤ 5) && LL.all layerOK
def stkE (LL : List (List R)) : EN := if 4096 < LL.length then .long else if stackOK LL then .fine else .inv
theorem ok_short {l : List R} : (decide (l.length ≤ 4096) && layerOK l) = layerOK l := by
  cases h : layerOK l with
  | false => simp
  | true => simp [Nat.le_trans (layer_len h) (by omega : 16 ≤ 4096)]
theorem stack_bad {LL : List (List R)} {j : Nat} (hj : j < LL.length) (h : layerOK LL[j] = false) : stackOK LL = false := by
  unfold stackOK
  have : LL.all layerOK = false := by
    rw [Bool.eq_false_iff]
    intro h2
    have := List.all_eq_true.1 h2 _ (List.getElem_mem hj)
    rw [h] at this
    cases this
  rw [this]
  simp
theorem stack_many {LL : List (List R)} (h : 5 < LL.length) : stackOK LL = false := by
  unfold stackOK
  rw [decide_eq_false (by omega)]
  rfl
theorem stack_good {LL : List (List R)} (h : LL.length ≤ 5) (ha : ∀ l ∈ LL.take LL.length, layerOK l = true) : stackOK LL = true := by
  rw [List.take_of_length_le (Nat.le_refl _)] at ha
  unfold stackOK
  rw [decide_eq_true h, List.all_eq_true.2 ha]
  rfl
theorem take_more {LL : List (List R)} {j : Nat} (hj : j < LL.length) (h : ∀ l ∈ LL.take j, layerOK l = true) (hl : layerOK LL[j] = true) : ∀ l ∈ LL.take (j + 1), layerOK l = true := by
  rw [List.take_succ_eq_append_getElem hj]
  intro l hm
  rcases List.mem_append.1 hm with hm | hm
  · exact h l hm
  · rw [List.mem_singleton.1 hm]; exact hl

set_option maxHeartbeats 800000 in
theorem l05Stack_any (v : Value) (LL : List (List R)) (w : World) (h : StkSl w v LL) (hl : LL.length ≤ 1048576) (hll : ∀ l ∈ LL, l.length ≤ 1048576) :
    Calls Tryz.prog 45 #[v] w fun e w' => e = .returned (.bool (stackOK LL)) ∧ Below w.heap.size w w' := by
  obtain ⟨A, cap, rfl, hcap, h⟩ := h
  have H := Lib.hid h
  have HL := Lib.hid hll
  clear h hll
  by_cases h5 : 5 < LL.length
  · have hd : decide ((5 : Int) < (LL.length : Int)) = true := by simp; omega
    have HE := Lib.hid (stack_many h5)
    go_enter Tryz.func45, Tryz.ntmps45
    go_wp2_with fail
    go_ret
    exact ⟨ret_bool HE.out.symm, Below.refl _ _⟩
  have hd : decide ((5 : Int) < (LL.length : Int)) = false := by simp; omega
  go_enter Tryz.func45, Tryz.ntmps45
  go_wp2
  go_loopw [3] (fun i wr => ∃ (j : Nat), j ≤ LL.length ∧ i = .int .i64 j ∧ Hid (∀ l ∈ LL.take j, layerOK l = true) ∧ Below w.heap.size w wr) (fun i _ => LL.length - (intOf i).toNat)
  case atStart => exact ⟨0, by omega, rfl, (fun l hl => by simp at hl), Below.refl _ _⟩
  case round =>
    obtain ⟨j, hj, rfl, HA, hbw⟩ := hrel
    by_cases hlt : j < LL.length
    · obtain ⟨b, off, rfl, hb, hcell⟩ := H.out (by omega)
      obtain ⟨u, c0, hu⟩ := hcell j LL[j] (by simp [hlt])
      have c0' := (hbw.cell (p := ⟨b, off + j, none⟩) hb).trans c0
      have HE := l03OK_any u LL[j] wr (hu.below hbw) (HL.out _ (List.getElem_mem hlt))
      obtain ⟨uA, ucap, rfl, _⟩ := hu
      clear hcell c0
      have hi1 : (j : Int) < (LL.length : Int) := by omega
      have hi0 : (0 : Int) ≤ (j : Int) := by omega
      go_wp2_with fail
      refine HE.mono ?_
      rintro e w1 ⟨rfl, hb1⟩
      have hbw1 := hbw.trans (hb1.mono hbw.size)
      cases hk : layerOK LL[j] with
      | false =>
        have HB := Lib.hid (stack_bad hlt hk)
        go_wp2_with fail
        go_ret
        exact ⟨ret_bool HB.out.symm, hbw1⟩
      | true =>
        have HB := Lib.hid (take_more hlt HA.out hk)
        go_wp2_with fail
        go_roundw
        case rel => exact ⟨j + 1, by omega, by go_num, HB.out, hbw1⟩
        case measure => simp [intOf]; omega
    · obtain rfl : j = LL.length := by omega
      have HE := Lib.hid (stack_good (by omega) HA.out)
      go_wp2
      go_ret
      exact ⟨ret_bool HE.out.symm, hbw⟩

set_option maxHeartbeats 800000 in
theorem checkStack_any (v : Value) (LL : List (List R)) (x y : Addr) (w : World) (h : StkSl w v LL) (hl : LL.length ≤ 1048576) (hll : ∀ l ∈ LL, l.length ≤ 1048576 ∧ ∀ r ∈ l, r.p.size ≤ maxLen) (hT : Three w x y) :
    Calls Tryz.prog 67 #[v] w fun e w' => e = .returned ((stkE LL).val x y) ∧ Below w.heap.size w w' := by
  obtain ⟨A, cap, rfl, hcap, h⟩ := h
  have H := Lib.hid h
  have HL := Lib.hid hll
  clear h hll
  have hx := hT.long
  have hy := hT.bad
  by_cases h4 : 4096 < LL.length
  · have hd : decide ((4096 : Int) < (LL.length : Int)) = true := by simp; omega
    have HE : Hid (stkE LL = .long) := if_pos h4
    unfold errV at hx
    go_enter Tryz.func67, Tryz.ntmps67
    go_wp2_with fail
    go_ret
    exact ⟨by rw [HE.out]; rfl, Below.refl _ _⟩
  have hd4 : decide ((4096 : Int) < (LL.length : Int)) = false := by simp; omega
  have hinv : stackOK LL = false → stkE LL = .inv := fun hh => by unfold stkE; rw [if_neg h4, hh]; rfl
  have hfine : stackOK LL = true → stkE LL = .fine := fun hh => by unfold stkE; rw [if_neg h4, if_pos hh]
  by_cases h5 : 5 < LL.length
  · have hd : decide ((5 : Int) < (LL.length : Int)) = true := by simp; omega
    have HE := Lib.hid (hinv (stack_many h5))
    clear hinv hfine
    unfold errV at hy
    go_enter Tryz.func67, Tryz.ntmps67
    go_wp2_with fail
    go_ret
    exact ⟨by rw [HE.out]; rfl, Below.refl _ _⟩
  have hd : decide ((5 : Int) < (LL.length : Int)) = false := by simp; omega
  have HINV := Lib.hid hinv
  have HFINE := Lib.hid hfine
  have HT := Lib.hid hT
  clear hinv hfine hx hy hT
  go_enter Tryz.func67, Tryz.ntmps67
  go_wp2
  go_loopw [15] (fun i wr => ∃ (j : Nat), j ≤ LL.length ∧ i = .int .i64 j ∧ Hid (∀ l ∈ LL.take j, layerOK l = true) ∧ Below w.heap.size w wr) (fun i _ => LL.length - (intOf i).toNat)
  case atStart => exact ⟨0, by omega, rfl, (fun l hl => by simp at hl), Below.refl _ _⟩
  case round =>
    obtain ⟨j, hj, rfl, HA, hbw⟩ := hrel
    by_cases hlt : j < LL.length
    · obtain ⟨b, off, rfl, hb, hcell⟩ := H.out (by omega)
      obtain ⟨u, c0, hu⟩ := hcell j LL[j] (by simp [hlt])
      have c0' := (hbw.cell (p := ⟨b, off + j, none⟩) hb).trans c0
      have hTr := HT.out.below hbw (Nat.le_refl _)
      obtain ⟨hl1, hl2⟩ := HL.out _ (List.getElem_mem hlt)
      have HE := layerOK_impl u LL[j] x wr (hu.below hbw) hl1 hl2 hTr.tab hTr.long
      rw [ok_short] at HE
      obtain ⟨uA, ucap, rfl, _⟩ := hu
      clear hcell c0 hl1 hl2
      have hi1 : (j : Int) < (LL.length : Int) := by omega
      have hi0 : (0 : Int) ≤ (j : Int) := by omega
      go_wp2_with fail
      refine HE.mono ?_
      rintro e w1 ⟨rfl, hb1⟩
      have hbw1 := hbw.trans (hb1.mono hbw.size)
      have hy := (hTr.below hb1 (Nat.le_refl _)).bad
      clear hTr
      unfold errV at hy
      cases hk : layerOK LL[j] with
      | false =>
        have HB := Lib.hid (HINV.out (stack_bad hlt hk))
        go_wp2_with fail
        go_ret
        exact ⟨by rw [HB.out]; rfl, hbw1⟩
      | true =>
        have HB := Lib.hid (take_more hlt HA.out hk)
        go_wp2_with fail
        go_roundw
        case rel => exact ⟨j + 1, by omega, by go_num, HB.out, hbw1⟩
        case measure => simp [intOf]; omega
    · obtain rfl : j = LL.length := by omega
      have HE := Lib.hid (HFINE.out (stack_good (by omega) HA.out))
      go_wp2
      go_ret
      exact ⟨by rw [HE.out]; rfl, hbw⟩

end Go.Proofs.YtibekkfbpmloiaaGreatDoor.Recs

/- The code of a call with a stack. Conditions: the table of kinds, the two sentinels. -/
namespace Go.Proofs.YtibekkfbpmloiaaGreatDoor.Recs
set_option maxRecDepth 100000
open Go.RowKit Paths Errs

def codeS (LL : List (List R)) : Int := if 4096 < LL.length then 2 else if stackOK LL then 0 else 1
theorem arg_s (LL : List (List R)) : euFrom [(stkE LL).u] 0 = codeS LL := by
  by_cases h1 : 4096 < LL.length <;> cases h3 : stackOK LL <;> simp [stkE, EN.u, codeS, euFrom, h1, h3]
theorem stack_of {LL : List (List R)} (h : stackOK LL = true) : LL.length ≤ 5 ∧ ∀ l ∈ LL, layerOK l = true := by
  unfold stackOK at h
  rw [Bool.and_eq_true] at h
  exact ⟨by simpa using h.1, fun l hm => (List.all_eq_true.1 h.2) l hm⟩
theorem stackU_any (v : Value) (LL : List (List R)) (x y : Addr) (w : World) (h : StkSl w v LL) (hl : LL.length ≤ 1048576) (hll : ∀ l ∈ LL, l.length ≤ 1048576 ∧ ∀ r ∈ l, r.p.size ≤ maxLen) (hT : Three w x y) :
    Calls Tryz.prog 67 #[v] w fun e w' => e = .returned ((stkE LL).u.val x y) ∧ Below w.heap.size w w' := by
  rw [EN.u_val]
  exact checkStack_any v LL x y w h hl hll hT
theorem StkSl.form {w : World} {v : Value} {LL : List (List R)} (h : StkSl w v LL) : ∃ A cap, v = .slice A LL.length cap := by
  obtain ⟨A, cap, rfl, _⟩ := h
  exact ⟨A, cap, rfl⟩
end Go.Proofs.YtibekkfbpmloiaaGreatDoor.Recs
