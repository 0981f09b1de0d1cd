/- Parts of several texts of mine in one file (each begins with its own remark). -/
import Derived.Test.YtibekkfbpmloiabGreatDoorCA1
import Derived.Test.YtibekkfbpmloiabGreatDoorCA10
import Derived.Test.YtibekkfbpmloiabGreatDoorCA11
import Derived.Test.YtibekkfbpmloiabGreatDoorCA14
import Derived.Test.YtibekkfbpmloiabGreatDoorCA15
import Derived.Test.YtibekkfbpmloiabGreatDoorCA16
import Derived.Test.YtibekkfbpmloiabGreatDoorCA17
import Derived.Test.YtibekkfbpmloiabGreatDoorCA2
import Derived.Test.YtibekkfbpmloiabGreatDoorCA20
import Derived.Test.YtibekkfbpmloiabGreatDoorCA21
import Derived.Test.YtibekkfbpmloiabGreatDoorCA22
import Derived.Test.YtibekkfbpmloiabGreatDoorCA3
import Derived.Test.YtibekkfbpmloiabGreatDoorCA4
import Derived.Test.YtibekkfbpmloiabGreatDoorCA5
import Derived.Test.YtibekkfbpmloiabGreatDoorCA6
import Derived.Test.YtibekkfbpmloiabGreatDoorCA7
import Derived.Test.YtibekkfbpmloiabGreatDoorCA8
import Derived.Test.YtibekkfbpmloiabGreatDoorCA9
import Derived.Test.YtibekkfbpmloiabGreatDoorCE2
import Derived.Test.YtibekkfbpmloiabGreatDoorCE7
import Derived.Test.YtibekkfbpmloiabGreatDoorCE8
import Derived.Test.YtibekkfbpmloiabGreatDoorChecked
import Derived.Test.YtibekkfbpmloiabGreatDoorShelf
import Derived.Test.YtibekkfbpmloiabGreatDoorProg
import Derived.Test.YtibekkfbpmloiabGreatDoorRows
import Derived.Deep.RegionHeld3
import Derived.Deep.Cut
import Derived.Deep.CutRange
import Derived.Deep.Slices
import Derived.OpenShut
import Derived.ShutString
import Derived.ChangeArms
import Derived.WideShapes
import Derived.Lib.LaidTab
import Derived.BigQuiet
import Derived.Deep.QuietTactic
import Derived.StillTailTactics
import Derived.Deep.Draws
import Derived.Deep.LoopGhost
import Derived.WalkKit
import Derived.WalkSpells
import Derived.WalkSmall
import Derived.Lib.OthersKept
import Derived.Lib.Hide
import Derived.Lib.Strings
import Derived.Lib.Join
import Derived.Deep.RegionWith
import Derived.Laws.OwnMore
import Derived.BigRegion
import Derived.Laws.BytesArg
import Derived.Stop.LaidErr
import Derived.WalkLawsBesides
import Derived.LaidEql
import Derived.Stop.Asserts
import Derived.Below
import Derived.Stop.LaidTwo
import Derived.OneCell
import Derived.Lib.SliceRun
import Derived.Lib.Overlaps
import Derived.Lib.AppendZerosOnto
import Derived.Laws.NewBlocks
import Derived.Laws.IdiomCopy
import Derived.Deep.RegionLaw
import Derived.ChangeVars
import Derived.Deep.DeepHandedRow
import Derived.Deep.AppendLies
import Derived.Laws.EntriesVeiled
import Derived.Deep.CutBlock
import Derived.Laws.IdiomRangeMap
import Derived.Maps.RangeWalk
import Derived.Maps.Ext
import Derived.Lib.SlMapFilter
import Derived.Laws.AppendOwnNone
import Derived.RegionTactic
import Derived.IntWalk
/- The model's draws: a stack drawn is one. -/
namespace Go.Proofs.YtibekkfbpmloiabGreatDoor.Draw
set_option maxRecDepth 100000
open Go.RowKit
open Paths Recs

theorem own_went {a b : World} {B g m base : Nat} {e : TypeId} {k n : Nat} {v : Value} {xs : List Value} (h : a.ownsRow base e k v n xs) (hw : Went a b B g m) (hg : g < base) : b.ownsRow base e k v n xs :=
  h.kept hw.2 (by
    cases hv : v.ownBlock with
    | none => exact .inl rfl
    | some k => exact .inr fun e => by cases e; have := (h.lt _ hv).1; omega)
theorem stk_went {a b : World} {B g m hb base : Nat} {v : Value} {LL : List (List R)} (h : StkOwn a hb base v LL) (hw : Went a b B g m) (h1 : g < hb) (h2 : g < base) : StkOwn b hb base v LL := by
  obtain ⟨us, hn, ho, hr, hd⟩ := h
  exact ⟨us, hn, own_went ho hw h1, fun i u l hi hl => row_went (hr i u l hi hl) hw h2, hd⟩
theorem went_grown {a b c : World} {B g m : Nat} {row : Option Nat} (h : Went a b B g m) (hg : b.grownBy c row) (hr : ∀ j, row = some j → a.heap.size ≤ j) (hgl : g < a.heap.size) : Went a c B g m := by
  have hbel : Below a.heap.size b c := (Below.refl a.heap.size b).grown hg h.2.size hr
  obtain ⟨⟨h1, h2, A, n, cap, k, s, hB, x, y, z, hq⟩, hw⟩ := h
  refine ⟨⟨h1, h2, A, n, cap, k, s, hB.below (hbel.mono (by omega)), x, y, z, (hbel.block g hgl).trans hq⟩, ⟨hg.os.trans hw.os, hg.tape.trans hw.tape, hg.output.trans hw.output, Nat.le_trans hw.size hg.size, fun j hj hne => (hbel.block j hj).trans (hw.block j hj hne)⟩⟩

set_option maxHeartbeats 3200000 in
theorem stack_any (w : World) (B g m : Nat) (h : Src w B g m) (hm : m + 500 ≤ 1000000) :
    Calls Tryz.prog 82 #[.pointer (some ⟨g, 0, none⟩)] w fun e w' => ∃ v LL, e = .returned v ∧ LL.length ≤ 3 ∧ (∀ l ∈ LL, layerOK l = true) ∧ Went w w' B g (m + 401) ∧ StkOwn w' w.heap.size w.heap.size v LL ∧ v ≠ .slice none 0 0 := by
  obtain ⟨s0, hs, hS0, hS1, hS2⟩ := info_parts ssInfo
  have hgl := h.lt
  have hb0 : Below w.heap.size w (w.alloc (.cells #[] 27)) := (Below.refl _ _).alloc (Nat.le_refl _) _
  have HO0 : Hid (StkOwn (w.alloc (.cells #[] 27)) w.heap.size w.heap.size (.slice (some ⟨w.heap.size, 0, none⟩) 0 0) []) := ⟨[], rfl, World.ownsRow_lit w #[] 0 (Nat.le_refl _) (Nat.zero_le _) rfl, fun i u l h => by simp at h, fun i k u u' c h => by simp at h⟩
  have HW0 := Lib.hid ((Went.refl h).below hb0)
  have HNX := next_small _ B g m 4 (h.below hb0) (by omega) (by omega)
  clear h
  go_enter Tryz.func82, Tryz.ntmps82
  go_wp2_with fail
  generalize w.alloc (.cells #[] 27) = W1 at *
  refine HNX.mono ?_
  rintro e w3 ⟨N, hN, rfl, hw3⟩
  have hN3 : N ≤ 3 := by omega
  have HI0 : Hid (Went w w3 B g (m + 1) ∧ StkOwn w3 w.heap.size w.heap.size (.slice (some ⟨w.heap.size, 0, none⟩) 0 0) []) := ⟨HW0.out.trans hw3, stk_went HO0.out hw3 hgl hgl⟩
  clear hN hw3 HO0 HW0
  go_wp2_with fail
  go_loopw [3, 4] (fun lv iv wr => ∃ (k : Nat) (LL : List (List R)), k ≤ N ∧ iv = .int .i64 k ∧ LL.length = N - k ∧ Hid ((∀ l ∈ LL, layerOK l = true) ∧ Went w wr B g (m + 1 + 100 * (N - k)) ∧ StkOwn wr w.heap.size w.heap.size lv LL ∧ lv ≠ .slice none 0 0)) (fun _ iv _ => (intOf iv).toNat)
  case atStart => exact ⟨N, [], Nat.le_refl _, rfl, by simp, by
    show (∀ l ∈ ([] : List (List R)), layerOK l = true) ∧ Went w w3 B g (m + 1 + 100 * (N - N)) ∧ _
    rw [Nat.sub_self]
    exact ⟨fun l hl => (by cases hl), HI0.out.1, HI0.out.2, fun e => by cases e⟩⟩
  case round =>
    obtain ⟨k, LL, hk, rfl, hln, HI⟩ := hrel
    obtain ⟨us, hn, ho, h1, h2⟩ := HI.out.2.2.1
    obtain ⟨fA, fcap, rfl⟩ := own_form ho
    have HLN := Lib.hid hln
    have hl3 : LL.length ≤ 3 := by omega
    clear hln
    by_cases h0 : 0 < k
    · have hd : decide ((0 : Int) < (k : Int)) = true := decide_eq_true (by omega)
      have HLY := layer_any wr B g _ HI.out.2.1.1 (by omega)
      have HUS := Lib.hid (show _ ∧ _ ∧ _ ∧ _ from ⟨hn, ho, h1, h2⟩)
      have hwz := HI.out.2.1.2.size
      clear hn ho h1 h2
      go_wp2_with fail
      refine HLY.mono ?_
      rintro e w4 ⟨x, l, rfl, hok, hw4, hrow, hx⟩
      obtain ⟨xA, xcap, rfl⟩ := hrow.form
      have eA : Below w4.heap.size w4 (w4.alloc (.cells #[.slice xA l.length xcap] 27)) := (Below.refl _ _).alloc (Nat.le_refl _) _
      have hoA := own_below (own_went HUS.out.2.1 hw4 hgl) eA
      have hz4 := hw4.2.size
      have hszA : w.heap.size ≤ (w4.alloc (.cells #[.slice xA l.length xcap] 27)).heap.size := by simp; omega
      have HFIN : Hid (∀ v' w9, w9.ownsRow w.heap.size 27 1 v' (LL.length + 1) (us ++ [.slice xA l.length xcap]) → (w4.alloc (.cells #[.slice xA l.length xcap] 27)).grownBy w9 (Value.slice fA LL.length fcap).ownBlock → StkOwn w9 w.heap.size w.heap.size v' (LL ++ [l])) := fun v' w9 hown hg => by
        refine stk_snoc HUS.out.1 hoA (fun i u q hi hl => (row_went (HUS.out.2.2.1 i u q hi hl) hw4 hgl).below eA) HUS.out.2.2.2 ⟨rfl, own_down (hrow.below eA).2 hwz⟩ (fun i u c hi hc e => ?_) hown hg
        have e1 := (hrow.2.lt c e).1
        have hil : i < LL.length := by have := (List.getElem?_eq_some_iff.1 hi).1; have := HUS.out.1; omega
        have e2 := ((HUS.out.2.2.1 i u _ hi (List.getElem?_eq_getElem hil)).2.lt c hc).2
        omega
      have HW4 : Hid (Went w w4 B g (m + 1 + 100 * (N - (k - 1)))) := (HI.out.2.1.trans hw4).more (by omega) (by omega)
      have HWA : Hid (Went w (w4.alloc (.cells #[.slice xA l.length xcap] 27)) B g (m + 1 + 100 * (N - (k - 1)))) := HW4.out.below eA
      have HOK := Lib.hid hok
      have hk1 : ((k - 1 : Nat) : Int) = (k : Int) - 1 := by omega
      have HGB : Hid (Value.ownBlock (.slice fA LL.length fcap) ≠ some g) := fun e => by have := (HUS.out.2.1.lt _ e).1; omega
      clear hok hrow hx hw4 eA
      go_wp2_with (first
        | (at_builtin; refine wpList_append_own _ rfl _ _ 43 rfl w.heap.size 27 s0 (.slice none 0 0) 1 24 Tryz.underlying43 hs hS0 hS1 hS2 rfl (by decide) _ _ _ rfl hoA ⟨w4.heap.size, 0, none⟩ 1 1 [.slice xA l.length xcap] rfl rfl (cell_one_new _ _ _) (fun x hx => by simp at hx; subst hx; rfl) (by unfold maxLen; omega) (by omega) hszA ?_; intro v' w9 hown' hgrow9 hnil9))
      exact ⟨⟨k - 1, LL ++ [l], by omega, by rw [hk1], by rw [List.length_append, List.length_singleton, HLN.out]; omega, by
        refine ⟨fun q hq => ?_, ?_, HFIN.out _ _ hown' hgrow9, fun e => by have := (hnil9.1 e).2; omega⟩
        · rcases List.mem_append.1 hq with hq | hq
          · exact HI.out.1 q hq
          · rw [List.mem_singleton.1 hq]; exact HOK.out
        · exact went_grown HWA.out hgrow9 (fun j hj => (HUS.out.2.1.lt j hj).1) hgl⟩, by simp [intOf]; omega⟩
    · have hd : decide ((0 : Int) < (k : Int)) = false := decide_eq_false (by omega)
      go_wp2_with fail
      go_ret
      exact ⟨_, LL, rfl, hl3, HI.out.1, HI.out.2.1.more (by omega) (by omega), HI.out.2.2.1, HI.out.2.2.2⟩

set_option maxHeartbeats 400000 in
theorem stackDrawn_any (w : World) (A : Option Addr) (n cap : Nat) (hB : Byts w w.heap.size A n) (hn : n ≤ cap) :
    Calls Tryz.prog 29 #[.slice A n cap] w fun e w' => ∃ v LL, e = .returned v ∧ LL.length ≤ 3 ∧ (∀ l ∈ LL, layerOK l = true) ∧ Below w.heap.size w w' ∧ StkOwn w' w.heap.size w.heap.size v LL ∧ v ≠ .slice none 0 0 := by
  have HB := Lib.hid hB
  clear hB
  go_enter Tryz.func29, Tryz.ntmps29
  go_wp2_with fail
  refine (source_any w A n cap HB.out hn).mono ?_
  rintro e w1 ⟨rfl, hs1, hb1⟩
  have HS1 := Lib.hid hs1
  clear hs1
  go_wp2_with fail
  refine (stack_any w1 w.heap.size w.heap.size 0 HS1.out (by omega)).mono ?_
  rintro e w2 ⟨v, LL, rfl, hl3, hok, hw2, hst, hv⟩
  have HL := Lib.hid hok
  have HB2 := Lib.hid (hb1.trans (hw2.belowB hb1.size))
  have HR : Hid (StkOwn w2 w.heap.size w.heap.size v LL) := by
    obtain ⟨us, a, b, c, d⟩ := hst
    have hz := hb1.size
    exact ⟨us, a, own_down b hz, fun i u l hi hl => ⟨(c i u l hi hl).1, own_down (c i u l hi hl).2 hz⟩, d⟩
  have HV := Lib.hid hv
  have H3 := Lib.hid hl3
  clear hok hw2 hst hv hl3
  go_wp2_with fail
  go_ret
  exact ⟨v, LL, rfl, H3.out, HL.out, HB2.out, HR.out, HV.out⟩
end Go.Proofs.YtibekkfbpmloiabGreatDoor.Draw

/- A drawn stack as the laws read it: good to read, its form. -/
namespace Go.Proofs.YtibekkfbpmloiabGreatDoor.Recs
set_option maxRecDepth 100000
open Go.RowKit Paths

theorem StkOwn.good {w : World} {hb base : Nat} {v : Value} {LL : List (List R)} (h : StkOwn w hb base v LL) : StkGood w v LL := by
  obtain ⟨us, hn, ho, h1, _⟩ := h
  have ho2 := ho
  rcases ho.2 with ⟨rfl, h0⟩ | ⟨g, cap, cur, rfl, _, hg, hc, _⟩
  · exact ⟨none, 0, by rw [h0], by omega, fun h => by omega⟩
  · refine ⟨_, cap, rfl, hc, fun _ => ⟨g, 0, rfl, (Array.getElem?_eq_some_iff.1 hg).1, fun i l hi => ?_⟩⟩
    have hlt : i < LL.length := (List.getElem?_eq_some_iff.1 hi).1
    have hr := h1 i (us[i]'(by omega)) l (List.getElem?_eq_getElem (by omega)) hi
    refine ⟨us[i]'(by omega), ?_, hr.sl, row_plain hr⟩
    have := ho2.cellAt i (by omega)
    rw [List.getElem?_eq_getElem (by omega)] at this
    rw [Nat.zero_add]
    exact this
theorem StkOwn.atom {w : World} {hb base : Nat} {v : Value} {LL : List (List R)} (h : StkOwn w hb base v LL) (hv : v ≠ .slice none 0 0) : ∃ g cap, v = .slice (some ⟨g, 0, none⟩) LL.length cap ∧ LL.length ≤ cap := by
  obtain ⟨us, _, ho, _, _⟩ := h
  rcases ho.2 with ⟨rfl, h0⟩ | ⟨g, cap, cur, rfl, _, _, hc, _⟩
  · exact absurd rfl hv
  · exact ⟨g, cap, rfl, hc⟩
/-- What a layer of a drawn stack holds: short rows, short paths. -/
theorem stk_short {LL : List (List R)} (h : ∀ l ∈ LL, layerOK l = true) : (∀ l ∈ LL, l.length ≤ 1048576 ∧ ∀ r ∈ l, r.p.size ≤ maxLen) ∧ ∀ l ∈ LL, l.length ≤ 1048576 := by
  have h1 : ∀ l ∈ LL, l.length ≤ 1048576 := fun l hl => by have := layer_len (h l hl); omega
  refine ⟨fun l hl => ⟨h1 l hl, fun r hr => ?_⟩, h1⟩
  have h35 : r.p.size ≤ 35 := by rw [Lib.size_eq]; exact pathB_len ((layer_is (h l hl)).path r hr)
  unfold maxLen
  omega
/-- The end of such a stack, cut off at k. -/
theorem StkGood.rest {w : World} {g n cap : Nat} {LL : List (List R)} (h : StkGood w (.slice (some ⟨g, 0, none⟩) n cap) LL) {k : Nat} (hk : k ≤ LL.length) (hn : n = LL.length) (hc : n ≤ cap) :
    (cap = k → StkSl w (.slice (some ⟨g, 0, none⟩) (n - k) (cap - k)) (LL.drop k)) ∧ (cap ≠ k → StkSl w (.slice (some ⟨g, k, none⟩) (n - k) (cap - k)) (LL.drop k)) := by
  refine ⟨fun e => ?_, fun e => ?_⟩
  · have hl : (LL.drop k).length = n - k := by rw [List.length_drop, hn]
    exact ⟨_, _, by rw [hl], by rw [hl]; omega, fun h0 => by rw [hl] at h0; omega⟩
  · have := (h.drop hk (by omega)).sl
    rwa [Nat.zero_add] at this
end Go.Proofs.YtibekkfbpmloiabGreatDoor.Recs

/- The laws' own comparison of stacks. -/
namespace Go.Proofs.YtibekkfbpmloiabGreatDoor.Recs
set_option maxRecDepth 100000
open Go.RowKit Paths

set_option maxHeartbeats 1600000 in
theorem sameStacks_same (v1 v2 : Value) (LL : List (List R)) (w : World) (h1 : StkSl w v1 LL) (h2 : StkSl w v2 LL) (hl : LL.length ≤ 1048576) (hll : ∀ l ∈ LL, l.length ≤ 1048576) :
    Calls Tryz.prog 48 #[v1, v2] w fun e w' => e = .returned (.bool true) ∧ ∃ n, w' = w.drewN n := by
  obtain ⟨a1, cap1, rfl, hcap1, h1⟩ := h1
  obtain ⟨a2, cap2, rfl, hcap2, h2⟩ := h2
  have hne : ((LL.length : Int) != (LL.length : Int)) = false := by simp
  have H1 := Lib.hid h1
  have H2 := Lib.hid h2
  clear h1 h2
  go_enter Tryz.func48, Tryz.ntmps48
  go_wp2_with fail
  go_loopw [5] (fun i wr => ∃ k n : Nat, k ≤ LL.length ∧ i = .int .i64 k ∧ wr = w.drewN n) (fun i _ => LL.length - (intOf i).toNat)
  case atStart => exact ⟨0, 0, by omega, rfl, rfl⟩
  case round =>
    obtain ⟨k, n, hk, rfl, rfl⟩ := hrel
    by_cases hlt : k < LL.length
    · obtain ⟨b1, o1, rfl, hb1, hcell1⟩ := H1.out (by omega)
      obtain ⟨b2, o2, rfl, hb2, hcell2⟩ := H2.out (by omega)
      obtain ⟨u1, c1, r1⟩ := hcell1 k LL[k] (by simp [hlt])
      obtain ⟨u2, c2, r2⟩ := hcell2 k LL[k] (by simp [hlt])
      have hlk := hll LL[k] (List.getElem_mem hlt)
      have HSR : ∀ m, Calls Tryz.prog 17 #[u1, u2] ((w.drewN n).drewN m) fun e w' => e = .returned (.bool true) ∧ ∃ k, w' = ((w.drewN n).drewN m).drewN k := fun m => by
        have bq : Below w.heap.size w ((w.drewN n).drewN m) := below_drewN (below_drewN (Below.refl _ _) n) m
        have := sameRecords_any u1 u2 LL[k] LL[k] ((w.drewN n).drewN m) (r1.below bq) (r2.below bq) hlk
        rw [decide_eq_true rfl] at this
        exact this
      have c1' : (w.drewN n).cell? ⟨b1, o1 + k, none⟩ = some u1 := c1
      have c2' : (w.drewN n).cell? ⟨b2, o2 + k, none⟩ = some u2 := c2
      obtain ⟨x1, y1, rfl, _⟩ := r1
      obtain ⟨x2, y2, rfl, _⟩ := r2
      clear hcell1 hcell2 H1 H2 hll
      have hi1 : (k : Int) < (LL.length : Int) := by omega
      have hi0 : (0 : Int) ≤ (k : Int) := by omega
      clear c1 c2
      generalize hW : w.drewN n = W at *
      go_wp2_with fail
      go_quiet (first
        | (go_at_call 17; exact Calls.quiet_of (HSR _)))
      go_wp2_with fail
      exact ⟨⟨k + 1, n + nq, by omega, by go_num, by rw [← hW, World.drewN_drewN]⟩, by simp [intOf]; omega⟩
    · go_wp2_with fail
      go_ret
      exact ⟨rfl, n, rfl⟩
end Go.Proofs.YtibekkfbpmloiabGreatDoor.Recs

/- Replaced, of the model. -/
namespace Go.Proofs.YtibekkfbpmloiabGreatDoor.Recs
set_option maxRecDepth 100000
open Go.RowKit Paths

theorem inB_yes {n a b : Int} (h : a ≤ n ∧ n ≤ b) : inB n a b = true := decide_eq_true h
theorem inB_no {n a b : Int} (h : ¬ (a ≤ n ∧ n ≤ b)) : inB n a b = false := decide_eq_false h

set_option maxHeartbeats 6400000 in
theorem replaced_spec (v : Value) (LL : List (List R)) (f t : Int) (w : World) (h : StkGood w v LL) (hl : LL.length ≤ 1048576) (hll : ∀ l ∈ LL, l.length ≤ 1048576) :
    Calls Tryz.prog 47 #[v, .int .i64 f, .int .i64 t] w fun e w' => ∃ z, e = .returned (.tuple #[z, .int .i64 (repC LL f t)]) ∧ Below w.heap.size w w' ∧ StkOwn w' w.heap.size w.heap.size z (repR LL f t) := by
  have HG := Lib.hid h
  have HOK := l05Stack_any _ LL w h.sl hl hll
  obtain ⟨vA, vcap, rfl⟩ := h.sl.form
  have E0 : Hid (∀ W, Below w.heap.size w W → StkOwn (W.alloc (.cells #[] 27)) w.heap.size w.heap.size (.slice (some ⟨W.heap.size, 0, none⟩) 0 0) []) := fun W hW => ⟨[], rfl, World.ownsRow_lit W #[] 0 hW.size (Nat.zero_le _) rfl, fun i u l h => by simp at h, fun i k u u' c h => by simp at h⟩
  have c0 := Below.refl w.heap.size w
  by_cases h1 : 4096 < LL.length
  · have hd : decide ((4096 : Int) < (LL.length : Int)) = true := decide_eq_true (by omega)
    have H1 := Lib.hid h1
    clear h1
    go_enter Tryz.func47, Tryz.ntmps47
    have HQ := Lib.hid (repC_code (f := f) (t := t) (s_long H1.out) (by decide))
    have HR := Lib.hid (repR_bad HQ.out (by decide))
    go_wp2_with fail
    go_ret2
    exact ⟨_, by rw [HQ.out]; rfl, c0.alloc c0.size _, by rw [HR.out]; exact E0.out _ c0⟩
  have hd1 : decide ((4096 : Int) < (LL.length : Int)) = false := decide_eq_false (by omega)
  cases ho : stackOK LL with
  | false =>
    have H1 := Lib.hid (s_bad h1 ho)
    rw [ho] at HOK
    clear h1 ho
    go_enter Tryz.func47, Tryz.ntmps47
    go_wp2_with fail
    refine HOK.mono ?_
    rintro e w1 ⟨rfl, c1⟩
    have HQ := Lib.hid (repC_code (f := f) (t := t) H1.out (by decide))
    have HR := Lib.hid (repR_bad HQ.out (by decide))
    go_wp2_with fail
    go_ret2
    exact ⟨_, by rw [HQ.out]; rfl, c1.alloc c1.size _, by rw [HR.out]; exact E0.out _ c1⟩
  | true =>
    have H0 := Lib.hid (s_ok h1 ho)
    have hst := stack_of ho
    have hL5 := hst.1
    have HST := Lib.hid hst.2
    rw [ho] at HOK
    clear h1 ho hst
    by_cases hf : 0 ≤ f ∧ f ≤ (LL.length : Int)
    case neg =>
      have HI1 := fun W => l01In_any f 0 (LL.length : Int) W
      rw [inB_no hf] at HI1
      have HF := Lib.hid hf
      clear hf
      go_enter Tryz.func47, Tryz.ntmps47
      go_wp2_with fail
      refine HOK.mono ?_
      rintro e w1 ⟨rfl, c1⟩
      go_wp2_with fail
      refine (HI1 _).mono ?_
      rintro e w2 ⟨rfl, rfl⟩
      have HQ := Lib.hid (repC_range (f := f) (t := t) H0.out (by have := HF.out; omega))
      have HR := Lib.hid (repR_bad HQ.out (by decide))
      go_wp2_with fail
      go_ret2
      exact ⟨_, by rw [HQ.out]; rfl, c1.alloc c1.size _, by rw [HR.out]; exact E0.out _ c1⟩
    have HI1 := fun W => l01In_any f 0 (LL.length : Int) W
    rw [inB_yes hf] at HI1
    by_cases htt : f ≤ t ∧ t ≤ (LL.length : Int)
    case neg =>
      have HI2 := fun W => l01In_any t f (LL.length : Int) W
      rw [inB_no htt] at HI2
      have HF := Lib.hid htt
      clear hf htt
      go_enter Tryz.func47, Tryz.ntmps47
      go_wp2_with fail
      refine HOK.mono ?_
      rintro e w1 ⟨rfl, c1⟩
      go_wp2_with fail
      refine (HI1 _).mono ?_
      rintro e w2 ⟨rfl, rfl⟩
      go_wp2_with fail
      refine (HI2 _).mono ?_
      rintro e w3 ⟨rfl, rfl⟩
      have HQ := Lib.hid (repC_range (f := f) (t := t) H0.out (by have := HF.out; omega))
      have HR := Lib.hid (repR_bad HQ.out (by decide))
      go_wp2_with fail
      go_ret2
      exact ⟨_, by rw [HQ.out]; rfl, c1.alloc c1.size _, by rw [HR.out]; exact E0.out _ c1⟩
    have HI2 := fun W => l01In_any t f (LL.length : Int) W
    rw [inB_yes htt] at HI2
    have HNR : Hid (¬ (f < 0 ∨ t < f ∨ (LL.length : Int) < t)) := by show ¬ _; omega
    obtain ⟨fn, rfl⟩ : ∃ n : Nat, f = (n : Int) := ⟨f.toNat, by omega⟩
    obtain ⟨tn, rfl⟩ : ∃ n : Nat, t = (n : Int) := ⟨t.toNat, by omega⟩
    have hft : fn ≤ tn := by omega
    have htl : tn ≤ LL.length := by omega
    clear hf htt
    by_cases hm : fn = tn ∧ LL.length = 5
    · have HM : Hid ((fn : Int) = (tn : Int) ∧ LL.length = 5) := ⟨by omega, hm.2⟩
      have q1 : ((fn : Int) == (tn : Int)) = true := beq_iff_eq.2 (by omega)
      have q2 : ((LL.length : Int) == 5) = true := beq_iff_eq.2 (by omega)
      have q3 : (fn == tn) = true := beq_iff_eq.2 hm.1
      have q4 : (LL.length == 5) = true := beq_iff_eq.2 hm.2
      clear hm
      go_enter Tryz.func47, Tryz.ntmps47
      go_wp2_with fail
      refine HOK.mono ?_
      rintro e w1 ⟨rfl, c1⟩
      go_wp2_with fail
      refine (HI1 _).mono ?_
      rintro e w2 ⟨rfl, rfl⟩
      go_wp2_with fail
      refine (HI2 _).mono ?_
      rintro e w3 ⟨rfl, rfl⟩
      have HQ := Lib.hid (repC_many H0.out HNR.out HM.out)
      have HR := Lib.hid (repR_bad HQ.out (by decide))
      go_wp2_with fail
      go_ret2
      exact ⟨_, by rw [HQ.out]; rfl, c1.alloc c1.size _, by rw [HR.out]; exact E0.out _ c1⟩
    have HM : Hid (¬ ((fn : Int) = (tn : Int) ∧ LL.length = 5)) := by show ¬ _; omega
    have HLM := Lib.hid (repC_lim H0.out HNR.out HM.out)
    have hcp : LL.length ≤ vcap := by
      obtain ⟨_, _, e, hc, _⟩ := HG.out
      cases e
      exact hc
    have i1 : (0 : Int) ≤ (fn : Int) := by omega
    have i2 : (fn : Int) ≤ (tn : Int) := by omega
    have i3 : (tn : Int) ≤ (vcap : Int) := by omega
    have HPO : Hid (∀ l ∈ (LL.take tn).drop fn, layerOK l = true) := fun l hm => HST.out l (List.mem_of_mem_take (List.mem_of_mem_drop hm))
    have hpl : ((LL.take tn).drop fn).length ≤ 5 := by rw [List.length_drop, List.length_take]; omega
    have HG2 : Hid (∀ W, Below w.heap.size w W → StkGood W (.slice vA LL.length vcap) LL) := fun W hW => HG.out.below hW
    have HL16 : Hid (∀ l ∈ LL, l.length ≤ 16) := fun l hm => layer_len (HST.out l hm)
    have e1 : ((fn : Int)).toNat = fn := by simp
    have e2 : ((tn : Int)).toNat = tn := by simp
    have HTAIL : Hid (∀ (vp : Value), (∀ W, Below w.heap.size w W → StkGood W vp ((LL.take tn).drop fn)) → ∀ W, Below w.heap.size w W → Calls Tryz.prog 87 #[vp] W fun e w' => ∃ x, e = .returned x ∧ Below W.heap.size W w' ∧ RowOf w' W.heap.size x (repM LL fn tn).length (repM LL fn tn)) := fun vp hvp W hW => l06All_any vp _ W (hvp W hW).sl HPO.out hpl
    have hPART := HG.out.part hft htl
    clear hm
    have hMM : fn = tn → ¬ LL.length = 5 := by have := HM.out; omega
    by_cases hcf : vcap = fn
    · have HPG := Lib.hid (hPART.1 hcf)
      have hcf2 : fn = vcap := hcf.symm
      clear hPART hcf
      subst hcf2
      have HAL := HTAIL.out (.slice vA (tn - fn) 0) (fun W hW => by have q := HPG.out.below hW; rw [Nat.sub_self] at q; exact q)
      by_cases hq : fn = tn
      · have q2 : ((LL.length : Int) == 5) = false := beq_eq_false_iff_ne.2 (by have := hMM hq; omega)
        have q4 : (LL.length == 5) = false := beq_eq_false_iff_ne.2 (by have := hMM hq; omega)
        have q3 : ((fn : Int) == (tn : Int)) = true := beq_iff_eq.2 (by omega)
        have q5 : (fn == tn) = true := beq_iff_eq.2 hq
        clear hMM
        have HQQ := Lib.hid hq
        clear hq
        go_enter Tryz.func47, Tryz.ntmps47
        go_wp2_with fail
        refine HOK.mono ?_
        rintro e w1 ⟨rfl, c1⟩
        go_wp2_with fail
        refine (HI1 _).mono ?_
        rintro e w2 ⟨rfl, rfl⟩
        go_wp2_with fail
        refine (HI2 _).mono ?_
        rintro e w3 ⟨rfl, rfl⟩
        go_wp2_with fail
        refine (HAL _ c1).mono ?_
        rintro e w4 ⟨x, rfl, hb4, hx⟩
        have c4 := c1.trans (hb4.mono c1.size)
        obtain ⟨xA, xc, rfl⟩ := hx.form
        have HXR : Hid (RowOf w4 w.heap.size (.slice xA (repM LL fn tn).length xc) (repM LL fn tn).length (repM LL fn tn)) := ⟨rfl, own_down hx.2 c1.size⟩
        clear hx
        by_cases h16 : 16 < (repM LL fn tn).length
        · have hd6 : decide ((16 : Int) < ((repM LL fn tn).length : Int)) = true := decide_eq_true (by omega)
          have HQ : Hid (repC LL fn tn = 7) := by show _ = _; rw [HLM.out, e1, e2]; exact if_pos h16
          have HR := Lib.hid (repR_bad HQ.out (by decide))
          clear h16
          go_wp2_with fail
          go_ret2
          exact ⟨_, by rw [HQ.out]; rfl, c4.alloc c4.size _, by rw [HR.out]; exact E0.out _ c4⟩
        · have hd6 : decide ((16 : Int) < ((repM LL fn tn).length : Int)) = false := decide_eq_false (by omega)
          have HQ : Hid (repC LL fn tn = 0) := by show _ = _; rw [HLM.out, e1, e2]; exact if_neg h16
          have HR : Hid (repR LL fn tn = LL.take fn ++ [repM LL fn tn] ++ LL.drop tn) := by show _ = _; unfold repR; rw [if_pos HQ.out, e1, e2]
          have HPU := l06Put_any _ _ LL (repM LL fn tn) fn tn w.heap.size w4 (HG2.out _ c4) hL5 HL16.out (by omega) htl HXR.out c4.size
          clear h16
          go_wp2_with fail
          refine HPU.mono ?_
          rintro e w5 ⟨z, rfl, hb5, hz⟩
          go_wp2_with fail
          go_ret2
          exact ⟨z, by rw [HQ.out]; rfl, c4.trans (hb5.mono c4.size), by rw [HR.out]; exact hz.down c4.size (Nat.le_refl _)⟩
      · have q3 : ((fn : Int) == (tn : Int)) = false := beq_eq_false_iff_ne.2 (by omega)
        have q5 : (fn == tn) = false := beq_eq_false_iff_ne.2 hq
        clear hMM
        have HQQ := Lib.hid hq
        clear hq
        go_enter Tryz.func47, Tryz.ntmps47
        go_wp2_with fail
        refine HOK.mono ?_
        rintro e w1 ⟨rfl, c1⟩
        go_wp2_with fail
        refine (HI1 _).mono ?_
        rintro e w2 ⟨rfl, rfl⟩
        go_wp2_with fail
        refine (HI2 _).mono ?_
        rintro e w3 ⟨rfl, rfl⟩
        go_wp2_with fail
        refine (HAL _ c1).mono ?_
        rintro e w4 ⟨x, rfl, hb4, hx⟩
        have c4 := c1.trans (hb4.mono c1.size)
        obtain ⟨xA, xc, rfl⟩ := hx.form
        have HXR : Hid (RowOf w4 w.heap.size (.slice xA (repM LL fn tn).length xc) (repM LL fn tn).length (repM LL fn tn)) := ⟨rfl, own_down hx.2 c1.size⟩
        clear hx
        by_cases h16 : 16 < (repM LL fn tn).length
        · have hd6 : decide ((16 : Int) < ((repM LL fn tn).length : Int)) = true := decide_eq_true (by omega)
          have HQ : Hid (repC LL fn tn = 7) := by show _ = _; rw [HLM.out, e1, e2]; exact if_pos h16
          have HR := Lib.hid (repR_bad HQ.out (by decide))
          clear h16
          go_wp2_with fail
          go_ret2
          exact ⟨_, by rw [HQ.out]; rfl, c4.alloc c4.size _, by rw [HR.out]; exact E0.out _ c4⟩
        · have hd6 : decide ((16 : Int) < ((repM LL fn tn).length : Int)) = false := decide_eq_false (by omega)
          have HQ : Hid (repC LL fn tn = 0) := by show _ = _; rw [HLM.out, e1, e2]; exact if_neg h16
          have HR : Hid (repR LL fn tn = LL.take fn ++ [repM LL fn tn] ++ LL.drop tn) := by show _ = _; unfold repR; rw [if_pos HQ.out, e1, e2]
          have HPU := l06Put_any _ _ LL (repM LL fn tn) fn tn w.heap.size w4 (HG2.out _ c4) hL5 HL16.out (by omega) htl HXR.out c4.size
          clear h16
          go_wp2_with fail
          refine HPU.mono ?_
          rintro e w5 ⟨z, rfl, hb5, hz⟩
          go_wp2_with fail
          go_ret2
          exact ⟨z, by rw [HQ.out]; rfl, c4.trans (hb5.mono c4.size), by rw [HR.out]; exact hz.down c4.size (Nat.le_refl _)⟩
    · obtain ⟨b, off, rfl, hpg⟩ := hPART.2 hcf
      have HPG := Lib.hid hpg
      clear hPART hpg
      have HAL := HTAIL.out (.slice (some ⟨b, off + fn, none⟩) (tn - fn) (vcap - fn)) (fun W hW => HPG.out.below hW)
      by_cases hq : fn = tn
      · have q2 : ((LL.length : Int) == 5) = false := beq_eq_false_iff_ne.2 (by have := hMM hq; omega)
        have q4 : (LL.length == 5) = false := beq_eq_false_iff_ne.2 (by have := hMM hq; omega)
        have q3 : ((fn : Int) == (tn : Int)) = true := beq_iff_eq.2 (by omega)
        have q5 : (fn == tn) = true := beq_iff_eq.2 hq
        clear hMM
        have HQQ := Lib.hid hq
        clear hq
        go_enter Tryz.func47, Tryz.ntmps47
        go_wp2_with fail
        refine HOK.mono ?_
        rintro e w1 ⟨rfl, c1⟩
        go_wp2_with fail
        refine (HI1 _).mono ?_
        rintro e w2 ⟨rfl, rfl⟩
        go_wp2_with fail
        refine (HI2 _).mono ?_
        rintro e w3 ⟨rfl, rfl⟩
        go_wp2_with fail
        refine (HAL _ c1).mono ?_
        rintro e w4 ⟨x, rfl, hb4, hx⟩
        have c4 := c1.trans (hb4.mono c1.size)
        obtain ⟨xA, xc, rfl⟩ := hx.form
        have HXR : Hid (RowOf w4 w.heap.size (.slice xA (repM LL fn tn).length xc) (repM LL fn tn).length (repM LL fn tn)) := ⟨rfl, own_down hx.2 c1.size⟩
        clear hx
        by_cases h16 : 16 < (repM LL fn tn).length
        · have hd6 : decide ((16 : Int) < ((repM LL fn tn).length : Int)) = true := decide_eq_true (by omega)
          have HQ : Hid (repC LL fn tn = 7) := by show _ = _; rw [HLM.out, e1, e2]; exact if_pos h16
          have HR := Lib.hid (repR_bad HQ.out (by decide))
          clear h16
          go_wp2_with fail
          go_ret2
          exact ⟨_, by rw [HQ.out]; rfl, c4.alloc c4.size _, by rw [HR.out]; exact E0.out _ c4⟩
        · have hd6 : decide ((16 : Int) < ((repM LL fn tn).length : Int)) = false := decide_eq_false (by omega)
          have HQ : Hid (repC LL fn tn = 0) := by show _ = _; rw [HLM.out, e1, e2]; exact if_neg h16
          have HR : Hid (repR LL fn tn = LL.take fn ++ [repM LL fn tn] ++ LL.drop tn) := by show _ = _; unfold repR; rw [if_pos HQ.out, e1, e2]
          have HPU := l06Put_any _ _ LL (repM LL fn tn) fn tn w.heap.size w4 (HG2.out _ c4) hL5 HL16.out (by omega) htl HXR.out c4.size
          clear h16
          go_wp2_with fail
          refine HPU.mono ?_
          rintro e w5 ⟨z, rfl, hb5, hz⟩
          go_wp2_with fail
          go_ret2
          exact ⟨z, by rw [HQ.out]; rfl, c4.trans (hb5.mono c4.size), by rw [HR.out]; exact hz.down c4.size (Nat.le_refl _)⟩
      · have q3 : ((fn : Int) == (tn : Int)) = false := beq_eq_false_iff_ne.2 (by omega)
        have q5 : (fn == tn) = false := beq_eq_false_iff_ne.2 hq
        clear hMM
        have HQQ := Lib.hid hq
        clear hq
        go_enter Tryz.func47, Tryz.ntmps47
        go_wp2_with fail
        refine HOK.mono ?_
        rintro e w1 ⟨rfl, c1⟩
        go_wp2_with fail
        refine (HI1 _).mono ?_
        rintro e w2 ⟨rfl, rfl⟩
        go_wp2_with fail
        refine (HI2 _).mono ?_
        rintro e w3 ⟨rfl, rfl⟩
        go_wp2_with fail
        refine (HAL _ c1).mono ?_
        rintro e w4 ⟨x, rfl, hb4, hx⟩
        have c4 := c1.trans (hb4.mono c1.size)
        obtain ⟨xA, xc, rfl⟩ := hx.form
        have HXR : Hid (RowOf w4 w.heap.size (.slice xA (repM LL fn tn).length xc) (repM LL fn tn).length (repM LL fn tn)) := ⟨rfl, own_down hx.2 c1.size⟩
        clear hx
        by_cases h16 : 16 < (repM LL fn tn).length
        · have hd6 : decide ((16 : Int) < ((repM LL fn tn).length : Int)) = true := decide_eq_true (by omega)
          have HQ : Hid (repC LL fn tn = 7) := by show _ = _; rw [HLM.out, e1, e2]; exact if_pos h16
          have HR := Lib.hid (repR_bad HQ.out (by decide))
          clear h16
          go_wp2_with fail
          go_ret2
          exact ⟨_, by rw [HQ.out]; rfl, c4.alloc c4.size _, by rw [HR.out]; exact E0.out _ c4⟩
        · have hd6 : decide ((16 : Int) < ((repM LL fn tn).length : Int)) = false := decide_eq_false (by omega)
          have HQ : Hid (repC LL fn tn = 0) := by show _ = _; rw [HLM.out, e1, e2]; exact if_neg h16
          have HR : Hid (repR LL fn tn = LL.take fn ++ [repM LL fn tn] ++ LL.drop tn) := by show _ = _; unfold repR; rw [if_pos HQ.out, e1, e2]
          have HPU := l06Put_any _ _ LL (repM LL fn tn) fn tn w.heap.size w4 (HG2.out _ c4) hL5 HL16.out (by omega) htl HXR.out c4.size
          clear h16
          go_wp2_with fail
          refine HPU.mono ?_
          rintro e w5 ⟨z, rfl, hb5, hz⟩
          go_wp2_with fail
          go_ret2
          exact ⟨z, by rw [HQ.out]; rfl, c4.trans (hb5.mono c4.size), by rw [HR.out]; exact hz.down c4.size (Nat.le_refl _)⟩
end Go.Proofs.YtibekkfbpmloiabGreatDoor.Recs
