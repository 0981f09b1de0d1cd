/- Parts of several texts of mine in one file (each begins with its own remark). -/
import Derived.Test.YtcnjiphoahoojaaDoorCA2
import Derived.Test.YtcnjiphoahoojaaDoorCA3
import Derived.Test.YtcnjiphoahoojaaDoorCA4
import Derived.Test.YtcnjiphoahoojaaDoorCA5
import Derived.Test.YtcnjiphoahoojaaDoorCA6
import Derived.Test.YtcnjiphoahoojaaDoorCA7
import Derived.Test.YtcnjiphoahoojaaDoorCB10
import Derived.Test.YtcnjiphoahoojaaDoorCB12
import Derived.Test.YtcnjiphoahoojaaDoorCB13
import Derived.Test.YtcnjiphoahoojaaDoorCB2
import Derived.Test.YtcnjiphoahoojaaDoorCB3
import Derived.Test.YtcnjiphoahoojaaDoorCB4
import Derived.Test.YtcnjiphoahoojaaDoorCB5
import Derived.Test.YtcnjiphoahoojaaDoorCB6
import Derived.Test.YtcnjiphoahoojaaDoorCB9
import Derived.Test.YtcnjiphoahoojaaDoorChecked
import Derived.Test.YtcnjiphoahoojaaDoorShelf
import Derived.Test.YtcnjiphoahoojaaDoorProg
import Derived.Test.YtcnjiphoahoojaaDoorRows
import Derived.Deep.AppendLies
import Derived.Laws.IdiomCopy
import Derived.BigRegion
import Derived.StillTailTactics
import Derived.Deep.Slices
import Derived.OpenShut
import Derived.ShutString
import Derived.ChangeArms
import Derived.WideShapes
import Derived.Lib.LaidTab
import Derived.BigQuiet
import Derived.Deep.QuietTactic
import Derived.Deep.RegionHeld3
import Derived.Deep.Draws
import Derived.Deep.LoopGhost
import Derived.WalkKit
import Derived.WalkSpells
import Derived.WalkSmall
import Derived.Lib.OthersKept
import Derived.Lib.Hide
import Derived.Lib.Strings
import Derived.Lib.Join
import Derived.Laws.OwnMore
import Derived.Laws.BytesArg
import Derived.Stop.LaidErr
import Derived.WalkLawsBesides
import Derived.LaidEql
import Derived.Stop.Asserts
import Derived.Below
import Derived.Stop.LaidTwo
import Derived.ChangeVars
import Derived.Deep.DeepHandedRow
import Derived.Deep.RegionWith
import Derived.OneCell
import Derived.Lib.SliceRun
import Derived.Lib.Overlaps
import Derived.Lib.AppendZerosOnto
import Derived.Laws.NewBlocks
import Derived.Deep.RegionLaw
import Derived.RangeFuncNested
import Derived.RangeFuncBound
import Derived.RangeFuncCalls
import Derived.RangeFuncLeaves
import Derived.RangeFuncBox
import Derived.Shelf.Abstract
import Derived.Shelf.RegionOpen
import Derived.OwnWalkIn
import Derived.TacticsInMore
import Derived.LoopNIn
import Derived.LoopIn
/- PathsOf, of the model. -/
namespace Go.Proofs.YtcnjiphoahoojaaDoor.Recs
set_option maxRecDepth 100000
open Go.RowKit Paths Errs

theorem vS_bts (P : List ByteArray) : (bts P).map strV = vS P ∧ (bts P).length = P.length := by
  unfold bts vS strV
  rw [List.map_map, List.length_map]
  exact ⟨rfl, rfl⟩
theorem StrRow.po {w : World} {b : Nat} {x : Value} {LL : List (List R)} (h : StrRow w b x (pathsL LL)) (h0 : codeS LL = 0) : w.ownsRow b 9 1 x (poR LL).length ((poR LL).map strV) := by
  rw [po_ok h0, (vS_bts _).1, (vS_bts _).2]
  exact h.1

set_option maxHeartbeats 1000000 in
theorem pathsOf_spec (v : Value) (LL : List (List R)) (w : World) (h : StkSl w v LL) (hl : LL.length ≤ 1048576) (hll : ∀ l ∈ LL, l.length ≤ 1048576) :
    Calls Tryd.prog 7 #[v] w fun e w' => ∃ z, e = .returned (.tuple #[z, .int .i64 (codeS LL)]) ∧ Below w.heap.size w w' ∧ w'.ownsRow w.heap.size 9 1 z (poR LL).length ((poR LL).map strV) := by
  have HS := Lib.hid h
  obtain ⟨vA, vcap, rfl⟩ := h.form
  have HOK := l05Stack_any _ LL w h hl hll
  have E0 : Hid (∀ W, Below w.heap.size w W → (W.alloc (.cells #[] 9)).ownsRow w.heap.size 9 1 (.slice (some ⟨W.heap.size, 0, none⟩) 0 0) 0 []) := fun W hW => World.ownsRow_lit W #[] 0 hW.size (Nat.zero_le _) rfl
  by_cases h1 : 4096 < LL.length
  · have hd : decide ((4096 : Int) < (LL.length : Int)) = true := by simp; omega
    have HC := Lib.hid (s_long h1)
    have HQ := Lib.hid (po_bad (s_long h1) (by decide))
    clear h1
    go_enter Tryd.func7, Tryd.ntmps7
    go_wp2_with fail
    go_ret2
    exact ⟨_, by rw [HC.out]; rfl, (Below.refl _ _).alloc (Nat.le_refl _) _, by rw [HQ.out]; exact E0.out _ (Below.refl _ _)⟩
  have hd1 : decide ((4096 : Int) < (LL.length : Int)) = false := by simp; omega
  cases ho : stackOK LL with
  | false =>
    have HC := Lib.hid (s_bad h1 ho)
    have HQ := Lib.hid (po_bad (s_bad h1 ho) (by decide))
    rw [ho] at HOK
    clear h1 ho
    go_enter Tryd.func7, Tryd.ntmps7
    go_wp2_with fail
    refine HOK.mono ?_
    rintro e w1 ⟨rfl, c0⟩
    go_wp2_with fail
    go_ret2
    exact ⟨_, by rw [HC.out]; rfl, c0.alloc c0.size _, by rw [HQ.out]; exact E0.out _ c0⟩
  | true =>
    have H0 := Lib.hid (s_ok h1 ho)
    have hst := stack_of ho
    have HAL := fun w' hb => l07Paths_any (.slice vA LL.length vcap) LL w' (HS.out.below hb) hst.1 hst.2
    rw [ho] at HOK
    clear h1 ho hst
    go_enter Tryd.func7, Tryd.ntmps7
    go_wp2_with fail
    refine HOK.mono ?_
    rintro e w1 ⟨rfl, c0⟩
    go_wp2_with fail
    refine (HAL _ c0).mono ?_
    rintro e w4 ⟨f, rfl, hb4, hf⟩
    have c4 := c0.trans (hb4.mono c0.size)
    go_wp2_with fail
    go_ret2
    exact ⟨_, by rw [H0.out]; rfl, c4, own_le (hf.po H0.out) c0.size⟩
end Go.Proofs.YtcnjiphoahoojaaDoor.Recs

/- For laws over stacks: the laws' own sizes with their sums; blocks between two numbers; marks in a stack. -/
namespace Go.Proofs.YtcnjiphoahoojaaDoor.Recs
set_option maxRecDepth 100000
open Go.RowKit Paths

def total (LL : List (List R)) : Nat := (LL.map List.length).sum
theorem total_snoc {LL : List (List R)} {k : Nat} (hk : k < LL.length) : total (LL.take (k + 1)) = total (LL.take k) + LL[k].length := by
  unfold total
  rw [List.take_succ_eq_append_getElem hk, List.map_append, List.sum_append]
  simp
theorem total_le : ∀ {LL : List (List R)} {l : List R}, l ∈ LL → l.length ≤ total LL
  | x :: LL, l, h => by
    unfold total
    rw [List.map_cons, List.sum_cons]
    rcases List.mem_cons.1 h with rfl | h
    · omega
    · have := total_le h
      unfold total at this
      omega
set_option maxHeartbeats 800000 in
theorem szRecordSS_sum (v : Value) (LL : List (List R)) (n : Nat) (w : World) (h : StkSl w v LL) (hlm : LL.length ≤ maxLen) (hs : ∀ l ∈ LL, l.length ≤ maxLen ∧ ∀ r ∈ l, r.p.size ≤ maxLen ∧ r.b.size ≤ maxLen) (hn : n ≤ 1048576) :
    Calls Tryd.prog 6 #[v, .int .i64 n] w fun e w' => (∃ z : Int, z < 0 ∧ e = .returned (.int .i64 z) ∧ Below w.heap.size w w') ∨ ∃ z : Nat, z + LL.length + total LL ≤ n ∧ e = .returned (.int .i64 z) ∧ Below w.heap.size w w' := by
  unfold maxLen at hlm
  obtain ⟨A, cap, rfl, hcap, h⟩ := h
  have H := Lib.hid h
  clear h
  by_cases h1 : n < LL.length
  · have hd : decide ((n : Int) - (LL.length : Int) < 0) = true := by simp; omega
    go_enter Tryd.func6, Tryd.ntmps6
    go_wp2_with fail
    go_ret
    exact .inl ⟨_, by omega, rfl, Below.refl _ _⟩
  have hd : decide ((n : Int) - (LL.length : Int) < 0) = false := by simp; omega
  go_enter Tryd.func6, Tryd.ntmps6
  go_wp2
  go_loopw [1, 5] (fun m i wr => ∃ (j z : Nat), j ≤ LL.length ∧ i = .int .i64 j ∧ m = .int .i64 z ∧ z + LL.length + total (LL.take j) ≤ n ∧ Below w.heap.size w wr) (fun _ i _ => LL.length - (intOf i).toNat)
  case atStart => exact ⟨0, n - LL.length, by omega, rfl, by go_num, by show _ + _ + 0 ≤ _; omega, Below.refl _ _⟩
  case round =>
    obtain ⟨j, z, hj, rfl, rfl, hz, hbw⟩ := hrel
    by_cases hlt : j < LL.length
    · obtain ⟨b, off, rfl, hb, hcell⟩ := H.out (by omega)
      obtain ⟨u, c0, hu⟩ := hcell j LL[j] (by simp [hlt])
      have c0' := (hbw.cell (p := ⟨b, off + j, none⟩) hb).trans c0
      have hu' := hu.below hbw
      obtain ⟨s1, s2⟩ := hs LL[j] (List.getElem_mem hlt)
      clear hcell c0 hu
      obtain ⟨uA, ucap, rfl, hucap, hur⟩ := hu'
      have HU := szRecordS_sum _ LL[j] z wr ⟨uA, ucap, rfl, hucap, hur⟩ s1 s2 (by omega)
      clear hur
      have hi1 : (j : Int) < (LL.length : Int) := by omega
      have hi0 : (0 : Int) ≤ (j : Int) := by omega
      go_wp2_with fail
      refine HU.mono ?_
      rintro e w1 (⟨z1, hz1, rfl, hb1⟩ | ⟨z1, hz1, rfl, hb1⟩)
      · have hd1 : decide (z1 < 0) = true := by simpa using hz1
        go_wp2_with fail
        go_ret
        exact .inl ⟨_, by omega, rfl, hbw.trans (hb1.mono hbw.size)⟩
      · have hd1 : decide ((z1 : Int) < 0) = false := by simp
        go_wp2_with fail
        go_roundw
        case rel => exact ⟨j + 1, z1, by omega, by go_num, rfl, by rw [total_snoc hlt]; omega, hbw.trans (hb1.mono hbw.size)⟩
        case measure => simp [intOf]; omega
    · obtain rfl : j = LL.length := by omega
      rw [List.take_of_length_le (Nat.le_refl _)] at hz
      go_wp2
      go_ret
      exact .inr ⟨z, hz, rfl, hbw⟩

/-- The rows of a stack lie from base on, below top. -/
theorem StkRow.low {w : World} {base : Nat} {v : Value} {LL : List (List R)} (h : StkRow w base v LL) : ∃ (g : Nat) (us : List Value), v = .slice (some ⟨g, 0, none⟩) LL.length LL.length ∧ us.length = LL.length ∧ g < w.heap.size ∧ (∀ (i : Nat) (u : Value), us[i]? = some u → w.cell? ⟨g, i, none⟩ = some u) ∧
    ∀ (i : Nat) (u : Value) (l : List R), us[i]? = some u → LL[i]? = some l → RowOf w base u l.length l ∧ u.ownBlock ≠ some g ∧ ∀ (j : Nat) (u' : Value), us[j]? = some u' → ∀ c, u.ownBlock = some c → u'.ownBlock = some c → i = j := by
  obtain ⟨g, us, rfl, hn, ho, h1, h2⟩ := h
  refine ⟨g, us, rfl, hn, (ho.lt g rfl).2, fun i u hi => ?_, fun i u l hi hl => ?_⟩
  · have hlt : i < us.length := (List.getElem?_eq_some_iff.1 hi).1
    have := ho.cellAt i (by omega)
    rw [hi] at this
    exact this
  · have hlt : i < LL.length := (List.getElem?_eq_some_iff.1 hl).1
    refine ⟨(h1 i u l hlt hi hl).1, (h1 i u l hlt hi hl).2, fun j u' hj c hc hc' => ?_⟩
    have hjl : j < us.length := (List.getElem?_eq_some_iff.1 hj).1
    exact h2 i j u u' c hlt (by omega) hi hj hc hc'

theorem StkRow.top {w w' : World} {base : Nat} {v : Value} {LL : List (List R)} (h : StkRow w base v LL) (hb : Below w.heap.size w w') : ∀ (g : Nat) (us : List Value), v = .slice (some ⟨g, 0, none⟩) LL.length LL.length → us.length = LL.length → (∀ (i : Nat) (u : Value), us[i]? = some u → w'.cell? ⟨g, i, none⟩ = some u) → ∀ (i : Nat) (u : Value), us[i]? = some u → ∀ c, u.ownBlock = some c → c < w.heap.size := by
  obtain ⟨g, us, rfl, hn, hgl, hcs, hrs⟩ := h.low
  intro g' us' e hn' hc' i u hi c hc
  cases e
  have hlt : i < us'.length := (List.getElem?_eq_some_iff.1 hi).1
  have h1 := hcs i (us[i]'(by omega)) (List.getElem?_eq_getElem _)
  have h2 := (hb.cell (p := ⟨g, i, none⟩) hgl).symm.trans (hc' i u hi)
  rw [h1] at h2
  cases h2
  exact ((hrs i _ _ (List.getElem?_eq_getElem (by omega)) (List.getElem?_eq_getElem (by omega))).1.2.lt c hc).2

set_option maxHeartbeats 1600000 in
theorem markRecordSS_any (v : Value) (LL : List (List R)) (base top : Nat) (x : Int) (w : World) (hrow : StkRow w base v LL) (h0 : 0 ≤ x) (hk : x + 5 * total LL ≤ 1099511627776) (hL : LL.length ≤ 1048576) (htop : ∀ (g : Nat) (us : List Value), v = .slice (some ⟨g, 0, none⟩) LL.length LL.length → us.length = LL.length → (∀ (i : Nat) (u : Value), us[i]? = some u → w.cell? ⟨g, i, none⟩ = some u) → ∀ (i : Nat) (u : Value), us[i]? = some u → ∀ c, u.ownBlock = some c → c < top) :
    Calls Tryd.prog 12 #[v, .int .i64 x] w fun e w' => e = .returned (.int .i64 (x + 5 * total LL)) ∧ Betw base top w w' := by
  obtain ⟨g, us, rfl, hn, hgl, hcs, hrs⟩ := hrow.low
  have HTOP := Lib.hid (htop g us rfl hn hcs)
  have HCS := Lib.hid hcs
  have HRS := Lib.hid hrs
  clear hcs hrs htop hrow
  go_enter Tryd.func12, Tryd.ntmps12
  go_wp2
  go_loopw [1, 5] (fun kv i wr => ∃ j : Nat, j ≤ LL.length ∧ i = .int .i64 j ∧ kv = .int .i64 (x + 5 * total (LL.take j)) ∧ Betw base top w wr ∧ Hid (∀ (i : Nat) (u : Value) (l : List R), us[i]? = some u → LL[i]? = some l → wr.cell? ⟨g, i, none⟩ = some u ∧ (j ≤ i → RowOf wr base u l.length l))) (fun _ i _ => LL.length - (intOf i).toNat)
  case atStart => exact ⟨0, by omega, rfl, by show _ = Value.int .i64 (x + 5 * ((0 : Nat) : Int)); simp, Betw.refl _ _ _, fun i u l hi hl => ⟨HCS.out i u hi, fun _ => (HRS.out i u l hi hl).1⟩⟩
  case round =>
    obtain ⟨j, hj, rfl, rfl, hbt, HJ⟩ := hrel
    by_cases hlt : j < LL.length
    · have hu : us[j]? = some (us[j]'(by omega)) := List.getElem?_eq_getElem _
      have hl : LL[j]? = some LL[j] := List.getElem?_eq_getElem hlt
      obtain ⟨c0, hr0⟩ := HJ.out j _ _ hu hl
      have hr1 := hr0 (Nat.le_refl _)
      have hts := total_snoc hlt
      have htl : total (LL.take (j + 1)) ≤ total LL := by
        unfold total
        conv => rhs; rw [← List.take_append_drop (j + 1) LL, List.map_append, List.sum_append]
        omega
      have HM := markRecordS_any _ _ _ _ (x + 5 * total (LL.take j)) wr hr1 (by omega) (by omega)
      obtain ⟨uA, uc, hue⟩ := own_form hr1.2
      generalize hU : us[j]'(by omega) = U at *
      subst hue
      have hi1 : (j : Int) < (LL.length : Int) := by omega
      have hi0 : (0 : Int) ≤ (j : Int) := by omega
      have HTS := Lib.hid hts
      have HU := Lib.hid hu
      have HLL := Lib.hid hl
      have HR1 := Lib.hid hr1
      clear hts htl hu hl hr0 hr1 hU
      go_wp2_with fail
      refine HM.mono ?_
      rintro e w2 ⟨rfl, -, hg2⟩
      have hb2 : Betw base top wr w2 := betw_of hg2 (fun k hk2 => ⟨(HR1.out.2.lt k hk2).1, HTOP.out j _ HU.out k hk2⟩)
      go_wp2_with fail
      go_roundw
      case rel =>
        refine ⟨j + 1, by omega, by go_num, ?_, hbt.trans hb2, fun i u l hi hl => ?_⟩
        · rw [HTS.out]
          congr 1
          push_cast
          omega
        · obtain ⟨d0, d1⟩ := HJ.out i u l hi hl
          obtain ⟨e1, e2, e3⟩ := HRS.out j _ _ HU.out HLL.out
          refine ⟨hg2.cell d0 (fun e => e2 e.symm), fun hji => ?_⟩
          refine ⟨rfl, (d1 (by omega)).2.kept hg2 ?_⟩
          cases hub : u.ownBlock with
          | none => exact .inl rfl
          | some c =>
            refine .inr (fun e => ?_)
            have := e3 i u hi c e.symm hub
            omega
      case measure => simp [intOf]; omega
    · obtain rfl : j = LL.length := by omega
      rw [List.take_of_length_le (Nat.le_refl _)]
      go_wp2
      go_ret
      exact ⟨rfl, hbt⟩
end Go.Proofs.YtcnjiphoahoojaaDoor.Recs
