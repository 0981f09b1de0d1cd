/- Parts of several texts of mine in one file (each begins with its own remark). -/
import Derived.Test.YthopokiablgjoaaGreatDoorCA10
import Derived.Test.YthopokiablgjoaaGreatDoorCA12
import Derived.Test.YthopokiablgjoaaGreatDoorCA13
import Derived.Test.YthopokiablgjoaaGreatDoorCA19
import Derived.Test.YthopokiablgjoaaGreatDoorCA2
import Derived.Test.YthopokiablgjoaaGreatDoorCA20
import Derived.Test.YthopokiablgjoaaGreatDoorCA3
import Derived.Test.YthopokiablgjoaaGreatDoorCA4
import Derived.Test.YthopokiablgjoaaGreatDoorCA5
import Derived.Test.YthopokiablgjoaaGreatDoorCA7
import Derived.Test.YthopokiablgjoaaGreatDoorCA8
import Derived.Test.YthopokiablgjoaaGreatDoorCA9
import Derived.Test.YthopokiablgjoaaGreatDoorChecked
import Derived.Test.YthopokiablgjoaaGreatDoorRows
import Derived.Test.YthopokiablgjoaaGreatDoorProg
import Derived.Test.YthopokiablgjoaaGreatDoorShelf
import Derived.StillTailTactics
import Derived.Laws.OwnMore
import Derived.BigQuiet
import Derived.BigRegion
import Derived.Deep.QuietTactic
import Derived.Deep.RegionHeld3
import Derived.Deep.Slices
import Derived.OpenShut
import Derived.ShutString
import Derived.ChangeArms
import Derived.WideShapes
import Derived.Lib.LaidTab
import Derived.Deep.Draws
import Derived.Deep.LoopGhost
import Derived.WalkKit
import Derived.WalkSpells
import Derived.WalkSmall
import Derived.Lib.OthersKept
import Derived.Lib.Hide
import Derived.Lib.Strings
import Derived.Lib.Join
import Derived.Laws.BytesArg
import Derived.Deep.RegionWith
import Derived.OneCell
import Derived.Lib.SliceRun
import Derived.Lib.Overlaps
import Derived.Lib.AppendZerosOnto
import Derived.Laws.NewBlocks
import Derived.Laws.IdiomCopy
import Derived.Deep.RegionLaw
import Derived.ChangeVars
import Derived.Deep.DeepHandedRow
import Derived.LaidEql
import Derived.Stop.Asserts
import Derived.Below
import Derived.Stop.LaidErr
import Derived.Stop.LaidTwo
import Derived.WalkLawsBesides
import Derived.Laws.AppendOwnNone
/- Marks in a stack of its own memory, and whether they are held. -/
namespace Go.Proofs.YthopokiablgjoaaGreatDoor.Recs
set_option maxRecDepth 100000
open Go.RowKit Paths

theorem rows_apart' {w : World} {b b' : Nat} {u v : Value} {n m : Nat} {xs ys : List Value} (h : w.ownsRow b 52 5 u n xs) (k : w.ownsRow b' 23 1 v m ys) : v.ownBlock = none ∨ v.ownBlock ≠ u.ownBlock := by
  rcases rows_apart h k with h1 | h1
  · rw [h1]
    cases v.ownBlock with
    | none => exact .inl rfl
    | some c => exact .inr (fun e => by cases e)
  · exact .inr (fun e => h1 e.symm)

set_option maxHeartbeats 1600000 in
theorem markStk_any (v : Value) (LL : List (List R)) (hb base : Nat) (x : Int) (w : World) (hrow : StkOwn w hb base v LL) (h0 : 0 ≤ x) (hk : x + 5 * total LL ≤ 1099511627776) (hL : LL.length ≤ 1048576) :
    Calls Tryz.prog 55 #[v, .int .i64 x] w fun e w' => e = .returned (.int .i64 (x + 5 * total LL)) ∧ StkOwn w' hb base v (markLL x LL) ∧ Betw base w.heap.size w w' := by
  obtain ⟨us, hn, ho, h1, h2⟩ := hrow
  obtain ⟨vA, vcap, rfl⟩ := own_form ho
  have HO := Lib.hid ho
  have H1 := Lib.hid h1
  have H2 := Lib.hid h2
  clear ho h1 h2
  go_enter Tryz.func55, Tryz.ntmps55
  go_wp2
  go_loopw [1, 5] (fun kv i wr => ∃ j : Nat, j ≤ LL.length ∧ i = .int .i64 j ∧ kv = .int .i64 (x + 5 * total (LL.take j)) ∧ Betw base w.heap.size w wr ∧ Hid (wr.ownsRow hb 23 1 (.slice vA LL.length vcap) LL.length us) ∧ Hid (∀ (i : Nat) (u : Value) (l : List R), us[i]? = some u → LL[i]? = some l → (j ≤ i → RowOf wr base u l.length l) ∧ (i < j → RowOf wr base u l.length (markR (x + 5 * (total (LL.take i) : Int)) l.length)))) (fun _ i _ => LL.length - (intOf i).toNat)
  case atStart => exact ⟨0, by omega, rfl, by show _ = Value.int .i64 (x + 5 * ((0 : Nat) : Int)); simp, Betw.refl _ _ _, HO, fun i u l hi hl => ⟨fun _ => H1.out i u l hi hl, fun h => by omega⟩⟩
  case round =>
    obtain ⟨j, hj, rfl, rfl, hbt, HOJ, HJ⟩ := hrel
    by_cases hlt : j < LL.length
    · have hu : us[j]? = some (us[j]'(by omega)) := List.getElem?_eq_getElem _
      have hl : LL[j]? = some LL[j] := List.getElem?_eq_getElem hlt
      have hr1 := (HJ.out j _ _ hu hl).1 (Nat.le_refl _)
      have hts := total_snoc hlt
      have htl : total (LL.take (j + 1)) ≤ total LL := by
        unfold total
        conv => rhs; rw [← List.take_append_drop (j + 1) LL, List.map_append, List.sum_append]
        omega
      have HM := markRecordS_any _ _ _ _ (x + 5 * total (LL.take j)) wr hr1 (by omega) (by omega)
      obtain ⟨uA, uc, hue⟩ := own_form hr1.2
      have hcell : wr.cell? ⟨(match vA with | some a => a.block | none => 0), (match vA with | some a => a.off | none => 0) + j, none⟩ = some (us[j]'(by omega)) ∧ ∃ b, vA = some ⟨b, 0, none⟩ := by
        have hoj := HOJ.out
        rcases hoj.2 with ⟨e, h00⟩ | ⟨g, cap, cur, e, _, hg, hc, _⟩
        · omega
        · cases e
          have := hoj.cellAt j (by omega)
          rw [hu] at this
          refine ⟨?_, g, rfl⟩
          simpa using this
      obtain ⟨hc0, b, rfl⟩ := hcell
      dsimp only at hc0
      rw [Nat.zero_add] at hc0
      generalize hU : us[j]'(by omega) = U at *
      subst hue
      have hi1 : (j : Int) < (LL.length : Int) := by omega
      have hi0 : (0 : Int) ≤ (j : Int) := by omega
      have HTS := Lib.hid hts
      have HU := Lib.hid hu
      have HLL := Lib.hid hl
      have HR1 := Lib.hid hr1
      clear hts htl hu hl hr1 hU
      go_wp2_with fail
      refine HM.mono ?_
      rintro e w2 ⟨rfl, hm2, hg2⟩
      have HM2 := Lib.hid hm2
      have hb2 : Betw base w.heap.size wr w2 := betw_of hg2 (fun k hk2 => ⟨(HR1.out.2.lt k hk2).1, by
        have := (H1.out j _ _ HU.out HLL.out).2.lt k hk2
        exact this.2⟩)
      clear hm2
      go_wp2_with fail
      go_roundw
      case rel =>
        refine ⟨j + 1, by omega, by go_num, ?_, hbt.trans hb2, HOJ.out.kept hg2 (rows_apart' HR1.out.2 HOJ.out), fun i u l hi hl => ?_⟩
        · rw [HTS.out]
          congr 1
          push_cast
          omega
        · have hne : i ≠ j → u.ownBlock = none ∨ u.ownBlock ≠ (Value.slice uA LL[j].length uc).ownBlock := fun hij => by
            cases hub : u.ownBlock with
            | none => exact .inl rfl
            | some c => exact .inr (fun e => hij (H2.out i j u _ c hi HU.out hub e.symm))
          refine ⟨fun hji => ?_, fun hji => ?_⟩
          · have := (HJ.out i u l hi hl).1 (by omega)
            exact ⟨rfl, this.2.kept hg2 (hne (by omega))⟩
          · rcases Nat.lt_or_ge i j with h3 | h3
            · have := (HJ.out i u l hi hl).2 h3
              exact ⟨this.1, this.2.kept hg2 (hne (by omega))⟩
            · have e : i = j := by omega
              subst e
              have e1 := HU.out
              rw [hi] at e1
              cases e1
              have e2 := HLL.out
              rw [hl] at e2
              cases e2
              exact HM2.out
      case measure => simp [intOf]; omega
    · obtain rfl : j = LL.length := by omega
      rw [List.take_of_length_le (Nat.le_refl _)]
      have HF : Hid (StkOwn wr hb base (.slice vA LL.length vcap) (markLL x LL)) := by
        refine ⟨us, by rw [markLL_len]; exact hn, by rw [markLL_len]; exact HOJ.out, fun i u l hi hl => ?_, H2.out⟩
        have hlt2 : i < LL.length := by
          have := (List.getElem?_eq_some_iff.1 hi).1
          omega
        rw [List.getElem?_eq_getElem (by rw [markLL_len]; exact hlt2), markLL_at x LL i hlt2] at hl
        cases hl
        have := (HJ.out i u LL[i] hi (List.getElem?_eq_getElem hlt2)).2 hlt2
        rw [markR_len]
        exact this
      go_wp2
      go_ret
      exact ⟨rfl, HF.out, hbt⟩

set_option maxHeartbeats 800000 in
theorem heldStk_any (v : Value) (LL : List (List R)) (hb base : Nat) (x : Int) (w : World) (hrow : StkOwn w hb base v (markLL x LL)) (h0 : 0 ≤ x) (hk : x + 5 * total LL ≤ 1099511627776) (hL : LL.length ≤ 1048576) :
    Calls Tryz.prog 56 #[v, .int .i64 x] w fun e w' => e = .returned (.int .i64 (x + 5 * total LL)) ∧ Below w.heap.size w w' := by
  obtain ⟨us, hn, ho, h1, h2⟩ := hrow
  rw [markLL_len] at hn ho
  obtain ⟨vA, vcap, rfl⟩ := own_form ho
  have HO := Lib.hid ho
  have H1 := Lib.hid h1
  clear ho h1 h2
  go_enter Tryz.func56, Tryz.ntmps56
  go_wp2
  go_loopw [1, 5] (fun kv i wr => ∃ j : Nat, j ≤ LL.length ∧ i = .int .i64 j ∧ kv = .int .i64 (x + 5 * total (LL.take j)) ∧ Below w.heap.size w wr) (fun _ i _ => LL.length - (intOf i).toNat)
  case atStart => exact ⟨0, by omega, rfl, by show _ = Value.int .i64 (x + 5 * ((0 : Nat) : Int)); simp, Below.refl _ _⟩
  case round =>
    obtain ⟨j, hj, rfl, rfl, hbw⟩ := hrel
    by_cases hlt : j < LL.length
    · have hu : us[j]? = some (us[j]'(by omega)) := List.getElem?_eq_getElem _
      have hl : (markLL x LL)[j]? = some (markR (x + 5 * (total (LL.take j) : Int)) LL[j].length) := by rw [List.getElem?_eq_getElem (by rw [markLL_len]; exact hlt), markLL_at x LL j hlt]
      have hr1 := (H1.out j _ _ hu hl).below hbw
      rw [markR_len] at hr1
      have hts := total_snoc hlt
      have htl : total (LL.take (j + 1)) ≤ total LL := by
        unfold total
        conv => rhs; rw [← List.take_append_drop (j + 1) LL, List.map_append, List.sum_append]
        omega
      have HM := heldRecordS_any _ _ _ (x + 5 * total (LL.take j)) wr hr1 (by omega) (by omega)
      obtain ⟨uA, uc, hue⟩ := own_form hr1.2
      have hcell : ∃ b, vA = some ⟨b, 0, none⟩ ∧ wr.cell? ⟨b, j, none⟩ = some (us[j]'(by omega)) := by
        have hoj := own_below HO.out hbw
        rcases hoj.2 with ⟨e, h00⟩ | ⟨g, cap, cur, e, _, hg, hc, _⟩
        · omega
        · cases e
          have := hoj.cellAt j (by omega)
          rw [hu] at this
          exact ⟨g, rfl, this⟩
      obtain ⟨b, rfl, hc0⟩ := hcell
      generalize hU : us[j]'(by omega) = U at *
      subst hue
      have hi1 : (j : Int) < (LL.length : Int) := by omega
      have hi0 : (0 : Int) ≤ (j : Int) := by omega
      have HTS := Lib.hid hts
      have hd : decide ((x + 5 * (total (LL.take j) : Int) + 5 * (LL[j].length : Int)) < 0) = false := decide_eq_false (by omega)
      clear hts htl hu hl hr1 hU
      go_wp2_with fail
      refine HM.mono ?_
      rintro e w2 ⟨rfl, hb2⟩
      go_wp2_with fail
      go_roundw
      case rel =>
        refine ⟨j + 1, by omega, by go_num, ?_, hbw.trans (hb2.mono hbw.size)⟩
        rw [HTS.out]
        congr 1
        push_cast
        omega
      case measure => simp [intOf]; omega
    · obtain rfl : j = LL.length := by omega
      rw [List.take_of_length_le (Nat.le_refl _)]
      go_wp2
      go_ret
      exact ⟨rfl, hbw⟩
end Go.Proofs.YthopokiablgjoaaGreatDoor.Recs

/- What Replaced answers, in numbers; a stack of its own memory where only blocks below it have turned. -/
namespace Go.Proofs.YthopokiablgjoaaGreatDoor.Recs
set_option maxRecDepth 100000
open Go.RowKit Paths

theorem StkOwn.betw {w w' : World} {b base top : Nat} {v : Value} {LL : List (List R)} (h : StkOwn w b b v LL) (hb : Betw base top w w') (ht : top ≤ b) : StkOwn w' b b v LL := by
  obtain ⟨us, hn, ho, h1, h2⟩ := h
  exact ⟨us, hn, hb.own ho (fun k hk => .inr (Nat.le_trans ht (ho.lt k hk).1)), fun i u l hi hl => hb.recs (h1 i u l hi hl) (fun k hk => .inr (Nat.le_trans ht ((h1 i u l hi hl).2.lt k hk).1)), h2⟩
theorem repR_cases (LL : List (List R)) (f t : Int) : repR LL f t = [] ∨ (stackOK LL = true ∧ LL.length ≤ 5 ∧ (repM LL f.toNat t.toNat).length ≤ 16 ∧ repC LL f t = 0 ∧ repR LL f t = LL.take f.toNat ++ [repM LL f.toNat t.toNat] ++ LL.drop t.toNat) := by
  by_cases h : repC LL f t = 0
  · refine .inr ?_
    have hr : repR LL f t = LL.take f.toNat ++ [repM LL f.toNat t.toNat] ++ LL.drop t.toNat := if_pos h
    have h' := h
    unfold repC at h
    by_cases h0 : codeS LL = 0
    · rw [if_neg (by simpa using h0)] at h
      obtain ⟨_, hs⟩ := fine_s h0
      split at h
      · cases h
      · split at h
        · cases h
        · refine ⟨hs, (stack_of hs).1, ?_, h', hr⟩
          unfold limE at h
          split at h
          · cases h
          · omega
    · rw [if_pos h0] at h
      exact absurd h h0
  · exact .inl (if_neg h)
theorem total_16 : ∀ {LL : List (List R)}, (∀ l ∈ LL, l.length ≤ 16) → total LL ≤ 16 * LL.length
  | [], _ => by simp [total]
  | a :: t, h => by
    have ih := total_16 (LL := t) (fun l hm => h l (List.mem_cons_of_mem _ hm))
    have ha := h a (List.mem_cons_self ..)
    unfold total at ih ⊢
    simp only [List.map_cons, List.sum_cons, List.length_cons]
    omega
theorem repR_small (LL : List (List R)) (f t : Int) : (repR LL f t).length ≤ 11 ∧ ∀ l ∈ repR LL f t, l.length ≤ 16 := by
  rcases repR_cases LL f t with h | ⟨hs, hl, hm, -, h⟩
  · rw [h]
    exact ⟨by simp, fun l hm => by cases hm⟩
  · rw [h]
    have hst := stack_of hs
    refine ⟨by simp; omega, fun l hl => ?_⟩
    rcases List.mem_append.1 hl with h1 | h1
    · rcases List.mem_append.1 h1 with h2 | h2
      · exact layer_len (hst.2 l (List.mem_of_mem_take h2))
      · rw [List.mem_singleton.1 h2]
        exact hm
    · exact layer_len (hst.2 l (List.mem_of_mem_drop h1))
theorem repR_len (LL : List (List R)) (f t : Int) : (repR LL f t).length ≤ 1048576 := by have := (repR_small LL f t).1; omega
theorem repR_each (LL : List (List R)) (f t : Int) : ∀ l ∈ repR LL f t, l.length ≤ 1048576 := fun l hm => by have := (repR_small LL f t).2 l hm; omega
theorem repR_total (LL : List (List R)) (f t : Int) : total (repR LL f t) ≤ 1048576 := by
  have h1 := total_16 (repR_small LL f t).2
  have h2 := (repR_small LL f t).1
  omega
end Go.Proofs.YthopokiablgjoaaGreatDoor.Recs
