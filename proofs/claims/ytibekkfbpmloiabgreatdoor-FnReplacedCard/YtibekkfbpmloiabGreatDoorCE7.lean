/- Parts of several texts of mine in one file (each begins with its own remark). -/
import Derived.Test.YtibekkfbpmloiabGreatDoorCA10
import Derived.Test.YtibekkfbpmloiabGreatDoorCA14
import Derived.Test.YtibekkfbpmloiabGreatDoorCA16
import Derived.Test.YtibekkfbpmloiabGreatDoorCA17
import Derived.Test.YtibekkfbpmloiabGreatDoorCA2
import Derived.Test.YtibekkfbpmloiabGreatDoorCA22
import Derived.Test.YtibekkfbpmloiabGreatDoorCA3
import Derived.Test.YtibekkfbpmloiabGreatDoorCA4
import Derived.Test.YtibekkfbpmloiabGreatDoorCA5
import Derived.Test.YtibekkfbpmloiabGreatDoorCA6
import Derived.Test.YtibekkfbpmloiabGreatDoorCA9
import Derived.Test.YtibekkfbpmloiabGreatDoorCE1
import Derived.Test.YtibekkfbpmloiabGreatDoorCE2
import Derived.Test.YtibekkfbpmloiabGreatDoorCE5
import Derived.Test.YtibekkfbpmloiabGreatDoorCE6
import Derived.Test.YtibekkfbpmloiabGreatDoorChecked
import Derived.Test.YtibekkfbpmloiabGreatDoorShelf
import Derived.Test.YtibekkfbpmloiabGreatDoorProg
import Derived.Test.YtibekkfbpmloiabGreatDoorRows
import Derived.Stop.LaidErr
import Derived.StillTailTactics
import Derived.Laws.OwnMore
import Derived.BigQuiet
import Derived.BigRegion
import Derived.Deep.QuietTactic
import Derived.Deep.RegionHeld3
import Derived.Deep.Slices
import Derived.OpenShut
import Derived.ShutString
import Derived.ChangeArms
import Derived.WideShapes
import Derived.Lib.LaidTab
import Derived.Deep.Draws
import Derived.Deep.LoopGhost
import Derived.WalkKit
import Derived.WalkSpells
import Derived.WalkSmall
import Derived.Lib.OthersKept
import Derived.Lib.Hide
import Derived.Lib.Strings
import Derived.Lib.Join
import Derived.Laws.BytesArg
import Derived.WalkLawsBesides
import Derived.LaidEql
import Derived.Stop.Asserts
import Derived.Below
import Derived.Stop.LaidTwo
import Derived.ChangeVars
import Derived.Deep.DeepHandedRow
import Derived.Deep.RegionLaw
import Derived.Deep.RegionWith
import Derived.OneCell
import Derived.Lib.SliceRun
import Derived.Lib.Overlaps
import Derived.Lib.AppendZerosOnto
import Derived.Laws.NewBlocks
import Derived.Laws.IdiomCopy
import Derived.Laws.AppendOwnNone
/- SquashAll, of the program and of its model. Conditions (of the program's): the table of kinds, the two sentinels. -/
namespace Go.Proofs.YtibekkfbpmloiabGreatDoor.Recs
set_option maxRecDepth 100000
open Go.RowKit Paths Errs

theorem sqa_step {LL : List (List R)} {k : Nat} (h : k < LL.length) : squashAllL (LL.take (k + 1)) = squashL (squashAllL (LL.take k)) LL[k] := by
  unfold squashAllL
  rw [List.take_succ_eq_append_getElem h, List.foldl_append]
  rfl
theorem sqa_len {LL : List (List R)} (h : ∀ l ∈ LL, l.length ≤ 16) : ∀ k, k ≤ LL.length → (squashAllL (LL.take k)).length ≤ 16 * k
  | 0, _ => by simp [squashAllL]
  | k + 1, hk => by
    have ih := sqa_len h k (by omega)
    rw [sqa_step (by omega)]
    have h1 := squash_len (squashAllL (LL.take k)) LL[k]
    have h2 := h LL[k] (List.getElem_mem _)
    omega
set_option maxHeartbeats 1600000 in
theorem combinationOfAll_any (v : Value) (LL : List (List R)) (w : World) (h : StkSl w v LL) (hok : ∀ l ∈ LL, layerOK l = true) (hl : LL.length ≤ 5) :
    Calls Tryz.prog 85 #[v] w fun e w' => ∃ x, e = .returned x ∧ Below w.heap.size w w' ∧ RowOf w' w.heap.size x (squashAllL LL).length (squashAllL LL) := by
  obtain ⟨sA, cap, rfl, hcap, h⟩ := h
  have H := Lib.hid h
  have HOK := Lib.hid hok
  clear h hok
  go_enter Tryz.func85, Tryz.ntmps85
  go_wp2
  go_loopw [3, 8] (fun f i wr => ∃ (k : Nat) (M : List R), k ≤ LL.length ∧ i = .int .i64 k ∧ Hid (M = squashAllL (LL.take k)) ∧ RowOf wr w.heap.size f M.length M ∧ Below w.heap.size w wr) (fun _ i _ => LL.length - (intOf i).toNat)
  case atStart => exact ⟨0, [], by omega, rfl, rfl, ⟨rfl, World.ownsRow_nil _ _ _ _⟩, Below.refl _ _⟩
  case round =>
    obtain ⟨k, M, hk, rfl, HM, hrow, hbw⟩ := hrel
    obtain ⟨fA, fcap, rfl⟩ := hrow.form
    by_cases hlt : k < LL.length
    · obtain ⟨b, off, rfl, hb, hcell⟩ := H.out (by omega)
      obtain ⟨u, hu0, hur⟩ := hcell k LL[k] (by simp [hlt])
      have hu : wr.cell? ⟨b, off + k, none⟩ = some u := (hbw.cell (p := ⟨b, off + k, none⟩) hb).trans hu0
      have hus := hur.below hbw
      clear hcell hu0 hur
      have hi1 : (k : Int) < (LL.length : Int) := by omega
      have hi0 : (0 : Int) ≤ (k : Int) := by omega
      have hlk := HOK.out LL[k] (List.getElem_mem hlt)
      have hFM : Fine M := by
        rw [HM.out]
        exact (squashAll_canon (fun l hm => fine_layer (HOK.out l (List.mem_of_mem_take hm)))).isFine
      have hML : M.length ≤ 16 * k := by
        rw [HM.out]
        exact sqa_len (fun l hm => layer_len (HOK.out l hm)) k hk
      have h16 := layer_len hlk
      have HCO := combination_any _ u M LL[k] wr hrow.sl hus hFM (fine_layer hlk) (by omega)
      have HN : Hid (squashL M LL[k] = squashAllL (LL.take (k + 1))) := by show _ = _; rw [sqa_step hlt, ← HM.out]
      obtain ⟨uA, ucap, rfl, -⟩ := hus
      clear hFM hML h16 hlk
      go_wp2_with fail
      refine HCO.mono ?_
      rintro e w4 ⟨g, rfl, hb4, hg⟩
      go_wp2_with fail
      exact ⟨⟨k + 1, _, by omega, by go_num, HN, ⟨hg.1, own_le hg.2 hbw.size⟩, hbw.trans (hb4.mono hbw.size)⟩, by simp [intOf]; omega⟩
    · have HF : Hid (M = squashAllL LL) := by show _ = _; rw [HM.out, List.take_of_length_le (by omega)]
      go_wp2
      go_ret
      exact ⟨_, rfl, hbw, by rw [← HF.out]; exact hrow⟩

set_option maxHeartbeats 1600000 in
theorem l06All_any (v : Value) (LL : List (List R)) (w : World) (h : StkSl w v LL) (hok : ∀ l ∈ LL, layerOK l = true) (hl : LL.length ≤ 5) :
    Calls Tryz.prog 87 #[v] w fun e w' => ∃ x, e = .returned x ∧ Below w.heap.size w w' ∧ RowOf w' w.heap.size x (squashAllL LL).length (squashAllL LL) := by
  obtain ⟨sA, cap, rfl, hcap, h⟩ := h
  have H := Lib.hid h
  have HOK := Lib.hid hok
  clear h hok
  have hown0 : (w.alloc (.cells #[] 53)).ownsRow w.heap.size 53 5 (.slice (some ⟨w.heap.size, 0, none⟩) 0 0) 0 [] := World.ownsRow_lit w #[] 0 (Nat.le_refl _) (Nat.zero_le _) rfl
  go_enter Tryz.func87, Tryz.ntmps87
  go_wp2
  go_loopw [3, 4] (fun f i wr => ∃ (k : Nat) (M : List R), k ≤ LL.length ∧ i = .int .i64 k ∧ Hid (M = squashAllL (LL.take k)) ∧ RowOf wr w.heap.size f M.length M ∧ Below w.heap.size w wr) (fun _ i _ => LL.length - (intOf i).toNat)
  case atStart => exact ⟨0, [], by omega, rfl, rfl, ⟨rfl, hown0⟩, (Below.refl _ _).alloc (Nat.le_refl _) _⟩
  case round =>
    obtain ⟨k, M, hk, rfl, HM, hrow, hbw⟩ := hrel
    obtain ⟨fA, fcap, rfl⟩ := hrow.form
    by_cases hlt : k < LL.length
    · obtain ⟨b, off, rfl, hb, hcell⟩ := H.out (by omega)
      obtain ⟨u, hu0, hur⟩ := hcell k LL[k] (by simp [hlt])
      have hu : wr.cell? ⟨b, off + k, none⟩ = some u := (hbw.cell (p := ⟨b, off + k, none⟩) hb).trans hu0
      have hus := hur.below hbw
      clear hcell hu0 hur
      have hi1 : (k : Int) < (LL.length : Int) := by omega
      have hi0 : (0 : Int) ≤ (k : Int) := by omega
      have hlk := HOK.out LL[k] (List.getElem_mem hlt)
      have hFM : Fine M := by
        rw [HM.out]
        exact (squashAll_canon (fun l hm => fine_layer (HOK.out l (List.mem_of_mem_take hm)))).isFine
      have hML : M.length ≤ 16 * k := by
        rw [HM.out]
        exact sqa_len (fun l hm => layer_len (HOK.out l hm)) k hk
      have h16 := layer_len hlk
      have HCO := l06Two_any _ u M LL[k] wr hrow.sl hus hFM (fine_layer hlk) (by omega)
      have HN : Hid (squashL M LL[k] = squashAllL (LL.take (k + 1))) := by show _ = _; rw [sqa_step hlt, ← HM.out]
      obtain ⟨uA, ucap, rfl, -⟩ := hus
      clear hFM hML h16 hlk
      go_wp2_with fail
      refine HCO.mono ?_
      rintro e w4 ⟨g, rfl, hb4, hg⟩
      go_wp2_with fail
      exact ⟨⟨k + 1, _, by omega, by go_num, HN, ⟨hg.1, own_le hg.2 hbw.size⟩, hbw.trans (hb4.mono hbw.size)⟩, by simp [intOf]; omega⟩
    · have HF : Hid (M = squashAllL LL) := by show _ = _; rw [HM.out, List.take_of_length_le (by omega)]
      go_wp2
      go_ret
      exact ⟨_, rfl, hbw, by rw [← HF.out]; exact hrow⟩

end Go.Proofs.YtibekkfbpmloiabGreatDoor.Recs

/- For laws over stacks: the laws' own sizes with their sums; blocks between two numbers; marks in a stack. -/
namespace Go.Proofs.YtibekkfbpmloiabGreatDoor.Recs
set_option maxRecDepth 100000
open Go.RowKit Paths

/-- The rows of a stack lie from base on, below top. -/
theorem StkRow.low {w : World} {base : Nat} {v : Value} {LL : List (List R)} (h : StkRow w base v LL) : ∃ (g : Nat) (us : List Value), v = .slice (some ⟨g, 0, none⟩) LL.length LL.length ∧ us.length = LL.length ∧ g < w.heap.size ∧ (∀ (i : Nat) (u : Value), us[i]? = some u → w.cell? ⟨g, i, none⟩ = some u) ∧
    ∀ (i : Nat) (u : Value) (l : List R), us[i]? = some u → LL[i]? = some l → RowOf w base u l.length l ∧ u.ownBlock ≠ some g ∧ ∀ (j : Nat) (u' : Value), us[j]? = some u' → ∀ c, u.ownBlock = some c → u'.ownBlock = some c → i = j := by
  obtain ⟨g, us, rfl, hn, ho, h1, h2⟩ := h
  refine ⟨g, us, rfl, hn, (ho.lt g rfl).2, fun i u hi => ?_, fun i u l hi hl => ?_⟩
  · have hlt : i < us.length := (List.getElem?_eq_some_iff.1 hi).1
    have := ho.cellAt i (by omega)
    rw [hi] at this
    exact this
  · have hlt : i < LL.length := (List.getElem?_eq_some_iff.1 hl).1
    refine ⟨(h1 i u l hlt hi hl).1, (h1 i u l hlt hi hl).2, fun j u' hj c hc hc' => ?_⟩
    have hjl : j < us.length := (List.getElem?_eq_some_iff.1 hj).1
    exact h2 i j u u' c hlt (by omega) hi hj hc hc'

theorem StkRow.top {w w' : World} {base : Nat} {v : Value} {LL : List (List R)} (h : StkRow w base v LL) (hb : Below w.heap.size w w') : ∀ (g : Nat) (us : List Value), v = .slice (some ⟨g, 0, none⟩) LL.length LL.length → us.length = LL.length → (∀ (i : Nat) (u : Value), us[i]? = some u → w'.cell? ⟨g, i, none⟩ = some u) → ∀ (i : Nat) (u : Value), us[i]? = some u → ∀ c, u.ownBlock = some c → c < w.heap.size := by
  obtain ⟨g, us, rfl, hn, hgl, hcs, hrs⟩ := h.low
  intro g' us' e hn' hc' i u hi c hc
  cases e
  have hlt : i < us'.length := (List.getElem?_eq_some_iff.1 hi).1
  have h1 := hcs i (us[i]'(by omega)) (List.getElem?_eq_getElem _)
  have h2 := (hb.cell (p := ⟨g, i, none⟩) hgl).symm.trans (hc' i u hi)
  rw [h1] at h2
  cases h2
  exact ((hrs i _ _ (List.getElem?_eq_getElem (by omega)) (List.getElem?_eq_getElem (by omega))).1.2.lt c hc).2

end Go.Proofs.YtibekkfbpmloiabGreatDoor.Recs

/- Stacks in memory of their own, of any capacity: what an append leaves; marks in them, and whether the marks are held. -/
namespace Go.Proofs.YtibekkfbpmloiabGreatDoor.Recs
set_option maxRecDepth 100000
open Go.RowKit Paths

/-- A slice of slices of whatever capacity, all in memory of their own: the row of slices from hb on, the rows in it from base on. -/
def StkOwn (w : World) (hb base : Nat) (v : Value) (LL : List (List R)) : Prop :=
  ∃ us : List Value, us.length = LL.length ∧ w.ownsRow hb 27 1 v LL.length us ∧
    (∀ (i : Nat) (u : Value) (l : List R), us[i]? = some u → LL[i]? = some l → RowOf w base u l.length l) ∧
    ∀ (i k : Nat) (u u' : Value) (c : Nat), us[i]? = some u → us[k]? = some u' → u.ownBlock = some c → u'.ownBlock = some c → i = k
theorem rows_apart {w : World} {b b' : Nat} {u v : Value} {n m : Nat} {xs ys : List Value} (h : w.ownsRow b 53 5 u n xs) (k : w.ownsRow b' 27 1 v m ys) : u.ownBlock = none ∨ u.ownBlock ≠ v.ownBlock := by
  rcases k.2 with ⟨rfl, _⟩ | ⟨g, cap, cur, rfl, _, hg, _⟩
  · cases hu : u.ownBlock with
    | none => exact .inl rfl
    | some c => exact .inr (fun e => by cases e)
  · exact .inr (own_not h (by decide) hg)
theorem StkOwn.nil (w : World) (hb base : Nat) : StkOwn w hb base (.slice none 0 0) [] := ⟨[], rfl, World.ownsRow_nil _ _ _ _, fun i u l h => by simp at h, fun i k u u' c h => by simp at h⟩
theorem StkOwn.sl {w : World} {hb base : Nat} {v : Value} {LL : List (List R)} (h : StkOwn w hb base v LL) : StkSl w v LL := by
  obtain ⟨us, hn, ho, h1, _⟩ := h
  have ho2 := ho
  rcases ho.2 with ⟨rfl, h0⟩ | ⟨g, cap, cur, rfl, _, hg, hc, _⟩
  · exact ⟨none, 0, by rw [h0], by omega, fun h => by omega⟩
  · refine ⟨_, cap, rfl, hc, fun _ => ⟨g, 0, rfl, (Array.getElem?_eq_some_iff.1 hg).1, fun i l hi => ?_⟩⟩
    have hlt : i < LL.length := (List.getElem?_eq_some_iff.1 hi).1
    refine ⟨us[i]'(by omega), ?_, (h1 i _ l (List.getElem?_eq_getElem (by omega)) hi).sl⟩
    have := ho2.cellAt i (by omega)
    rw [List.getElem?_eq_getElem (by omega)] at this
    rw [Nat.zero_add]
    exact this
theorem StkOwn.below {w w' : World} {hb base : Nat} {v : Value} {LL : List (List R)} (h : StkOwn w hb base v LL) (hw : Below w.heap.size w w') : StkOwn w' hb base v LL := by
  obtain ⟨us, hn, ho, h1, h2⟩ := h
  exact ⟨us, hn, own_below ho hw, fun i u l hi hl => (h1 i u l hi hl).below hw, h2⟩
/-- One more behind it. -/
theorem stk_snoc {w w9 : World} {hb base : Nat} {v v' x : Value} {LL : List (List R)} {l : List R} {us : List Value} (hn : us.length = LL.length) (ho : w.ownsRow hb 27 1 v LL.length us)
    (h1 : ∀ (i : Nat) (u : Value) (l : List R), us[i]? = some u → LL[i]? = some l → RowOf w base u l.length l)
    (h2 : ∀ (i k : Nat) (u u' : Value) (c : Nat), us[i]? = some u → us[k]? = some u' → u.ownBlock = some c → u'.ownBlock = some c → i = k)
    (hx : RowOf w base x l.length l) (hxa : ∀ (i : Nat) (u : Value) (c : Nat), us[i]? = some u → u.ownBlock = some c → x.ownBlock ≠ some c)
    (hown : w9.ownsRow hb 27 1 v' (LL.length + 1) (us ++ [x])) (hg : w.grownBy w9 v.ownBlock) : StkOwn w9 hb base v' (LL ++ [l]) := by
  refine ⟨us ++ [x], by simp [hn], by rw [List.length_append]; exact hown, fun i u q hi hq => ?_, fun i k u u' c hi hk hc hc' => ?_⟩
  · rcases Nat.lt_or_ge i us.length with hlt | hge
    · rw [List.getElem?_append_left hlt] at hi
      rw [List.getElem?_append_left (by omega)] at hq
      have := h1 i u q hi hq
      exact ⟨rfl, this.2.kept hg (rows_apart this.2 ho)⟩
    · rw [List.getElem?_append_right hge] at hi
      rw [List.getElem?_append_right (by omega)] at hq
      have e : i - us.length = 0 := by
        have := (List.getElem?_eq_some_iff.1 hi).1
        simp at this
        omega
      have e' : i - LL.length = 0 := by omega
      rw [e] at hi
      rw [e'] at hq
      cases hi
      cases hq
      exact ⟨rfl, hx.2.kept hg (rows_apart hx.2 ho)⟩
  · have key : ∀ (j : Nat) (y : Value), (us ++ [x])[j]? = some y → (j < us.length ∧ us[j]? = some y) ∨ (j = us.length ∧ y = x) := by
      intro j y hj
      rcases Nat.lt_or_ge j us.length with hlt | hge
      · rw [List.getElem?_append_left hlt] at hj
        exact .inl ⟨hlt, hj⟩
      · rw [List.getElem?_append_right hge] at hj
        have e : j - us.length = 0 := by
          have := (List.getElem?_eq_some_iff.1 hj).1
          simp at this
          omega
        rw [e] at hj
        cases hj
        exact .inr ⟨by omega, rfl⟩
    rcases key i u hi with ⟨_, h3⟩ | ⟨h3, rfl⟩
    · rcases key k u' hk with ⟨_, h4⟩ | ⟨_, rfl⟩
      · exact h2 i k u u' c h3 h4 hc hc'
      · exact absurd hc' (hxa i u c h3 hc)
    · rcases key k u' hk with ⟨_, h4⟩ | ⟨h4, _⟩
      · exact absurd hc (hxa k u' c h4 hc')
      · omega
end Go.Proofs.YtibekkfbpmloiabGreatDoor.Recs

/- Stacks that are read: parts of them; copies of their layers, of the program. -/
namespace Go.Proofs.YtibekkfbpmloiabGreatDoor.Recs
set_option maxRecDepth 100000
open Go.RowKit Paths

/-- A slice that append can read: nil, or one with an address. -/
def Plain (u : Value) : Prop := u = .slice none 0 0 ∨ ∃ a m c, u = .slice (some a) m c
/-- A slice of such slices that reads as the lists LL. -/
def StkGood (w : World) (v : Value) (LL : List (List R)) : Prop :=
  ∃ A cap, v = .slice A LL.length cap ∧ LL.length ≤ cap ∧ (0 < cap → ∃ b off, A = some ⟨b, off, none⟩ ∧ b < w.heap.size ∧ ∀ (i : Nat) (l : List R), LL[i]? = some l → ∃ u, w.cell? ⟨b, off + i, none⟩ = some u ∧ RecSl w u l ∧ Plain u)
theorem StkGood.sl {w : World} {v : Value} {LL : List (List R)} (h : StkGood w v LL) : StkSl w v LL := by
  obtain ⟨A, cap, rfl, hc, h⟩ := h
  refine ⟨A, cap, rfl, hc, fun hn => ?_⟩
  obtain ⟨b, off, e, hb, hcell⟩ := h (by omega)
  exact ⟨b, off, e, hb, fun i l hi => by obtain ⟨u, h1, h2, _⟩ := hcell i l hi; exact ⟨u, h1, h2⟩⟩
theorem StkGood.below {w w' : World} {v : Value} {LL : List (List R)} (h : StkGood w v LL) (hb : Below w.heap.size w w') : StkGood w' v LL := by
  obtain ⟨A, cap, rfl, hc, h⟩ := h
  refine ⟨A, cap, rfl, hc, fun hn => ?_⟩
  obtain ⟨b, off, e, hlt, hcell⟩ := h hn
  refine ⟨b, off, e, Nat.lt_of_lt_of_le hlt hb.size, fun i l hi => ?_⟩
  obtain ⟨u, h1, h2, h3⟩ := hcell i l hi
  exact ⟨u, (hb.cell (p := ⟨b, off + i, none⟩) hlt).trans h1, h2.below hb, h3⟩
theorem row_plain {w : World} {base : Nat} {v : Value} {n : Nat} {M : List R} (h : RowOf w base v n M) : Plain v := by
  rcases h.2.2 with ⟨e, _⟩ | ⟨g, cap, cur, e, _⟩
  · exact .inl e
  · exact .inr ⟨_, _, _, e⟩
theorem StkRow.good {w : World} {base : Nat} {v : Value} {LL : List (List R)} (h : StkRow w base v LL) : StkGood w v LL := by
  obtain ⟨g, us, rfl, hn, ho, h1, _⟩ := h
  refine ⟨_, _, rfl, Nat.le_refl _, fun hp => ⟨g, 0, rfl, (ho.lt g rfl).2, fun i l hi => ?_⟩⟩
  have hlt : i < LL.length := (List.getElem?_eq_some_iff.1 hi).1
  have hr := (h1 i (us[i]'(by omega)) l hlt (List.getElem?_eq_getElem (by omega)) hi).1
  refine ⟨us[i]'(by omega), ?_, hr.sl, row_plain hr⟩
  have := ho.cellAt i (by omega)
  rw [List.getElem?_eq_getElem (by omega)] at this
  rw [Nat.zero_add]
  exact this
theorem StkGood.take {w : World} {A : Option Addr} {n cap : Nat} {LL : List (List R)} (h : StkGood w (.slice A n cap) LL) {k : Nat} (hk : k ≤ LL.length) : StkGood w (.slice A k cap) (LL.take k) := by
  obtain ⟨A', c, e, hc, h⟩ := h
  cases e
  have hl : (LL.take k).length = k := by rw [List.length_take]; omega
  refine ⟨A, cap, by rw [hl], by rw [hl]; omega, fun h0 => ?_⟩
  obtain ⟨b, off, e, hb, hcell⟩ := h h0
  refine ⟨b, off, e, hb, fun i l hi => hcell i l ?_⟩
  have hik : i < k := by have := (List.getElem?_eq_some_iff.1 hi).1; omega
  rw [List.getElem?_take_of_lt hik] at hi
  exact hi
theorem StkGood.drop {w : World} {b off n cap : Nat} {LL : List (List R)} (h : StkGood w (.slice (some ⟨b, off, none⟩) n cap) LL) {k : Nat} (hk : k ≤ LL.length) (hkc : k < cap) : StkGood w (.slice (some ⟨b, off + k, none⟩) (n - k) (cap - k)) (LL.drop k) := by
  obtain ⟨A', c, e, hc, h⟩ := h
  cases e
  have hl : (LL.drop k).length = LL.length - k := List.length_drop
  refine ⟨_, _, by rw [hl], by rw [hl]; omega, fun h0 => ?_⟩
  obtain ⟨b', off', e, hb, hcell⟩ := h (by omega)
  cases e
  refine ⟨b, off + k, rfl, hb, fun i l hi => ?_⟩
  rw [List.getElem?_drop] at hi
  have := hcell (k + i) l hi
  rw [Nat.add_assoc]
  exact this
theorem sl_srcs {w : World} {ad : Addr} {m c : Nat} {l : List R} (h : RecSl w (.slice (some ad) m c) l) : m = l.length ∧ ∀ j u, (flat l)[j]? = some u → w.cell? (ad.add j) = some u := by
  obtain ⟨A, cap, e, hc, h⟩ := h
  cases e
  refine ⟨rfl, fun j u hj => ?_⟩
  have hlt : j < (flat l).length := (List.getElem?_eq_some_iff.1 hj).1
  rw [flat_len] at hlt
  obtain ⟨b, off, e, hb, hcell⟩ := h (by omega)
  cases e
  have hq : j / 5 < l.length := by omega
  obtain ⟨c0, c1, c2, c3, c4⟩ := hcell (j / 5) l[j / 5] (List.getElem?_eq_getElem hq)
  rw [flat_get, List.getElem?_eq_getElem hq] at hj
  have hr : j % 5 < 5 := Nat.mod_lt _ (by omega)
  have hd : j = j / 5 * 5 + j % 5 := by omega
  rw [Addr.add_lit]
  generalize hm : j % 5 = r at *
  generalize j / 5 = q at *
  subst hd
  match r, hr, hj with
  | 0, _, hj => cases hj; simpa using c0
  | 1, _, hj => cases hj; rw [← Nat.add_assoc]; exact c1
  | 2, _, hj => cases hj; rw [← Nat.add_assoc]; exact c2
  | 3, _, hj => cases hj; rw [← Nat.add_assoc]; exact c3
  | 4, _, hj => cases hj; rw [← Nat.add_assoc]; exact c4
end Go.Proofs.YtibekkfbpmloiabGreatDoor.Recs

/- Copies of a stack's layers, of the program. -/
namespace Go.Proofs.YtibekkfbpmloiabGreatDoor.Recs
set_option maxRecDepth 100000
open Go.RowKit Paths

theorem stk_take {LL : List (List R)} {k : Nat} (h : k < LL.length) : LL.take k ++ [LL[k]] = LL.take (k + 1) := (List.take_succ_eq_append_getElem h).symm
theorem sl_none {w : World} {l : List R} {n c : Nat} (h : RecSl w (.slice none n c) l) : l = [] := by
  obtain ⟨A, cap, e, hc, h⟩ := h
  cases e
  rcases Nat.eq_zero_or_pos l.length with h0 | h0
  · exact List.eq_nil_of_length_eq_zero h0
  · obtain ⟨_, _, e, _⟩ := h h0
    cases e

set_option maxHeartbeats 3200000 in
theorem copiesOf_any (v : Value) (LL : List (List R)) (w : World) (h : StkGood w v LL) (hl : LL.length ≤ 5) (hll : ∀ l ∈ LL, l.length ≤ 16) :
    Calls Tryz.prog 104 #[v] w fun e w' => ∃ x, e = .returned x ∧ Below w.heap.size w w' ∧ StkOwn w' w.heap.size w.heap.size x LL := by
  obtain ⟨i0, hi, hI0, hI1, hI2⟩ := info_parts recInfo
  obtain ⟨s0, hs, hS0, hS1, hS2⟩ := info_parts ssInfo
  obtain ⟨sA, cap, rfl, hcap, h⟩ := h
  have H := Lib.hid h
  have HLL := Lib.hid hll
  clear h hll
  go_enter Tryz.func104, Tryz.ntmps104
  go_wp2
  go_loopw [3, 8] (fun f i wr => ∃ k : Nat, k ≤ LL.length ∧ i = .int .i64 k ∧ Hid (StkOwn wr w.heap.size w.heap.size f (LL.take k)) ∧ Below w.heap.size w wr) (fun _ i _ => LL.length - (intOf i).toNat)
  case atStart => exact ⟨0, by omega, rfl, StkOwn.nil _ _ _, Below.refl _ _⟩
  case round =>
    obtain ⟨k, hk, rfl, HS, hbw⟩ := hrel
    obtain ⟨us, hn, ho, h1, h2⟩ := HS.out
    have hkl : (LL.take k).length = k := by rw [List.length_take]; omega
    rw [hkl] at hn ho
    obtain ⟨fA, fcap, rfl⟩ := own_form ho
    by_cases hlt : k < LL.length
    · obtain ⟨b, off, rfl, hb, hcell⟩ := H.out (by omega)
      obtain ⟨u, hu0, hur, hpl⟩ := hcell k LL[k] (by simp [hlt])
      have hu : wr.cell? ⟨b, off + k, none⟩ = some u := (hbw.cell (p := ⟨b, off + k, none⟩) hb).trans hu0
      have hur2 := hur.below hbw
      have hl16 := HLL.out LL[k] (List.getElem_mem hlt)
      have HTK := Lib.hid (stk_take hlt)
      have hi1 : (k : Int) < (LL.length : Int) := by omega
      have hi0 : (0 : Int) ≤ (k : Int) := by omega
      clear hcell hu0 hur
      rcases hpl with rfl | ⟨ad, m, c, rfl⟩
      · have hz := sl_none hur2
        have eA : Below wr.heap.size wr (wr.alloc (.cells #[.slice none 0 0] 27)) := (Below.refl _ _).alloc (Nat.le_refl _) _
        have hoA := own_below ho eA
        have hbA := hbw.trans (eA.mono hbw.size)
        have hszA := hbA.size
        have HFIN : Hid (∀ v' w9, w9.ownsRow w.heap.size 27 1 v' (k + 1) (us ++ [.slice none 0 0]) → (wr.alloc (.cells #[.slice none 0 0] 27)).grownBy w9 (Value.slice fA k fcap).ownBlock → StkOwn w9 w.heap.size w.heap.size v' (LL.take (k + 1)) ∧ Below w.heap.size w w9) := fun v' w9 hown hg => by
          refine ⟨?_, hbA.grown hg hbA.size (fun j hj => (ho.lt j hj).1)⟩
          rw [← HTK.out]
          refine stk_snoc (x := .slice none 0 0) (LL := LL.take k) (l := LL[k]) (by rw [hkl]; exact hn) (by rw [hkl]; exact hoA) (fun i u l hi hl => (h1 i u l hi hl).below eA) h2 ?_ (fun i u c _ _ e => by have e2 : (none : Option Nat) = some c := e; cases e2) (by rw [hkl]; exact hown) hg
          rw [hz]
          exact ⟨rfl, World.ownsRow_nil _ _ _ _⟩
        clear hz h1 h2 HS
        go_wp2_with (first
          | (at_builtin; refine wpList_append_own_none rfl _ _ 27 rfl wr.heap.size 53 i0 5 Tryz.underlying27 hi (.slice none 0 0) 0 [] rfl (World.ownsRow_nil _ _ _ _) rfl ?_)
          | (at_builtin; refine wpList_append_own _ rfl _ _ 43 rfl w.heap.size 27 s0 (.slice none 0 0) 1 24 Tryz.underlying43 hs hS0 hS1 hS2 rfl (by decide) _ _ _ rfl hoA ⟨wr.heap.size, 0, none⟩ 1 1 [.slice none 0 0] rfl rfl (cell_one_new _ _ _) (fun x hx => by simp at hx; subst hx; rfl) (by unfold maxLen; omega) (by omega) hszA ?_; intro v' w9 hown' hgrow9 hnil9))
        obtain ⟨r1, r2⟩ := HFIN.out _ _ hown' hgrow9
        exact ⟨⟨k + 1, by omega, by go_num, r1, r2⟩, by simp [intOf]; omega⟩
      · obtain ⟨rfl, hsrc⟩ := sl_srcs hur2
        have hfl := flat_len LL[k]
        have hone : ∀ u ∈ flat LL[k], u.oneCell' = true := fun u hu => by
          unfold flat at hu
          obtain ⟨r, _, hr⟩ := List.mem_flatMap.1 hu
          exact rec_one r u hr
        have HMID : Hid (∀ x w5, w5.ownsRow wr.heap.size 53 5 x (0 + LL[k].length) ([] ++ flat LL[k]) → wr.grownBy w5 (Value.slice none 0 0).ownBlock → (∃ A c, x = .slice A LL[k].length c) ∧ (w5.alloc (.cells #[x] 27)).ownsRow w.heap.size 27 1 (.slice fA k fcap) k us ∧ w.heap.size ≤ (w5.alloc (.cells #[x] 27)).heap.size ∧ (∀ y ∈ [x], y.oneCell' = true) ∧
            ∀ v' w9, w9.ownsRow w.heap.size 27 1 v' (k + 1) (us ++ [x]) → (w5.alloc (.cells #[x] 27)).grownBy w9 (Value.slice fA k fcap).ownBlock → StkOwn w9 w.heap.size w.heap.size v' (LL.take (k + 1)) ∧ Below w.heap.size w w9) := fun x w5 hx hg5 => by
          have hb5 : Below wr.heap.size wr w5 := (Below.refl _ _).grown hg5 (Nat.le_refl _) (fun j hj => by cases hj)
          have eA : Below w5.heap.size w5 (w5.alloc (.cells #[x] 27)) := (Below.refl _ _).alloc (Nat.le_refl _) _
          have bA := hb5.trans (eA.mono hb5.size)
          have hbA := hbw.trans (bA.mono hbw.size)
          have hoA := own_below ho bA
          have hxr : RowOf w5 wr.heap.size x LL[k].length LL[k] := ⟨rfl, by simpa using hx⟩
          refine ⟨hxr.form, hoA, hbA.size, ?_, fun v' w9 hown hg => ⟨?_, hbA.grown hg hbA.size (fun j hj => (ho.lt j hj).1)⟩⟩
          · intro y hy
            rw [List.mem_singleton.1 hy]
            obtain ⟨A, c, rfl⟩ := hxr.form
            rfl
          · rw [← HTK.out]
            have hxA := hxr.below eA
            refine stk_snoc (LL := LL.take k) (l := LL[k]) (by rw [hkl]; exact hn) (by rw [hkl]; exact hoA) (fun i u l hi hl => (h1 i u l hi hl).below bA) h2 ⟨rfl, own_down hxA.2 hbw.size⟩ (fun i u c hi hc e => ?_) (by rw [hkl]; exact hown) hg
            have e1 := (hxr.2.lt c e).1
            have hil : i < (LL.take k).length := by have := (List.getElem?_eq_some_iff.1 hi).1; rw [hkl]; omega
            have e2 := ((h1 i u _ hi (List.getElem?_eq_getElem hil)).2.lt c hc).2
            omega
        clear h1 h2 HS hur2
        go_wp2_with (first
          | (at_builtin; refine wpList_append_own _ rfl _ _ 27 rfl wr.heap.size 53 i0 (.agg #[.int .i64 0, .string ByteArray.empty, .string ByteArray.empty, .int .i64 0, .bool false]) 5 56 Tryz.underlying27 hi hI0 hI1 hI2 rfl (by decide) _ _ _ rfl (World.ownsRow_nil _ _ _ _) ad LL[k].length c (flat LL[k]) rfl hfl hsrc hone (by unfold maxLen; omega) (by omega) (Nat.le_refl _) ?_; intro x w5 hx5 hg5 hn5; obtain ⟨⟨xA, xc, rfl⟩, m1, m2, m3, m4⟩ := HMID.out x w5 hx5 hg5)
          | (at_builtin; refine wpList_append_own _ rfl _ _ 43 rfl w.heap.size 27 s0 (.slice none 0 0) 1 24 Tryz.underlying43 hs hS0 hS1 hS2 rfl (by decide) _ _ _ rfl m1 ⟨w5.heap.size, 0, none⟩ 1 1 [.slice xA LL[k].length xc] rfl rfl (cell_one_new _ _ _) m3 (by unfold maxLen; omega) (by omega) m2 ?_; intro v' w9 hown' hgrow9 hnil9))
        obtain ⟨r1, r2⟩ := m4 _ _ hown' hgrow9
        exact ⟨⟨k + 1, by omega, by go_num, r1, r2⟩, by simp [intOf]; omega⟩
    · have HF : Hid (LL.take k = LL) := List.take_of_length_le (by omega)
      go_wp2
      go_ret
      exact ⟨_, rfl, hbw, by have := HS.out; rw [HF.out] at this; exact this⟩
end Go.Proofs.YtibekkfbpmloiabGreatDoor.Recs

/- Two stacks of their own memory in one. -/
namespace Go.Proofs.YtibekkfbpmloiabGreatDoor.Recs
set_option maxRecDepth 100000
open Go.RowKit Paths

theorem StkOwn.down {w : World} {hb hb' base base' : Nat} {v : Value} {LL : List (List R)} (h : StkOwn w hb base v LL) (h0 : hb' ≤ hb) (hd : base' ≤ base) : StkOwn w hb' base' v LL := by
  obtain ⟨us, hn, ho, h1, h2⟩ := h
  exact ⟨us, hn, own_down ho h0, fun i u l hi hl => ⟨(h1 i u l hi hl).1, own_down (h1 i u l hi hl).2 hd⟩, h2⟩
/-- All of a stack's slices behind those of another one. -/
theorem stk_append {w w9 : World} {hb base : Nat} {v v' : Value} {LL MM : List (List R)} {us ms : List Value} (hn : us.length = LL.length) (ho : w.ownsRow hb 27 1 v LL.length us)
    (h1 : ∀ (i : Nat) (u : Value) (l : List R), us[i]? = some u → LL[i]? = some l → RowOf w base u l.length l)
    (h2 : ∀ (i k : Nat) (u u' : Value) (c : Nat), us[i]? = some u → us[k]? = some u' → u.ownBlock = some c → u'.ownBlock = some c → i = k)
    (hm : ms.length = MM.length)
    (k1 : ∀ (i : Nat) (u : Value) (l : List R), ms[i]? = some u → MM[i]? = some l → RowOf w base u l.length l)
    (k2 : ∀ (i k : Nat) (u u' : Value) (c : Nat), ms[i]? = some u → ms[k]? = some u' → u.ownBlock = some c → u'.ownBlock = some c → i = k)
    (hap : ∀ (i k : Nat) (u u' : Value) (c : Nat), us[i]? = some u → ms[k]? = some u' → u.ownBlock = some c → u'.ownBlock ≠ some c)
    (hown : w9.ownsRow hb 27 1 v' (LL.length + MM.length) (us ++ ms)) (hg : w.grownBy w9 v.ownBlock) : StkOwn w9 hb base v' (LL ++ MM) := by
  have key : ∀ (j : Nat) (y : Value), (us ++ ms)[j]? = some y → (j < us.length ∧ us[j]? = some y) ∨ (us.length ≤ j ∧ ms[j - us.length]? = some y) := by
    intro j y hj
    rcases Nat.lt_or_ge j us.length with hlt | hge
    · rw [List.getElem?_append_left hlt] at hj
      exact .inl ⟨hlt, hj⟩
    · rw [List.getElem?_append_right hge] at hj
      exact .inr ⟨hge, hj⟩
  refine ⟨us ++ ms, by simp [hn, hm], by rw [List.length_append]; exact hown, fun i u q hi hq => ?_, fun i k u u' c hi hk hc hc' => ?_⟩
  · rcases key i u hi with ⟨h3, h4⟩ | ⟨h3, h4⟩
    · rw [List.getElem?_append_left (by omega)] at hq
      have := h1 i u q h4 hq
      exact ⟨rfl, this.2.kept hg (rows_apart this.2 ho)⟩
    · rw [List.getElem?_append_right (by omega), ← hn] at hq
      have := k1 _ u q h4 hq
      exact ⟨rfl, this.2.kept hg (rows_apart this.2 ho)⟩
  · rcases key i u hi with ⟨h3, h4⟩ | ⟨h3, h4⟩
    · rcases key k u' hk with ⟨h5, h6⟩ | ⟨h5, h6⟩
      · exact h2 i k u u' c h4 h6 hc hc'
      · exact absurd hc' (hap i _ u u' c h4 h6 hc)
    · rcases key k u' hk with ⟨h5, h6⟩ | ⟨h5, h6⟩
      · exact absurd hc (hap k _ u' u c h6 h4 hc')
      · have := k2 _ _ u u' c h4 h6 hc hc'
        omega
end Go.Proofs.YtibekkfbpmloiabGreatDoor.Recs
