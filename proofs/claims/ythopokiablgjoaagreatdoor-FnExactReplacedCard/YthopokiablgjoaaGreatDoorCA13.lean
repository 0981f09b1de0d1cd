/- Parts of several texts of mine in one file (each begins with its own remark). -/
import Derived.Test.YthopokiablgjoaaGreatDoorCA10
import Derived.Test.YthopokiablgjoaaGreatDoorCA12
import Derived.Test.YthopokiablgjoaaGreatDoorCA2
import Derived.Test.YthopokiablgjoaaGreatDoorCA3
import Derived.Test.YthopokiablgjoaaGreatDoorCA4
import Derived.Test.YthopokiablgjoaaGreatDoorCA5
import Derived.Test.YthopokiablgjoaaGreatDoorCA7
import Derived.Test.YthopokiablgjoaaGreatDoorCA8
import Derived.Test.YthopokiablgjoaaGreatDoorCA9
import Derived.Test.YthopokiablgjoaaGreatDoorChecked
import Derived.Test.YthopokiablgjoaaGreatDoorRows
import Derived.Test.YthopokiablgjoaaGreatDoorProg
import Derived.Test.YthopokiablgjoaaGreatDoorShelf
import Derived.StillTailTactics
import Derived.Laws.OwnMore
import Derived.BigQuiet
import Derived.BigRegion
import Derived.Deep.QuietTactic
import Derived.Deep.RegionHeld3
import Derived.Deep.Slices
import Derived.OpenShut
import Derived.ShutString
import Derived.ChangeArms
import Derived.WideShapes
import Derived.Lib.LaidTab
import Derived.Deep.Draws
import Derived.Deep.LoopGhost
import Derived.WalkKit
import Derived.WalkSpells
import Derived.WalkSmall
import Derived.Lib.OthersKept
import Derived.Lib.Hide
import Derived.Lib.Strings
import Derived.Lib.Join
import Derived.Laws.BytesArg
import Derived.Deep.RegionWith
import Derived.OneCell
import Derived.Lib.SliceRun
import Derived.Lib.Overlaps
import Derived.Lib.AppendZerosOnto
import Derived.Laws.NewBlocks
import Derived.Laws.IdiomCopy
import Derived.Deep.RegionLaw
import Derived.ChangeVars
import Derived.Deep.DeepHandedRow
import Derived.LaidEql
import Derived.Stop.Asserts
import Derived.Below
import Derived.Stop.LaidErr
import Derived.Stop.LaidTwo
import Derived.WalkLawsBesides
import Derived.Laws.AppendOwnNone
/- For laws over stacks: the laws' own sizes with their sums; blocks between two numbers; marks in a stack. -/
namespace Go.Proofs.YthopokiablgjoaaGreatDoor.Recs
set_option maxRecDepth 100000
open Go.RowKit Paths

def total (LL : List (List R)) : Nat := (LL.map List.length).sum
theorem total_snoc {LL : List (List R)} {k : Nat} (hk : k < LL.length) : total (LL.take (k + 1)) = total (LL.take k) + LL[k].length := by
  unfold total
  rw [List.take_succ_eq_append_getElem hk, List.map_append, List.sum_append]
  simp
theorem total_le : ∀ {LL : List (List R)} {l : List R}, l ∈ LL → l.length ≤ total LL
  | x :: LL, l, h => by
    unfold total
    rw [List.map_cons, List.sum_cons]
    rcases List.mem_cons.1 h with rfl | h
    · omega
    · have := total_le h
      unfold total at this
      omega
set_option maxHeartbeats 800000 in
theorem szRecordSS_sum (v : Value) (LL : List (List R)) (n : Nat) (w : World) (h : StkSl w v LL) (hlm : LL.length ≤ maxLen) (hs : ∀ l ∈ LL, l.length ≤ maxLen ∧ ∀ r ∈ l, r.p.size ≤ maxLen ∧ r.b.size ≤ maxLen) (hn : n ≤ 1048576) :
    Calls Tryz.prog 52 #[v, .int .i64 n] w fun e w' => (∃ z : Int, z < 0 ∧ e = .returned (.int .i64 z) ∧ Below w.heap.size w w') ∨ ∃ z : Nat, z + LL.length + total LL ≤ n ∧ e = .returned (.int .i64 z) ∧ Below w.heap.size w w' := by
  unfold maxLen at hlm
  obtain ⟨A, cap, rfl, hcap, h⟩ := h
  have H := Lib.hid h
  clear h
  by_cases h1 : n < LL.length
  · have hd : decide ((n : Int) - (LL.length : Int) < 0) = true := by simp; omega
    go_enter Tryz.func52, Tryz.ntmps52
    go_wp2_with fail
    go_ret
    exact .inl ⟨_, by omega, rfl, Below.refl _ _⟩
  have hd : decide ((n : Int) - (LL.length : Int) < 0) = false := by simp; omega
  go_enter Tryz.func52, Tryz.ntmps52
  go_wp2
  go_loopw [1, 5] (fun m i wr => ∃ (j z : Nat), j ≤ LL.length ∧ i = .int .i64 j ∧ m = .int .i64 z ∧ z + LL.length + total (LL.take j) ≤ n ∧ Below w.heap.size w wr) (fun _ i _ => LL.length - (intOf i).toNat)
  case atStart => exact ⟨0, n - LL.length, by omega, rfl, by go_num, by show _ + _ + 0 ≤ _; omega, Below.refl _ _⟩
  case round =>
    obtain ⟨j, z, hj, rfl, rfl, hz, hbw⟩ := hrel
    by_cases hlt : j < LL.length
    · obtain ⟨b, off, rfl, hb, hcell⟩ := H.out (by omega)
      obtain ⟨u, c0, hu⟩ := hcell j LL[j] (by simp [hlt])
      have c0' := (hbw.cell (p := ⟨b, off + j, none⟩) hb).trans c0
      have hu' := hu.below hbw
      obtain ⟨s1, s2⟩ := hs LL[j] (List.getElem_mem hlt)
      clear hcell c0 hu
      obtain ⟨uA, ucap, rfl, hucap, hur⟩ := hu'
      have HU := szRecordS_sum _ LL[j] z wr ⟨uA, ucap, rfl, hucap, hur⟩ s1 s2 (by omega)
      clear hur
      have hi1 : (j : Int) < (LL.length : Int) := by omega
      have hi0 : (0 : Int) ≤ (j : Int) := by omega
      go_wp2_with fail
      refine HU.mono ?_
      rintro e w1 (⟨z1, hz1, rfl, hb1⟩ | ⟨z1, hz1, rfl, hb1⟩)
      · have hd1 : decide (z1 < 0) = true := by simpa using hz1
        go_wp2_with fail
        go_ret
        exact .inl ⟨_, by omega, rfl, hbw.trans (hb1.mono hbw.size)⟩
      · have hd1 : decide ((z1 : Int) < 0) = false := by simp
        go_wp2_with fail
        go_roundw
        case rel => exact ⟨j + 1, z1, by omega, by go_num, rfl, by rw [total_snoc hlt]; omega, hbw.trans (hb1.mono hbw.size)⟩
        case measure => simp [intOf]; omega
    · obtain rfl : j = LL.length := by omega
      rw [List.take_of_length_le (Nat.le_refl _)] at hz
      go_wp2
      go_ret
      exact .inr ⟨z, hz, rfl, hbw⟩

/-- The rows of a stack lie from base on, below top. -/
theorem StkRow.low {w : World} {base : Nat} {v : Value} {LL : List (List R)} (h : StkRow w base v LL) : ∃ (g : Nat) (us : List Value), v = .slice (some ⟨g, 0, none⟩) LL.length LL.length ∧ us.length = LL.length ∧ g < w.heap.size ∧ (∀ (i : Nat) (u : Value), us[i]? = some u → w.cell? ⟨g, i, none⟩ = some u) ∧
    ∀ (i : Nat) (u : Value) (l : List R), us[i]? = some u → LL[i]? = some l → RowOf w base u l.length l ∧ u.ownBlock ≠ some g ∧ ∀ (j : Nat) (u' : Value), us[j]? = some u' → ∀ c, u.ownBlock = some c → u'.ownBlock = some c → i = j := by
  obtain ⟨g, us, rfl, hn, ho, h1, h2⟩ := h
  refine ⟨g, us, rfl, hn, (ho.lt g rfl).2, fun i u hi => ?_, fun i u l hi hl => ?_⟩
  · have hlt : i < us.length := (List.getElem?_eq_some_iff.1 hi).1
    have := ho.cellAt i (by omega)
    rw [hi] at this
    exact this
  · have hlt : i < LL.length := (List.getElem?_eq_some_iff.1 hl).1
    refine ⟨(h1 i u l hlt hi hl).1, (h1 i u l hlt hi hl).2, fun j u' hj c hc hc' => ?_⟩
    have hjl : j < us.length := (List.getElem?_eq_some_iff.1 hj).1
    exact h2 i j u u' c hlt (by omega) hi hj hc hc'

theorem StkRow.top {w w' : World} {base : Nat} {v : Value} {LL : List (List R)} (h : StkRow w base v LL) (hb : Below w.heap.size w w') : ∀ (g : Nat) (us : List Value), v = .slice (some ⟨g, 0, none⟩) LL.length LL.length → us.length = LL.length → (∀ (i : Nat) (u : Value), us[i]? = some u → w'.cell? ⟨g, i, none⟩ = some u) → ∀ (i : Nat) (u : Value), us[i]? = some u → ∀ c, u.ownBlock = some c → c < w.heap.size := by
  obtain ⟨g, us, rfl, hn, hgl, hcs, hrs⟩ := h.low
  intro g' us' e hn' hc' i u hi c hc
  cases e
  have hlt : i < us'.length := (List.getElem?_eq_some_iff.1 hi).1
  have h1 := hcs i (us[i]'(by omega)) (List.getElem?_eq_getElem _)
  have h2 := (hb.cell (p := ⟨g, i, none⟩) hgl).symm.trans (hc' i u hi)
  rw [h1] at h2
  cases h2
  exact ((hrs i _ _ (List.getElem?_eq_getElem (by omega)) (List.getElem?_eq_getElem (by omega))).1.2.lt c hc).2

set_option maxHeartbeats 1600000 in
theorem markRecordSS_any (v : Value) (LL : List (List R)) (base top : Nat) (x : Int) (w : World) (hrow : StkRow w base v LL) (h0 : 0 ≤ x) (hk : x + 5 * total LL ≤ 1099511627776) (hL : LL.length ≤ 1048576) (htop : ∀ (g : Nat) (us : List Value), v = .slice (some ⟨g, 0, none⟩) LL.length LL.length → us.length = LL.length → (∀ (i : Nat) (u : Value), us[i]? = some u → w.cell? ⟨g, i, none⟩ = some u) → ∀ (i : Nat) (u : Value), us[i]? = some u → ∀ c, u.ownBlock = some c → c < top) :
    Calls Tryz.prog 55 #[v, .int .i64 x] w fun e w' => e = .returned (.int .i64 (x + 5 * total LL)) ∧ Betw base top w w' := by
  obtain ⟨g, us, rfl, hn, hgl, hcs, hrs⟩ := hrow.low
  have HTOP := Lib.hid (htop g us rfl hn hcs)
  have HCS := Lib.hid hcs
  have HRS := Lib.hid hrs
  clear hcs hrs htop hrow
  go_enter Tryz.func55, Tryz.ntmps55
  go_wp2
  go_loopw [1, 5] (fun kv i wr => ∃ j : Nat, j ≤ LL.length ∧ i = .int .i64 j ∧ kv = .int .i64 (x + 5 * total (LL.take j)) ∧ Betw base top w wr ∧ Hid (∀ (i : Nat) (u : Value) (l : List R), us[i]? = some u → LL[i]? = some l → wr.cell? ⟨g, i, none⟩ = some u ∧ (j ≤ i → RowOf wr base u l.length l))) (fun _ i _ => LL.length - (intOf i).toNat)
  case atStart => exact ⟨0, by omega, rfl, by show _ = Value.int .i64 (x + 5 * ((0 : Nat) : Int)); simp, Betw.refl _ _ _, fun i u l hi hl => ⟨HCS.out i u hi, fun _ => (HRS.out i u l hi hl).1⟩⟩
  case round =>
    obtain ⟨j, hj, rfl, rfl, hbt, HJ⟩ := hrel
    by_cases hlt : j < LL.length
    · have hu : us[j]? = some (us[j]'(by omega)) := List.getElem?_eq_getElem _
      have hl : LL[j]? = some LL[j] := List.getElem?_eq_getElem hlt
      obtain ⟨c0, hr0⟩ := HJ.out j _ _ hu hl
      have hr1 := hr0 (Nat.le_refl _)
      have hts := total_snoc hlt
      have htl : total (LL.take (j + 1)) ≤ total LL := by
        unfold total
        conv => rhs; rw [← List.take_append_drop (j + 1) LL, List.map_append, List.sum_append]
        omega
      have HM := markRecordS_any _ _ _ _ (x + 5 * total (LL.take j)) wr hr1 (by omega) (by omega)
      obtain ⟨uA, uc, hue⟩ := own_form hr1.2
      generalize hU : us[j]'(by omega) = U at *
      subst hue
      have hi1 : (j : Int) < (LL.length : Int) := by omega
      have hi0 : (0 : Int) ≤ (j : Int) := by omega
      have HTS := Lib.hid hts
      have HU := Lib.hid hu
      have HLL := Lib.hid hl
      have HR1 := Lib.hid hr1
      clear hts htl hu hl hr0 hr1 hU
      go_wp2_with fail
      refine HM.mono ?_
      rintro e w2 ⟨rfl, -, hg2⟩
      have hb2 : Betw base top wr w2 := betw_of hg2 (fun k hk2 => ⟨(HR1.out.2.lt k hk2).1, HTOP.out j _ HU.out k hk2⟩)
      go_wp2_with fail
      go_roundw
      case rel =>
        refine ⟨j + 1, by omega, by go_num, ?_, hbt.trans hb2, fun i u l hi hl => ?_⟩
        · rw [HTS.out]
          congr 1
          push_cast
          omega
        · obtain ⟨d0, d1⟩ := HJ.out i u l hi hl
          obtain ⟨e1, e2, e3⟩ := HRS.out j _ _ HU.out HLL.out
          refine ⟨hg2.cell d0 (fun e => e2 e.symm), fun hji => ?_⟩
          refine ⟨rfl, (d1 (by omega)).2.kept hg2 ?_⟩
          cases hub : u.ownBlock with
          | none => exact .inl rfl
          | some c =>
            refine .inr (fun e => ?_)
            have := e3 i u hi c e.symm hub
            omega
      case measure => simp [intOf]; omega
    · obtain rfl : j = LL.length := by omega
      rw [List.take_of_length_le (Nat.le_refl _)]
      go_wp2
      go_ret
      exact ⟨rfl, hbt⟩
end Go.Proofs.YthopokiablgjoaaGreatDoor.Recs

/- Stacks in memory of their own, of any capacity: what an append leaves; marks in them, and whether the marks are held. -/
namespace Go.Proofs.YthopokiablgjoaaGreatDoor.Recs
set_option maxRecDepth 100000
open Go.RowKit Paths

/-- A slice of slices of whatever capacity, all in memory of their own: the row of slices from hb on, the rows in it from base on. -/
def StkOwn (w : World) (hb base : Nat) (v : Value) (LL : List (List R)) : Prop :=
  ∃ us : List Value, us.length = LL.length ∧ w.ownsRow hb 23 1 v LL.length us ∧
    (∀ (i : Nat) (u : Value) (l : List R), us[i]? = some u → LL[i]? = some l → RowOf w base u l.length l) ∧
    ∀ (i k : Nat) (u u' : Value) (c : Nat), us[i]? = some u → us[k]? = some u' → u.ownBlock = some c → u'.ownBlock = some c → i = k
theorem rows_apart {w : World} {b b' : Nat} {u v : Value} {n m : Nat} {xs ys : List Value} (h : w.ownsRow b 52 5 u n xs) (k : w.ownsRow b' 23 1 v m ys) : u.ownBlock = none ∨ u.ownBlock ≠ v.ownBlock := by
  rcases k.2 with ⟨rfl, _⟩ | ⟨g, cap, cur, rfl, _, hg, _⟩
  · cases hu : u.ownBlock with
    | none => exact .inl rfl
    | some c => exact .inr (fun e => by cases e)
  · exact .inr (own_not h (by decide) hg)
theorem StkOwn.nil (w : World) (hb base : Nat) : StkOwn w hb base (.slice none 0 0) [] := ⟨[], rfl, World.ownsRow_nil _ _ _ _, fun i u l h => by simp at h, fun i k u u' c h => by simp at h⟩
theorem StkOwn.sl {w : World} {hb base : Nat} {v : Value} {LL : List (List R)} (h : StkOwn w hb base v LL) : StkSl w v LL := by
  obtain ⟨us, hn, ho, h1, _⟩ := h
  have ho2 := ho
  rcases ho.2 with ⟨rfl, h0⟩ | ⟨g, cap, cur, rfl, _, hg, hc, _⟩
  · exact ⟨none, 0, by rw [h0], by omega, fun h => by omega⟩
  · refine ⟨_, cap, rfl, hc, fun _ => ⟨g, 0, rfl, (Array.getElem?_eq_some_iff.1 hg).1, fun i l hi => ?_⟩⟩
    have hlt : i < LL.length := (List.getElem?_eq_some_iff.1 hi).1
    refine ⟨us[i]'(by omega), ?_, (h1 i _ l (List.getElem?_eq_getElem (by omega)) hi).sl⟩
    have := ho2.cellAt i (by omega)
    rw [List.getElem?_eq_getElem (by omega)] at this
    rw [Nat.zero_add]
    exact this
theorem StkOwn.below {w w' : World} {hb base : Nat} {v : Value} {LL : List (List R)} (h : StkOwn w hb base v LL) (hw : Below w.heap.size w w') : StkOwn w' hb base v LL := by
  obtain ⟨us, hn, ho, h1, h2⟩ := h
  exact ⟨us, hn, own_below ho hw, fun i u l hi hl => (h1 i u l hi hl).below hw, h2⟩
/-- One more behind it. -/
theorem stk_snoc {w w9 : World} {hb base : Nat} {v v' x : Value} {LL : List (List R)} {l : List R} {us : List Value} (hn : us.length = LL.length) (ho : w.ownsRow hb 23 1 v LL.length us)
    (h1 : ∀ (i : Nat) (u : Value) (l : List R), us[i]? = some u → LL[i]? = some l → RowOf w base u l.length l)
    (h2 : ∀ (i k : Nat) (u u' : Value) (c : Nat), us[i]? = some u → us[k]? = some u' → u.ownBlock = some c → u'.ownBlock = some c → i = k)
    (hx : RowOf w base x l.length l) (hxa : ∀ (i : Nat) (u : Value) (c : Nat), us[i]? = some u → u.ownBlock = some c → x.ownBlock ≠ some c)
    (hown : w9.ownsRow hb 23 1 v' (LL.length + 1) (us ++ [x])) (hg : w.grownBy w9 v.ownBlock) : StkOwn w9 hb base v' (LL ++ [l]) := by
  refine ⟨us ++ [x], by simp [hn], by rw [List.length_append]; exact hown, fun i u q hi hq => ?_, fun i k u u' c hi hk hc hc' => ?_⟩
  · rcases Nat.lt_or_ge i us.length with hlt | hge
    · rw [List.getElem?_append_left hlt] at hi
      rw [List.getElem?_append_left (by omega)] at hq
      have := h1 i u q hi hq
      exact ⟨rfl, this.2.kept hg (rows_apart this.2 ho)⟩
    · rw [List.getElem?_append_right hge] at hi
      rw [List.getElem?_append_right (by omega)] at hq
      have e : i - us.length = 0 := by
        have := (List.getElem?_eq_some_iff.1 hi).1
        simp at this
        omega
      have e' : i - LL.length = 0 := by omega
      rw [e] at hi
      rw [e'] at hq
      cases hi
      cases hq
      exact ⟨rfl, hx.2.kept hg (rows_apart hx.2 ho)⟩
  · have key : ∀ (j : Nat) (y : Value), (us ++ [x])[j]? = some y → (j < us.length ∧ us[j]? = some y) ∨ (j = us.length ∧ y = x) := by
      intro j y hj
      rcases Nat.lt_or_ge j us.length with hlt | hge
      · rw [List.getElem?_append_left hlt] at hj
        exact .inl ⟨hlt, hj⟩
      · rw [List.getElem?_append_right hge] at hj
        have e : j - us.length = 0 := by
          have := (List.getElem?_eq_some_iff.1 hj).1
          simp at this
          omega
        rw [e] at hj
        cases hj
        exact .inr ⟨by omega, rfl⟩
    rcases key i u hi with ⟨_, h3⟩ | ⟨h3, rfl⟩
    · rcases key k u' hk with ⟨_, h4⟩ | ⟨_, rfl⟩
      · exact h2 i k u u' c h3 h4 hc hc'
      · exact absurd hc' (hxa i u c h3 hc)
    · rcases key k u' hk with ⟨_, h4⟩ | ⟨h4, _⟩
      · exact absurd hc (hxa k u' c h4 hc')
      · omega
/-- Marks of a stack: each list's behind those of the lists ahead of it. -/
def markLL (x : Int) : List (List R) → List (List R)
  | [] => []
  | l :: t => markR x l.length :: markLL (x + 5 * (l.length : Int)) t
theorem markLL_len : ∀ (x : Int) (LL : List (List R)), (markLL x LL).length = LL.length
  | _, [] => rfl
  | x, l :: t => by simp [markLL, markLL_len]
theorem markLL_at : ∀ (x : Int) (LL : List (List R)) (j : Nat) (h : j < LL.length), (markLL x LL)[j]'(by rw [markLL_len]; exact h) = markR (x + 5 * (total (LL.take j) : Int)) LL[j].length
  | x, l :: t, 0, h => by simp [markLL, total]
  | x, l :: t, j + 1, h => by
    have ih := markLL_at (x + 5 * (l.length : Int)) t j (by simpa using h)
    simp only [markLL, List.getElem_cons_succ, List.take_succ_cons]
    rw [ih]
    congr 1
    simp [total]
    omega
end Go.Proofs.YthopokiablgjoaaGreatDoor.Recs

/- Stacks that are read: parts of them; copies of their layers, of the program. -/
namespace Go.Proofs.YthopokiablgjoaaGreatDoor.Recs
set_option maxRecDepth 100000
open Go.RowKit Paths

/-- A slice that append can read: nil, or one with an address. -/
def Plain (u : Value) : Prop := u = .slice none 0 0 ∨ ∃ a m c, u = .slice (some a) m c
/-- A slice of such slices that reads as the lists LL. -/
def StkGood (w : World) (v : Value) (LL : List (List R)) : Prop :=
  ∃ A cap, v = .slice A LL.length cap ∧ LL.length ≤ cap ∧ (0 < cap → ∃ b off, A = some ⟨b, off, none⟩ ∧ b < w.heap.size ∧ ∀ (i : Nat) (l : List R), LL[i]? = some l → ∃ u, w.cell? ⟨b, off + i, none⟩ = some u ∧ RecSl w u l ∧ Plain u)
theorem StkGood.sl {w : World} {v : Value} {LL : List (List R)} (h : StkGood w v LL) : StkSl w v LL := by
  obtain ⟨A, cap, rfl, hc, h⟩ := h
  refine ⟨A, cap, rfl, hc, fun hn => ?_⟩
  obtain ⟨b, off, e, hb, hcell⟩ := h (by omega)
  exact ⟨b, off, e, hb, fun i l hi => by obtain ⟨u, h1, h2, _⟩ := hcell i l hi; exact ⟨u, h1, h2⟩⟩
theorem StkGood.below {w w' : World} {v : Value} {LL : List (List R)} (h : StkGood w v LL) (hb : Below w.heap.size w w') : StkGood w' v LL := by
  obtain ⟨A, cap, rfl, hc, h⟩ := h
  refine ⟨A, cap, rfl, hc, fun hn => ?_⟩
  obtain ⟨b, off, e, hlt, hcell⟩ := h hn
  refine ⟨b, off, e, Nat.lt_of_lt_of_le hlt hb.size, fun i l hi => ?_⟩
  obtain ⟨u, h1, h2, h3⟩ := hcell i l hi
  exact ⟨u, (hb.cell (p := ⟨b, off + i, none⟩) hlt).trans h1, h2.below hb, h3⟩
theorem row_plain {w : World} {base : Nat} {v : Value} {n : Nat} {M : List R} (h : RowOf w base v n M) : Plain v := by
  rcases h.2.2 with ⟨e, _⟩ | ⟨g, cap, cur, e, _⟩
  · exact .inl e
  · exact .inr ⟨_, _, _, e⟩
theorem StkRow.good {w : World} {base : Nat} {v : Value} {LL : List (List R)} (h : StkRow w base v LL) : StkGood w v LL := by
  obtain ⟨g, us, rfl, hn, ho, h1, _⟩ := h
  refine ⟨_, _, rfl, Nat.le_refl _, fun hp => ⟨g, 0, rfl, (ho.lt g rfl).2, fun i l hi => ?_⟩⟩
  have hlt : i < LL.length := (List.getElem?_eq_some_iff.1 hi).1
  have hr := (h1 i (us[i]'(by omega)) l hlt (List.getElem?_eq_getElem (by omega)) hi).1
  refine ⟨us[i]'(by omega), ?_, hr.sl, row_plain hr⟩
  have := ho.cellAt i (by omega)
  rw [List.getElem?_eq_getElem (by omega)] at this
  rw [Nat.zero_add]
  exact this
theorem StkGood.take {w : World} {A : Option Addr} {n cap : Nat} {LL : List (List R)} (h : StkGood w (.slice A n cap) LL) {k : Nat} (hk : k ≤ LL.length) : StkGood w (.slice A k cap) (LL.take k) := by
  obtain ⟨A', c, e, hc, h⟩ := h
  cases e
  have hl : (LL.take k).length = k := by rw [List.length_take]; omega
  refine ⟨A, cap, by rw [hl], by rw [hl]; omega, fun h0 => ?_⟩
  obtain ⟨b, off, e, hb, hcell⟩ := h h0
  refine ⟨b, off, e, hb, fun i l hi => hcell i l ?_⟩
  have hik : i < k := by have := (List.getElem?_eq_some_iff.1 hi).1; omega
  rw [List.getElem?_take_of_lt hik] at hi
  exact hi
theorem StkGood.drop {w : World} {b off n cap : Nat} {LL : List (List R)} (h : StkGood w (.slice (some ⟨b, off, none⟩) n cap) LL) {k : Nat} (hk : k ≤ LL.length) (hkc : k < cap) : StkGood w (.slice (some ⟨b, off + k, none⟩) (n - k) (cap - k)) (LL.drop k) := by
  obtain ⟨A', c, e, hc, h⟩ := h
  cases e
  have hl : (LL.drop k).length = LL.length - k := List.length_drop
  refine ⟨_, _, by rw [hl], by rw [hl]; omega, fun h0 => ?_⟩
  obtain ⟨b', off', e, hb, hcell⟩ := h (by omega)
  cases e
  refine ⟨b, off + k, rfl, hb, fun i l hi => ?_⟩
  rw [List.getElem?_drop] at hi
  have := hcell (k + i) l hi
  rw [Nat.add_assoc]
  exact this
theorem sl_srcs {w : World} {ad : Addr} {m c : Nat} {l : List R} (h : RecSl w (.slice (some ad) m c) l) : m = l.length ∧ ∀ j u, (flat l)[j]? = some u → w.cell? (ad.add j) = some u := by
  obtain ⟨A, cap, e, hc, h⟩ := h
  cases e
  refine ⟨rfl, fun j u hj => ?_⟩
  have hlt : j < (flat l).length := (List.getElem?_eq_some_iff.1 hj).1
  rw [flat_len] at hlt
  obtain ⟨b, off, e, hb, hcell⟩ := h (by omega)
  cases e
  have hq : j / 5 < l.length := by omega
  obtain ⟨c0, c1, c2, c3, c4⟩ := hcell (j / 5) l[j / 5] (List.getElem?_eq_getElem hq)
  rw [flat_get, List.getElem?_eq_getElem hq] at hj
  have hr : j % 5 < 5 := Nat.mod_lt _ (by omega)
  have hd : j = j / 5 * 5 + j % 5 := by omega
  rw [Addr.add_lit]
  generalize hm : j % 5 = r at *
  generalize j / 5 = q at *
  subst hd
  match r, hr, hj with
  | 0, _, hj => cases hj; simpa using c0
  | 1, _, hj => cases hj; rw [← Nat.add_assoc]; exact c1
  | 2, _, hj => cases hj; rw [← Nat.add_assoc]; exact c2
  | 3, _, hj => cases hj; rw [← Nat.add_assoc]; exact c3
  | 4, _, hj => cases hj; rw [← Nat.add_assoc]; exact c4
end Go.Proofs.YthopokiablgjoaaGreatDoor.Recs

/- Copies of a stack's layers, of the program. -/
namespace Go.Proofs.YthopokiablgjoaaGreatDoor.Recs
set_option maxRecDepth 100000
open Go.RowKit Paths

theorem stk_take {LL : List (List R)} {k : Nat} (h : k < LL.length) : LL.take k ++ [LL[k]] = LL.take (k + 1) := (List.take_succ_eq_append_getElem h).symm
theorem sl_none {w : World} {l : List R} {n c : Nat} (h : RecSl w (.slice none n c) l) : l = [] := by
  obtain ⟨A, cap, e, hc, h⟩ := h
  cases e
  rcases Nat.eq_zero_or_pos l.length with h0 | h0
  · exact List.eq_nil_of_length_eq_zero h0
  · obtain ⟨_, _, e, _⟩ := h h0
    cases e

set_option maxHeartbeats 3200000 in
theorem copiesOf_any (v : Value) (LL : List (List R)) (w : World) (h : StkGood w v LL) (hl : LL.length ≤ 5) (hll : ∀ l ∈ LL, l.length ≤ 16) :
    Calls Tryz.prog 101 #[v] w fun e w' => ∃ x, e = .returned x ∧ Below w.heap.size w w' ∧ StkOwn w' w.heap.size w.heap.size x LL := by
  obtain ⟨i0, hi, hI0, hI1, hI2⟩ := info_parts recInfo
  obtain ⟨s0, hs, hS0, hS1, hS2⟩ := info_parts ssInfo
  obtain ⟨sA, cap, rfl, hcap, h⟩ := h
  have H := Lib.hid h
  have HLL := Lib.hid hll
  clear h hll
  go_enter Tryz.func101, Tryz.ntmps101
  go_wp2
  go_loopw [3, 8] (fun f i wr => ∃ k : Nat, k ≤ LL.length ∧ i = .int .i64 k ∧ Hid (StkOwn wr w.heap.size w.heap.size f (LL.take k)) ∧ Below w.heap.size w wr) (fun _ i _ => LL.length - (intOf i).toNat)
  case atStart => exact ⟨0, by omega, rfl, StkOwn.nil _ _ _, Below.refl _ _⟩
  case round =>
    obtain ⟨k, hk, rfl, HS, hbw⟩ := hrel
    obtain ⟨us, hn, ho, h1, h2⟩ := HS.out
    have hkl : (LL.take k).length = k := by rw [List.length_take]; omega
    rw [hkl] at hn ho
    obtain ⟨fA, fcap, rfl⟩ := own_form ho
    by_cases hlt : k < LL.length
    · obtain ⟨b, off, rfl, hb, hcell⟩ := H.out (by omega)
      obtain ⟨u, hu0, hur, hpl⟩ := hcell k LL[k] (by simp [hlt])
      have hu : wr.cell? ⟨b, off + k, none⟩ = some u := (hbw.cell (p := ⟨b, off + k, none⟩) hb).trans hu0
      have hur2 := hur.below hbw
      have hl16 := HLL.out LL[k] (List.getElem_mem hlt)
      have HTK := Lib.hid (stk_take hlt)
      have hi1 : (k : Int) < (LL.length : Int) := by omega
      have hi0 : (0 : Int) ≤ (k : Int) := by omega
      clear hcell hu0 hur
      rcases hpl with rfl | ⟨ad, m, c, rfl⟩
      · have hz := sl_none hur2
        have eA : Below wr.heap.size wr (wr.alloc (.cells #[.slice none 0 0] 23)) := (Below.refl _ _).alloc (Nat.le_refl _) _
        have hoA := own_below ho eA
        have hbA := hbw.trans (eA.mono hbw.size)
        have hszA := hbA.size
        have HFIN : Hid (∀ v' w9, w9.ownsRow w.heap.size 23 1 v' (k + 1) (us ++ [.slice none 0 0]) → (wr.alloc (.cells #[.slice none 0 0] 23)).grownBy w9 (Value.slice fA k fcap).ownBlock → StkOwn w9 w.heap.size w.heap.size v' (LL.take (k + 1)) ∧ Below w.heap.size w w9) := fun v' w9 hown hg => by
          refine ⟨?_, hbA.grown hg hbA.size (fun j hj => (ho.lt j hj).1)⟩
          rw [← HTK.out]
          refine stk_snoc (x := .slice none 0 0) (LL := LL.take k) (l := LL[k]) (by rw [hkl]; exact hn) (by rw [hkl]; exact hoA) (fun i u l hi hl => (h1 i u l hi hl).below eA) h2 ?_ (fun i u c _ _ e => by have e2 : (none : Option Nat) = some c := e; cases e2) (by rw [hkl]; exact hown) hg
          rw [hz]
          exact ⟨rfl, World.ownsRow_nil _ _ _ _⟩
        clear hz h1 h2 HS
        go_wp2_with (first
          | (at_builtin; refine wpList_append_own_none rfl _ _ 23 rfl wr.heap.size 52 i0 5 Tryz.underlying23 hi (.slice none 0 0) 0 [] rfl (World.ownsRow_nil _ _ _ _) rfl ?_)
          | (at_builtin; refine wpList_append_own _ rfl _ _ 36 rfl w.heap.size 23 s0 (.slice none 0 0) 1 24 Tryz.underlying36 hs hS0 hS1 hS2 rfl (by decide) _ _ _ rfl hoA ⟨wr.heap.size, 0, none⟩ 1 1 [.slice none 0 0] rfl rfl (cell_one_new _ _ _) (fun x hx => by simp at hx; subst hx; rfl) (by unfold maxLen; omega) (by omega) hszA ?_; intro v' w9 hown' hgrow9 hnil9))
        obtain ⟨r1, r2⟩ := HFIN.out _ _ hown' hgrow9
        exact ⟨⟨k + 1, by omega, by go_num, r1, r2⟩, by simp [intOf]; omega⟩
      · obtain ⟨rfl, hsrc⟩ := sl_srcs hur2
        have hfl := flat_len LL[k]
        have hone : ∀ u ∈ flat LL[k], u.oneCell' = true := fun u hu => by
          unfold flat at hu
          obtain ⟨r, _, hr⟩ := List.mem_flatMap.1 hu
          exact rec_one r u hr
        have HMID : Hid (∀ x w5, w5.ownsRow wr.heap.size 52 5 x (0 + LL[k].length) ([] ++ flat LL[k]) → wr.grownBy w5 (Value.slice none 0 0).ownBlock → (∃ A c, x = .slice A LL[k].length c) ∧ (w5.alloc (.cells #[x] 23)).ownsRow w.heap.size 23 1 (.slice fA k fcap) k us ∧ w.heap.size ≤ (w5.alloc (.cells #[x] 23)).heap.size ∧ (∀ y ∈ [x], y.oneCell' = true) ∧
            ∀ v' w9, w9.ownsRow w.heap.size 23 1 v' (k + 1) (us ++ [x]) → (w5.alloc (.cells #[x] 23)).grownBy w9 (Value.slice fA k fcap).ownBlock → StkOwn w9 w.heap.size w.heap.size v' (LL.take (k + 1)) ∧ Below w.heap.size w w9) := fun x w5 hx hg5 => by
          have hb5 : Below wr.heap.size wr w5 := (Below.refl _ _).grown hg5 (Nat.le_refl _) (fun j hj => by cases hj)
          have eA : Below w5.heap.size w5 (w5.alloc (.cells #[x] 23)) := (Below.refl _ _).alloc (Nat.le_refl _) _
          have bA := hb5.trans (eA.mono hb5.size)
          have hbA := hbw.trans (bA.mono hbw.size)
          have hoA := own_below ho bA
          have hxr : RowOf w5 wr.heap.size x LL[k].length LL[k] := ⟨rfl, by simpa using hx⟩
          refine ⟨hxr.form, hoA, hbA.size, ?_, fun v' w9 hown hg => ⟨?_, hbA.grown hg hbA.size (fun j hj => (ho.lt j hj).1)⟩⟩
          · intro y hy
            rw [List.mem_singleton.1 hy]
            obtain ⟨A, c, rfl⟩ := hxr.form
            rfl
          · rw [← HTK.out]
            have hxA := hxr.below eA
            refine stk_snoc (LL := LL.take k) (l := LL[k]) (by rw [hkl]; exact hn) (by rw [hkl]; exact hoA) (fun i u l hi hl => (h1 i u l hi hl).below bA) h2 ⟨rfl, own_down hxA.2 hbw.size⟩ (fun i u c hi hc e => ?_) (by rw [hkl]; exact hown) hg
            have e1 := (hxr.2.lt c e).1
            have hil : i < (LL.take k).length := by have := (List.getElem?_eq_some_iff.1 hi).1; rw [hkl]; omega
            have e2 := ((h1 i u _ hi (List.getElem?_eq_getElem hil)).2.lt c hc).2
            omega
        clear h1 h2 HS hur2
        go_wp2_with (first
          | (at_builtin; refine wpList_append_own _ rfl _ _ 23 rfl wr.heap.size 52 i0 (.agg #[.int .i64 0, .string ByteArray.empty, .string ByteArray.empty, .int .i64 0, .bool false]) 5 56 Tryz.underlying23 hi hI0 hI1 hI2 rfl (by decide) _ _ _ rfl (World.ownsRow_nil _ _ _ _) ad LL[k].length c (flat LL[k]) rfl hfl hsrc hone (by unfold maxLen; omega) (by omega) (Nat.le_refl _) ?_; intro x w5 hx5 hg5 hn5; obtain ⟨⟨xA, xc, rfl⟩, m1, m2, m3, m4⟩ := HMID.out x w5 hx5 hg5)
          | (at_builtin; refine wpList_append_own _ rfl _ _ 36 rfl w.heap.size 23 s0 (.slice none 0 0) 1 24 Tryz.underlying36 hs hS0 hS1 hS2 rfl (by decide) _ _ _ rfl m1 ⟨w5.heap.size, 0, none⟩ 1 1 [.slice xA LL[k].length xc] rfl rfl (cell_one_new _ _ _) m3 (by unfold maxLen; omega) (by omega) m2 ?_; intro v' w9 hown' hgrow9 hnil9))
        obtain ⟨r1, r2⟩ := m4 _ _ hown' hgrow9
        exact ⟨⟨k + 1, by omega, by go_num, r1, r2⟩, by simp [intOf]; omega⟩
    · have HF : Hid (LL.take k = LL) := List.take_of_length_le (by omega)
      go_wp2
      go_ret
      exact ⟨_, rfl, hbw, by have := HS.out; rw [HF.out] at this; exact this⟩
end Go.Proofs.YthopokiablgjoaaGreatDoor.Recs

/- Two stacks of their own memory in one. -/
namespace Go.Proofs.YthopokiablgjoaaGreatDoor.Recs
set_option maxRecDepth 100000
open Go.RowKit Paths

theorem StkOwn.down {w : World} {hb hb' base base' : Nat} {v : Value} {LL : List (List R)} (h : StkOwn w hb base v LL) (h0 : hb' ≤ hb) (hd : base' ≤ base) : StkOwn w hb' base' v LL := by
  obtain ⟨us, hn, ho, h1, h2⟩ := h
  exact ⟨us, hn, own_down ho h0, fun i u l hi hl => ⟨(h1 i u l hi hl).1, own_down (h1 i u l hi hl).2 hd⟩, h2⟩
/-- All of a stack's slices behind those of another one. -/
theorem stk_append {w w9 : World} {hb base : Nat} {v v' : Value} {LL MM : List (List R)} {us ms : List Value} (hn : us.length = LL.length) (ho : w.ownsRow hb 23 1 v LL.length us)
    (h1 : ∀ (i : Nat) (u : Value) (l : List R), us[i]? = some u → LL[i]? = some l → RowOf w base u l.length l)
    (h2 : ∀ (i k : Nat) (u u' : Value) (c : Nat), us[i]? = some u → us[k]? = some u' → u.ownBlock = some c → u'.ownBlock = some c → i = k)
    (hm : ms.length = MM.length)
    (k1 : ∀ (i : Nat) (u : Value) (l : List R), ms[i]? = some u → MM[i]? = some l → RowOf w base u l.length l)
    (k2 : ∀ (i k : Nat) (u u' : Value) (c : Nat), ms[i]? = some u → ms[k]? = some u' → u.ownBlock = some c → u'.ownBlock = some c → i = k)
    (hap : ∀ (i k : Nat) (u u' : Value) (c : Nat), us[i]? = some u → ms[k]? = some u' → u.ownBlock = some c → u'.ownBlock ≠ some c)
    (hown : w9.ownsRow hb 23 1 v' (LL.length + MM.length) (us ++ ms)) (hg : w.grownBy w9 v.ownBlock) : StkOwn w9 hb base v' (LL ++ MM) := by
  have key : ∀ (j : Nat) (y : Value), (us ++ ms)[j]? = some y → (j < us.length ∧ us[j]? = some y) ∨ (us.length ≤ j ∧ ms[j - us.length]? = some y) := by
    intro j y hj
    rcases Nat.lt_or_ge j us.length with hlt | hge
    · rw [List.getElem?_append_left hlt] at hj
      exact .inl ⟨hlt, hj⟩
    · rw [List.getElem?_append_right hge] at hj
      exact .inr ⟨hge, hj⟩
  refine ⟨us ++ ms, by simp [hn, hm], by rw [List.length_append]; exact hown, fun i u q hi hq => ?_, fun i k u u' c hi hk hc hc' => ?_⟩
  · rcases key i u hi with ⟨h3, h4⟩ | ⟨h3, h4⟩
    · rw [List.getElem?_append_left (by omega)] at hq
      have := h1 i u q h4 hq
      exact ⟨rfl, this.2.kept hg (rows_apart this.2 ho)⟩
    · rw [List.getElem?_append_right (by omega), ← hn] at hq
      have := k1 _ u q h4 hq
      exact ⟨rfl, this.2.kept hg (rows_apart this.2 ho)⟩
  · rcases key i u hi with ⟨h3, h4⟩ | ⟨h3, h4⟩
    · rcases key k u' hk with ⟨h5, h6⟩ | ⟨h5, h6⟩
      · exact h2 i k u u' c h4 h6 hc hc'
      · exact absurd hc' (hap i _ u u' c h4 h6 hc)
    · rcases key k u' hk with ⟨h5, h6⟩ | ⟨h5, h6⟩
      · exact absurd hc (hap k _ u' u c h6 h4 hc')
      · have := k2 _ _ u u' c h4 h6 hc hc'
        omega
end Go.Proofs.YthopokiablgjoaaGreatDoor.Recs
