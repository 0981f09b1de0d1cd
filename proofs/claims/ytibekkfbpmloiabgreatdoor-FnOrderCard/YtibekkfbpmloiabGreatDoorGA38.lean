/- Parts of several texts of mine in one file (each begins with its own remark). -/
import Derived.Test.YtibekkfbpmloiabGreatDoorGA1
import Derived.Test.YtibekkfbpmloiabGreatDoorGA11
import Derived.Test.YtibekkfbpmloiabGreatDoorGA12
import Derived.Test.YtibekkfbpmloiabGreatDoorGA14
import Derived.Test.YtibekkfbpmloiabGreatDoorGA2
import Derived.Test.YtibekkfbpmloiabGreatDoorGA20
import Derived.Test.YtibekkfbpmloiabGreatDoorGA23
import Derived.Test.YtibekkfbpmloiabGreatDoorGA3
import Derived.Test.YtibekkfbpmloiabGreatDoorGA33
import Derived.Test.YtibekkfbpmloiabGreatDoorGA34
import Derived.Test.YtibekkfbpmloiabGreatDoorGA36
import Derived.Test.YtibekkfbpmloiabGreatDoorGA4
import Derived.Test.YtibekkfbpmloiabGreatDoorGA6
import Derived.Test.YtibekkfbpmloiabGreatDoorGA8
import Derived.Test.YtibekkfbpmloiabGreatDoorGA9
import Derived.Test.YtibekkfbpmloiabGreatDoorChecked
import Derived.Test.YtibekkfbpmloiabGreatDoorShelf
import Derived.Test.YtibekkfbpmloiabGreatDoorProg
import Derived.Test.YtibekkfbpmloiabGreatDoorRows
import Derived.Deep.RegionHeld3
import Derived.Deep.Cut
import Derived.Deep.CutRange
import Derived.Deep.Slices
import Derived.OpenShut
import Derived.ShutString
import Derived.ChangeArms
import Derived.WideShapes
import Derived.Lib.LaidTab
import Derived.BigQuiet
import Derived.Deep.QuietTactic
import Derived.StillTailTactics
import Derived.Deep.Draws
import Derived.Deep.LoopGhost
import Derived.WalkKit
import Derived.WalkSpells
import Derived.WalkSmall
import Derived.Lib.OthersKept
import Derived.Lib.Hide
import Derived.Lib.Strings
import Derived.Lib.Join
import Derived.Deep.RegionWith
import Derived.Laws.OwnMore
import Derived.BigRegion
import Derived.Laws.BytesArg
import Derived.Stop.LaidErr
import Derived.WalkLawsBesides
import Derived.LaidEql
import Derived.Stop.Asserts
import Derived.Below
import Derived.Stop.LaidTwo
import Derived.OneCell
import Derived.Lib.SliceRun
import Derived.Lib.Overlaps
import Derived.Lib.AppendZerosOnto
import Derived.Laws.NewBlocks
import Derived.Laws.IdiomCopy
import Derived.Deep.RegionLaw
import Derived.ChangeVars
import Derived.Deep.DeepHandedRow
import Derived.Deep.AppendLies
import Derived.Laws.EntriesVeiled
import Derived.Deep.CutBlock
import Derived.Laws.IdiomRangeMap
import Derived.Maps.RangeWalk
import Derived.Maps.Ext
import Derived.Lib.SlMapFilter
import Derived.Laws.AppendOwnNone
import Derived.RegionTactic
import Derived.IntWalk
/- A drawn stack as the laws read it: good to read, its form. -/
namespace Go.Proofs.YtibekkfbpmloiabGreatDoor.Recs
set_option maxRecDepth 100000
open Go.RowKit Paths

theorem StkOwn.good {w : World} {hb base : Nat} {v : Value} {LL : List (List R)} (h : StkOwn w hb base v LL) : StkGood w v LL := by
  obtain ⟨us, hn, ho, h1, _⟩ := h
  have ho2 := ho
  rcases ho.2 with ⟨rfl, h0⟩ | ⟨g, cap, cur, rfl, _, hg, hc, _⟩
  · exact ⟨none, 0, by rw [h0], by omega, fun h => by omega⟩
  · refine ⟨_, cap, rfl, hc, fun _ => ⟨g, 0, rfl, (Array.getElem?_eq_some_iff.1 hg).1, fun i l hi => ?_⟩⟩
    have hlt : i < LL.length := (List.getElem?_eq_some_iff.1 hi).1
    have hr := h1 i (us[i]'(by omega)) l (List.getElem?_eq_getElem (by omega)) hi
    refine ⟨us[i]'(by omega), ?_, hr.sl, row_plain hr⟩
    have := ho2.cellAt i (by omega)
    rw [List.getElem?_eq_getElem (by omega)] at this
    rw [Nat.zero_add]
    exact this
theorem StkOwn.atom {w : World} {hb base : Nat} {v : Value} {LL : List (List R)} (h : StkOwn w hb base v LL) (hv : v ≠ .slice none 0 0) : ∃ g cap, v = .slice (some ⟨g, 0, none⟩) LL.length cap ∧ LL.length ≤ cap := by
  obtain ⟨us, _, ho, _, _⟩ := h
  rcases ho.2 with ⟨rfl, h0⟩ | ⟨g, cap, cur, rfl, _, _, hc, _⟩
  · exact absurd rfl hv
  · exact ⟨g, cap, rfl, hc⟩
/-- What a layer of a drawn stack holds: short rows, short paths. -/
theorem stk_short {LL : List (List R)} (h : ∀ l ∈ LL, layerOK l = true) : (∀ l ∈ LL, l.length ≤ 1048576 ∧ ∀ r ∈ l, r.p.size ≤ maxLen) ∧ ∀ l ∈ LL, l.length ≤ 1048576 := by
  have h1 : ∀ l ∈ LL, l.length ≤ 1048576 := fun l hl => by have := layer_len (h l hl); omega
  refine ⟨fun l hl => ⟨h1 l hl, fun r hr => ?_⟩, h1⟩
  have h35 : r.p.size ≤ 35 := by rw [Lib.size_eq]; exact pathB_len ((layer_is (h l hl)).path r hr)
  unfold maxLen
  omega
/-- The end of such a stack, cut off at k. -/
theorem StkGood.rest {w : World} {g n cap : Nat} {LL : List (List R)} (h : StkGood w (.slice (some ⟨g, 0, none⟩) n cap) LL) {k : Nat} (hk : k ≤ LL.length) (hn : n = LL.length) (hc : n ≤ cap) :
    (cap = k → StkSl w (.slice (some ⟨g, 0, none⟩) (n - k) (cap - k)) (LL.drop k)) ∧ (cap ≠ k → StkSl w (.slice (some ⟨g, k, none⟩) (n - k) (cap - k)) (LL.drop k)) := by
  refine ⟨fun e => ?_, fun e => ?_⟩
  · have hl : (LL.drop k).length = n - k := by rw [List.length_drop, hn]
    exact ⟨_, _, by rw [hl], by rw [hl]; omega, fun h0 => by rw [hl] at h0; omega⟩
  · have := (h.drop hk (by omega)).sl
    rwa [Nat.zero_add] at this
end Go.Proofs.YtibekkfbpmloiabGreatDoor.Recs

/- The choice that some bytes make (laws.at), as a plain function of the bytes. -/
namespace Go.Proofs.YtibekkfbpmloiabGreatDoor.Draw
open Go.RowKit

/-- A slice of bytes that reads as f. -/
def Vals (w : World) (A : Option Addr) (n : Nat) (f : Nat → Nat) : Prop :=
  n ≤ 1048577 ∧ (0 < n → ∃ b off, A = some ⟨b, off, none⟩ ∧ b < w.heap.size ∧ ∀ k, k < n → f k ≤ 255 ∧ w.cell? ⟨b, off + k, none⟩ = some (.int .u8 (f k)))
theorem Vals.byts {w : World} {A : Option Addr} {n : Nat} {f : Nat → Nat} (h : Vals w A n f) : Byts w w.heap.size A n := by
  refine ⟨h.1, fun hn => ?_⟩
  obtain ⟨b, off, e, hb, hc⟩ := h.2 hn
  exact ⟨b, off, e, hb, fun k hk => ⟨f k, hc k hk⟩⟩
theorem Vals.below {w w' : World} {A : Option Addr} {n : Nat} {f : Nat → Nat} (h : Vals w A n f) (hb : Below w.heap.size w w') : Vals w' A n f := by
  refine ⟨h.1, fun hn => ?_⟩
  obtain ⟨b, off, e, hlt, hc⟩ := h.2 hn
  exact ⟨b, off, e, Nat.lt_of_lt_of_le hlt hb.size, fun k hk => ⟨(hc k hk).1, (hb.cell (p := ⟨b, off + k, none⟩) hlt).trans (hc k hk).2⟩⟩

def atN (f : Nat → Nat) (n : Nat) (i k : Int) : Int :=
  if n = 0 then i * 7 % k else ((f (i % n).toNat : Int) * 31 + (f ((i + 1) % n).toNat : Int) + i / n) % k
theorem atN_range {f : Nat → Nat} {n : Nat} {i k : Int} (hk : 2 ≤ k) : 0 ≤ atN f n i k ∧ atN f n i k < k := by
  unfold atN
  split
  · exact ⟨Int.emod_nonneg _ (by omega), Int.emod_lt_of_pos _ (by omega)⟩
  · exact ⟨Int.emod_nonneg _ (by omega), Int.emod_lt_of_pos _ (by omega)⟩
theorem ret_int {a b : Int} (h : a = b) : Ending.returned (.int .i64 a) = .returned (.int .i64 b) := by rw [h]

set_option maxHeartbeats 1000000 in
theorem at_any (w : World) (A : Option Addr) (n cap : Nat) (f : Nat → Nat) (i k : Int) (h : Vals w A n f) (hi : 0 ≤ i ∧ i ≤ 1000) (hk : 2 ≤ k ∧ k ≤ 100000) :
    Calls Tryz.prog 12 #[.slice A n cap, .int .i64 i, .int .i64 k] w fun e w' => e = .returned (.int .i64 (atN f n i k)) ∧ ∃ q, w' = w.drewN q := by
  obtain ⟨hi1, hi2⟩ := hi
  obtain ⟨hk1, hk2⟩ := hk
  have hd1 : decide (k ≤ 1) = false := by simp; omega
  have hk0 : (0 : Int) < k := by omega
  by_cases hn : n = 0
  · subst hn
    have HR := Lib.hid (show atN f 0 i k = i * 7 % k by unfold atN; rw [if_pos rfl])
    clear h
    go_enter Tryz.func12, Tryz.ntmps12
    go_wp2
    go_ret
    exact ⟨ret_int HR.out.symm, 0, rfl⟩
  · have HR := Lib.hid (show atN f n i k = ((f (i % n).toNat : Int) * 31 + (f ((i + 1) % n).toNat : Int) + i / n) % k by unfold atN; rw [if_neg hn])
    obtain ⟨hn1, hx⟩ := h
    obtain ⟨b, off, rfl, hb, hc⟩ := hx (by omega)
    have hz : ((n : Int) == 0) = false := beq_eq_false_iff_ne.2 (by omega)
    have hnp : (0 : Int) < (n : Int) := by omega
    have m1 := Int.emod_nonneg i (show (n : Int) ≠ 0 by omega)
    have m2 := Int.emod_lt_of_pos i hnp
    have m3 := Int.emod_nonneg (i + 1) (show (n : Int) ≠ 0 by omega)
    have m4 := Int.emod_lt_of_pos (i + 1) hnp
    have m5 := Int.ediv_nonneg hi1 (show (0 : Int) ≤ (n : Int) by omega)
    have m6 := Int.ediv_le_self (n : Int) hi1
    obtain ⟨hf1, hc1⟩ := hc (i % n).toNat (by omega)
    obtain ⟨hf2, hc2⟩ := hc ((i + 1) % n).toNat (by omega)
    have HX := Lib.hid hc
    clear hx hc hn
    go_enter Tryz.func12, Tryz.ntmps12
    go_wp2
    go_quiet (fail)
    go_wp2
    go_ret
    exact ⟨ret_int HR.out.symm, nq, rfl⟩
end Go.Proofs.YtibekkfbpmloiabGreatDoor.Draw

/- For laws that look at layers: the laws' own comparison of lists of records; their choice among one. -/
namespace Go.Proofs.YtibekkfbpmloiabGreatDoor.Recs
set_option maxRecDepth 100000
open Go.RowKit Paths

set_option maxHeartbeats 1600000 in
theorem sameRecords_any (v1 v2 : Value) (A B : List R) (w : World) (h1 : RecSl w v1 A) (h2 : RecSl w v2 B) (hl : A.length ≤ 1048576) :
    Calls Tryz.prog 17 #[v1, v2] w fun e w' => e = .returned (.bool (decide (A = B))) ∧ ∃ n, w' = w.drewN n := by
  obtain ⟨a1, cap1, rfl, hcap1, h1⟩ := h1
  obtain ⟨a2, cap2, rfl, hcap2, h2⟩ := h2
  by_cases hL : A.length = B.length
  · have hne : ((A.length : Int) != (B.length : Int)) = false := by simp [hL]
    have HL := Lib.hid hL
    have H1 := Lib.hid h1
    have H2 := Lib.hid h2
    clear hL h1 h2
    go_enter Tryz.func17, Tryz.ntmps17
    go_wp2
    go_loopw [5] (fun i wr => ∃ k n : Nat, k ≤ A.length ∧ i = .int .i64 k ∧ wr = w.drewN n ∧ Hid (A.take k = B.take k)) (fun i _ => A.length - (intOf i).toNat)
    case atStart => exact ⟨0, 0, by omega, rfl, rfl, rfl⟩
    case round =>
      obtain ⟨k, n, hk, rfl, rfl, HK⟩ := hrel
      by_cases hlt : k < A.length
      · obtain ⟨b1, o1, rfl, hb1, hcell1⟩ := H1.out (by omega)
        have hL2 := HL.out
        have hlt2 : k < B.length := by omega
        obtain ⟨b2, o2, rfl, hb2, hcell2⟩ := H2.out (by omega)
        obtain ⟨c0, c1, c2, c3, c4⟩ := hcell1 k A[k] (by simp [hlt])
        obtain ⟨d0, d1, d2, d3, d4⟩ := hcell2 k B[k] (by simp [hlt2])
        clear hcell1 hcell2 hL2 H1 H2
        have hi1 : (k : Int) < (A.length : Int) := by omega
        have hi2 : (k : Int) < (B.length : Int) := by omega
        have hi0 : (0 : Int) ≤ (k : Int) := by omega
        rcases five A[k] B[k] with f0 | ⟨f0, f1⟩ | ⟨f0, f1, f2⟩ | ⟨f0, f1, f2, f3⟩ | ⟨f0, f1, f2, f3, f4⟩ | ⟨f0, f1, f2, f3, f4⟩
        · have HF := ne_at hlt hlt2 (fun e => by rw [e] at f0; simp at f0)
          go_wp2
          go_quiet (fail)
          go_wp2
          go_ret
          exact ⟨ret_bool (by simp [HF.out]), n + nq, World.drewN_drewN _ _ _⟩
        · have HF := ne_at hlt hlt2 (fun e => by rw [e] at f1; simp at f1)
          go_wp2
          go_quiet (fail)
          go_wp2
          go_ret
          exact ⟨ret_bool (by simp [HF.out]), n + nq, World.drewN_drewN _ _ _⟩
        · have HF := ne_at hlt hlt2 (fun e => by rw [e] at f2; simp at f2)
          go_wp2
          go_quiet (fail)
          go_wp2
          go_ret
          exact ⟨ret_bool (by simp [HF.out]), n + nq, World.drewN_drewN _ _ _⟩
        · have HF := ne_at hlt hlt2 (fun e => by rw [e] at f3; simp at f3)
          go_wp2
          go_quiet (fail)
          go_wp2
          go_ret
          exact ⟨ret_bool (by simp [HF.out]), n + nq, World.drewN_drewN _ _ _⟩
        · have HF := ne_at hlt hlt2 (fun e => by rw [e] at f4; simp at f4)
          go_wp2
          go_quiet (fail)
          go_wp2
          go_ret
          exact ⟨ret_bool (by simp [HF.out]), n + nq, World.drewN_drewN _ _ _⟩
        · have HT := Lib.hid (take_snoc_eq hlt hlt2 HK.out (rec_eq f0 f1 f2 f3 f4))
          go_wp2
          go_quiet (fail)
          go_wp2
          exact ⟨⟨k + 1, _, by omega, by go_num, rfl, HT⟩, by simp [intOf]; omega⟩
      · have HE : Hid (A = B) := by
          have hL2 := HL.out
          have := HK.out
          rw [List.take_of_length_le (by omega), List.take_of_length_le (by omega)] at this
          exact this
        go_wp2
        go_ret
        exact ⟨ret_bool (by simp [HE.out]), _, rfl⟩
  · have hne : ((A.length : Int) != (B.length : Int)) = true := by simp; omega
    have HE : Hid (¬ A = B) := fun e => hL (by rw [e])
    clear hL
    go_enter Tryz.func17, Tryz.ntmps17
    go_wp2
    go_ret
    exact ⟨ret_bool (by simp [HE.out]), 0, rfl⟩

theorem at_low (A : Option Addr) (n cap : Nat) (i k : Int) (w : World) (hk : k ≤ 1) :
    Calls Tryz.prog 12 #[.slice A n cap, .int .i64 i, .int .i64 k] w fun e w' => e = .returned (.int .i64 0) ∧ w = w' := by
  have hd : decide (k ≤ 1) = true := by simpa using hk
  go_enter Tryz.func12, Tryz.ntmps12
  go_wp2_with fail
  go_ret
  exact ⟨rfl, rfl⟩
/-- The choice of laws.at, whatever the number. -/
def atK (f : Nat → Nat) (n : Nat) (i k : Int) : Int := if k ≤ 1 then 0 else Draw.atN f n i k
theorem atK_range {f : Nat → Nat} {n : Nat} {i k : Int} (hk : 1 ≤ k) : 0 ≤ atK f n i k ∧ atK f n i k < k := by
  unfold atK
  split
  · omega
  · exact Draw.atN_range (by omega)
theorem at_all (w : World) (A : Option Addr) (n cap : Nat) (f : Nat → Nat) (i k : Int) (h : Draw.Vals w A n f) (hi : 0 ≤ i ∧ i ≤ 1000) (hk : k ≤ 100000) :
    Calls Tryz.prog 12 #[.slice A n cap, .int .i64 i, .int .i64 k] w fun e w' => e = .returned (.int .i64 (atK f n i k)) ∧ ∃ q, w' = w.drewN q := by
  unfold atK
  by_cases h1 : k ≤ 1
  · rw [if_pos h1]
    refine (at_low A n cap i k w h1).mono ?_
    rintro e w1 ⟨rfl, rfl⟩
    exact ⟨rfl, 0, rfl⟩
  · rw [if_neg h1]
    exact Draw.at_any w A n cap f i k h hi ⟨by omega, hk⟩
theorem RowOf.atom {w : World} {base : Nat} {v : Value} {n : Nat} {M : List R} (h : RowOf w base v n M) (hv : v ≠ .slice none 0 0) : ∃ g cap, v = .slice (some ⟨g, 0, none⟩) n cap := by
  rcases h.2.2 with ⟨e, _⟩ | ⟨g, cap, cur, e, _⟩
  · exact absurd e hv
  · exact ⟨g, cap, e⟩
end Go.Proofs.YtibekkfbpmloiabGreatDoor.Recs

/- Slices of bytes that came in: what the laws read off them. -/
namespace Go.Proofs.YtibekkfbpmloiabGreatDoor.Draw
open Go.RowKit Go.ChangeShapes Go.WideShapes

/-- What is known of a slice of integers that came in. -/
def IsRow (k : IntKind) (w : World) (a : Option Addr) (len cap : Nat) (zs : List Int) : Prop :=
  (a = none ∧ len = 0 ∧ cap = 0 ∧ zs = []) ∨
  ∃ x, a = some x ∧ len ≤ cap ∧ cap ≤ maxLen ∧ zs.length = cap ∧ (∀ i, i < zs.length → w.cell? (x.add i) = some (.int k (zs.getD i 0))) ∧ ∀ n ∈ zs, (Lit.int k n).wf = true
theorem IsRow.vals {w : World} {a : Option Addr} {len cap : Nat} {zs : List Int} (h : IsRow .u8 w a len cap zs) (hl : len ≤ 1048576) : Vals w a len (fun k => (zs.getD k 0).toNat) ∧ len ≤ cap ∧ (a = none → len = 0 ∧ cap = 0) := by
  rcases h with ⟨rfl, rfl, rfl, rfl⟩ | ⟨x, rfl, h1, h2, h3, h4, h5⟩
  · exact ⟨⟨by omega, fun h => by omega⟩, Nat.le_refl _, fun _ => ⟨rfl, rfl⟩⟩
  · refine ⟨⟨by omega, fun hn => ?_⟩, h1, fun h => by cases h⟩
    have hc := h4 0 (by omega)
    obtain ⟨b, off, spot⟩ := x
    have hspot : spot = none := by simpa [Addr.add] using World.cell?_spot hc
    subst hspot
    refine ⟨b, off, rfl, World.block_lt_of_cell? w _ (by simpa [Addr.add_lit] using hc), fun k hk => ?_⟩
    have hck := h4 k (by omega)
    have hw := h5 (zs.getD k 0) (by simp [List.getD, show k < zs.length by omega])
    have hb : 0 ≤ zs.getD k 0 ∧ zs.getD k 0 ≤ 255 := bounds_u8 hw
    refine ⟨by show (zs.getD k 0).toNat ≤ 255; omega, ?_⟩
    show w.cell? ⟨b, off + k, none⟩ = some (.int .u8 (((zs.getD k 0).toNat : Nat) : Int))
    rw [Int.toNat_of_nonneg hb.1]
    simpa [Addr.add_lit] using hck

theorem Vals.later {w w' : World} {A : Option Addr} {n : Nat} {f : Nat → Nat} (h : Vals w A n f) (hb : Below w.heap.size w w') : Byts w' w'.heap.size A n := (h.below hb).byts

end Go.Proofs.YtibekkfbpmloiabGreatDoor.Draw
