/- Parts of several texts of mine in one file (each begins with its own remark). -/
import Derived.Test.YtibekkfbpmloiabGreatDoorHA1
import Derived.Test.YtibekkfbpmloiabGreatDoorHA12
import Derived.Test.YtibekkfbpmloiabGreatDoorHA14
import Derived.Test.YtibekkfbpmloiabGreatDoorHA15
import Derived.Test.YtibekkfbpmloiabGreatDoorHA16
import Derived.Test.YtibekkfbpmloiabGreatDoorHA17
import Derived.Test.YtibekkfbpmloiabGreatDoorHA19
import Derived.Test.YtibekkfbpmloiabGreatDoorHA2
import Derived.Test.YtibekkfbpmloiabGreatDoorHA20
import Derived.Test.YtibekkfbpmloiabGreatDoorHA21
import Derived.Test.YtibekkfbpmloiabGreatDoorHA23
import Derived.Test.YtibekkfbpmloiabGreatDoorHA25
import Derived.Test.YtibekkfbpmloiabGreatDoorHA27
import Derived.Test.YtibekkfbpmloiabGreatDoorHA3
import Derived.Test.YtibekkfbpmloiabGreatDoorHA4
import Derived.Test.YtibekkfbpmloiabGreatDoorHA5
import Derived.Test.YtibekkfbpmloiabGreatDoorHA6
import Derived.Test.YtibekkfbpmloiabGreatDoorHA7
import Derived.Test.YtibekkfbpmloiabGreatDoorHA8
import Derived.Test.YtibekkfbpmloiabGreatDoorChecked
import Derived.Test.YtibekkfbpmloiabGreatDoorShelf
import Derived.Test.YtibekkfbpmloiabGreatDoorProg
import Derived.Test.YtibekkfbpmloiabGreatDoorRows
import Derived.Deep.AppendLies
import Derived.Laws.IdiomCopy
import Derived.BigRegion
import Derived.StillTailTactics
import Derived.Deep.Slices
import Derived.OpenShut
import Derived.ShutString
import Derived.ChangeArms
import Derived.WideShapes
import Derived.Lib.LaidTab
import Derived.BigQuiet
import Derived.Deep.QuietTactic
import Derived.Deep.RegionHeld3
import Derived.Deep.Draws
import Derived.Deep.LoopGhost
import Derived.WalkKit
import Derived.WalkSpells
import Derived.WalkSmall
import Derived.Lib.OthersKept
import Derived.Lib.Hide
import Derived.Lib.Strings
import Derived.Lib.Join
import Derived.Laws.OwnMore
import Derived.Laws.BytesArg
import Derived.Stop.LaidErr
import Derived.WalkLawsBesides
import Derived.LaidEql
import Derived.Stop.Asserts
import Derived.Below
import Derived.Stop.LaidTwo
import Derived.ChangeVars
import Derived.Deep.DeepHandedRow
import Derived.Deep.RegionWith
import Derived.OneCell
import Derived.Lib.SliceRun
import Derived.Lib.Overlaps
import Derived.Lib.AppendZerosOnto
import Derived.Laws.NewBlocks
import Derived.Deep.RegionLaw
import Derived.RangeFuncNested
import Derived.RangeFuncBound
import Derived.RangeFuncCalls
import Derived.RangeFuncLeaves
import Derived.RangeFuncBox
import Derived.Shelf.Abstract
import Derived.Shelf.RegionOpen
import Derived.OwnWalkIn
import Derived.TacticsInMore
import Derived.LoopNIn
import Derived.LoopIn
import Derived.Deep.Cut
import Derived.Deep.CutRange
import Derived.Deep.CutBlock
/- PathsOf, of the model. -/
namespace Go.Proofs.YtibekkfbpmloiabGreatDoor.Recs
set_option maxRecDepth 100000
open Go.RowKit Paths Errs

theorem vS_bts (P : List ByteArray) : (bts P).map strV = vS P ∧ (bts P).length = P.length := by
  unfold bts vS strV
  rw [List.map_map, List.length_map]
  exact ⟨rfl, rfl⟩
theorem StrRow.po {w : World} {b : Nat} {x : Value} {LL : List (List R)} (h : StrRow w b x (pathsL LL)) (h0 : codeS LL = 0) : w.ownsRow b 9 1 x (poR LL).length ((poR LL).map strV) := by
  rw [po_ok h0, (vS_bts _).1, (vS_bts _).2]
  exact h.1

set_option maxHeartbeats 1000000 in
theorem pathsOf_spec (v : Value) (LL : List (List R)) (w : World) (h : StkSl w v LL) (hl : LL.length ≤ 1048576) (hll : ∀ l ∈ LL, l.length ≤ 1048576) :
    Calls Tryz.prog 37 #[v] w fun e w' => ∃ z, e = .returned (.tuple #[z, .int .i64 (codeS LL)]) ∧ Below w.heap.size w w' ∧ w'.ownsRow w.heap.size 9 1 z (poR LL).length ((poR LL).map strV) := by
  have HS := Lib.hid h
  obtain ⟨vA, vcap, rfl⟩ := h.form
  have HOK := l05Stack_any _ LL w h hl hll
  have E0 : Hid (∀ W, Below w.heap.size w W → (W.alloc (.cells #[] 9)).ownsRow w.heap.size 9 1 (.slice (some ⟨W.heap.size, 0, none⟩) 0 0) 0 []) := fun W hW => World.ownsRow_lit W #[] 0 hW.size (Nat.zero_le _) rfl
  by_cases h1 : 4096 < LL.length
  · have hd : decide ((4096 : Int) < (LL.length : Int)) = true := by simp; omega
    have HC := Lib.hid (s_long h1)
    have HQ := Lib.hid (po_bad (s_long h1) (by decide))
    clear h1
    go_enter Tryz.func37, Tryz.ntmps37
    go_wp2_with fail
    go_ret2
    exact ⟨_, by rw [HC.out]; rfl, (Below.refl _ _).alloc (Nat.le_refl _) _, by rw [HQ.out]; exact E0.out _ (Below.refl _ _)⟩
  have hd1 : decide ((4096 : Int) < (LL.length : Int)) = false := by simp; omega
  cases ho : stackOK LL with
  | false =>
    have HC := Lib.hid (s_bad h1 ho)
    have HQ := Lib.hid (po_bad (s_bad h1 ho) (by decide))
    rw [ho] at HOK
    clear h1 ho
    go_enter Tryz.func37, Tryz.ntmps37
    go_wp2_with fail
    refine HOK.mono ?_
    rintro e w1 ⟨rfl, c0⟩
    go_wp2_with fail
    go_ret2
    exact ⟨_, by rw [HC.out]; rfl, c0.alloc c0.size _, by rw [HQ.out]; exact E0.out _ c0⟩
  | true =>
    have H0 := Lib.hid (s_ok h1 ho)
    have hst := stack_of ho
    have HAL := fun w' hb => l07Paths_any (.slice vA LL.length vcap) LL w' (HS.out.below hb) hst.1 hst.2
    rw [ho] at HOK
    clear h1 ho hst
    go_enter Tryz.func37, Tryz.ntmps37
    go_wp2_with fail
    refine HOK.mono ?_
    rintro e w1 ⟨rfl, c0⟩
    go_wp2_with fail
    refine (HAL _ c0).mono ?_
    rintro e w4 ⟨f, rfl, hb4, hf⟩
    have c4 := c0.trans (hb4.mono c0.size)
    go_wp2_with fail
    go_ret2
    exact ⟨_, by rw [H0.out]; rfl, c4, own_le (hf.po H0.out) c0.size⟩
end Go.Proofs.YtibekkfbpmloiabGreatDoor.Recs

/- The winner at a path, of the model; WinnerAt of the model. -/
namespace Go.Proofs.YtibekkfbpmloiabGreatDoor.Recs
set_option maxRecDepth 100000
open Go.RowKit Paths

theorem top_next {LL : List (List R)} {q : ByteArray} {m : Nat} (hm : m < LL.length) {r : R} {f : Nat} (hl : (r, f) = lastG (topG LL q (m + 1))) :
    (∀ x, recAt LL[m] q = some x → lastG (topG LL q m) = if f = 0 then (x, m + 1) else (r, f)) ∧ (recAt LL[m] q = none → topG LL q m = topG LL q (m + 1)) := by
  refine ⟨fun x hx => ?_, fun hn => ?_⟩
  · rw [top_step hm, hx]
    show lastG ((x, m + 1) :: topG LL q (m + 1)) = _
    rw [last_cons, ← hl]
    rcases last_num (LL := LL) (q := q) (i := m + 1) with ⟨h1, h2⟩ | ⟨h1, h2, _⟩
    · rw [← hl] at h2
      have hf : f = 0 := congrArg Prod.snd h2
      rw [if_pos ⟨hf, h1⟩, if_pos hf]
    · rw [← hl] at h2
      have hf : f ≠ 0 := by
        have : m + 1 < f := h2
        omega
      rw [if_neg (fun h => hf h.1), if_neg hf]
  · rw [top_step hm, hn]
theorem top_stops {LL : List (List R)} {q : ByteArray} {m : Nat} (hm : m < LL.length) {x : R} (hx : recAt LL[m] q = some x) (hst : stops x = false) (h : (topG LL q (m + 1)).any (fun p => stops p.1) = false) : (topG LL q m).any (fun p => stops p.1) = false := by
  rw [top_step hm, hx]
  show ((x, m + 1) :: topG LL q (m + 1)).any _ = false
  rw [List.any_cons, h, hst]
  rfl
theorem top_rec {LL : List (List R)} (hok : ∀ l ∈ LL, layerOK l = true) {q : ByteArray} {i : Nat} : ∀ p ∈ topG LL q i, p.1.fault = 0 := fun p hp => by
  obtain ⟨_, h2, h3⟩ := grpN_mem _ _ _ p hp
  have h4 := List.mem_of_mem_drop (List.getElem_mem h2)
  exact layer_rec (hok _ h4) h3
/-- Where a record stops: what is seen. -/
theorem win_stop {LL : List (List R)} (hok : ∀ l ∈ LL, layerOK l = true) {q : ByteArray} {m : Nat} (hm : m < LL.length) (hc : cutD LL q - 1 ≤ m) {x : R} (hx : recAt LL[m] q = some x) (hst : stops x = true) {r : R} {f : Nat} (hl : lastG (topG LL q m) = (r, f)) :
    winC LL q = ({ r with o := decide (r.k = 3) }, f) := by
  obtain ⟨P, hP⟩ := top_split hc (Nat.le_of_lt hm) q
  unfold winC
  rw [← top_consd, hP]
  have hT : topG LL q m = (x, m + 1) :: topG LL q (m + 1) := by rw [top_step hm, hx]
  rw [hT] at hl ⊢
  rw [over_stop (x := (x, m + 1)) hst ?_, hl]
  intro p hp hk
  rw [← hT] at hp
  have hf := top_rec hok p hp
  cases ho : p.1.o with
  | false => rfl
  | true => exact absurd ((fault_more hf).1 ho) hk
theorem win_end {LL : List (List R)} {q : ByteArray} (h : (topG LL q (cutD LL q - 1)).any (fun p => stops p.1) = false) : winC LL q = lastG (topG LL q (cutD LL q - 1)) := by
  unfold winC
  rw [← top_consd, over_quiet h]

set_option maxHeartbeats 6400000 in
theorem l07Winner_any (v : Value) (LL : List (List R)) (q : ByteArray) (w : World) (h : StkSl w v LL) (hl5 : LL.length ≤ 5) (hok : ∀ l ∈ LL, layerOK l = true) (hq : pathB q.data.toList = true) :
    Calls Tryz.prog 97 #[v, .string q] w fun e w' => e = .returned (.tuple #[(winC LL q).1.val, .int .i64 ((winC LL q).2 : Int)]) ∧ Below w.heap.size w w' := by
  have hl : LL.length ≤ 1048576 := by omega
  have hll : ∀ l ∈ LL, l.length ≤ 1048576 := fun l hm => by have := layer_len (hok l hm); omega
  have hb0 : Below w.heap.size w (w.alloc (.cells #[.int .i64 0, .string ByteArray.empty, .string ByteArray.empty, .int .i64 0, .bool false] 53)) := (Below.refl _ _).alloc (Nat.le_refl _) _
  have HRB : Hid (Rbox (w.alloc (.cells #[.int .i64 0, .string ByteArray.empty, .string ByteArray.empty, .int .i64 0, .bool false] 53)) w.heap.size zR) := alloc_here _ _
  have hsz0 : w.heap.size < (w.alloc (.cells #[.int .i64 0, .string ByteArray.empty, .string ByteArray.empty, .int .i64 0, .bool false] 53)).heap.size := by simp
  have HCU := l07Cut_any v LL q _ (h.below hb0) hl hll hq
  have HLL := Lib.hid hll
  have HOK := Lib.hid hok
  have HS := Lib.hid h
  obtain ⟨A, cap, rfl, hcap, h⟩ := h
  have H := Lib.hid h
  clear h hll hok
  have HCL := Lib.hid (cut_le LL q)
  obtain ⟨lo, hlo⟩ : ∃ lo : Nat, lo = max (cutD LL q) 1 := ⟨_, rfl⟩
  have hmx : max ((cutD LL q : Nat) : Int) 1 = (lo : Int) := by omega
  have hlo1 : 1 ≤ lo := by omega
  have HLC : Hid (lo - 1 = cutD LL q - 1) := by show _ = _; omega
  clear hlo
  go_enter Tryz.func97, Tryz.ntmps97
  go_wp2_with fail
  refine HCU.mono ?_
  rintro e w1 ⟨rfl, hb1⟩
  have c1 := hb0.trans (hb1.mono hb0.size)
  have HR1 := Lib.hid (HRB.out.below hb1 hsz0)
  have s1 : w.heap.size < w1.heap.size := Nat.lt_of_lt_of_le hsz0 hb1.size
  go_wp2_with fail
  go_loopw [8, 9] (fun fv i wr => ∃ (k f : Nat) (r : R), lo - 1 ≤ k ∧ k ≤ LL.length ∧ i = .int .i64 k ∧ fv = .int .i64 (f : Int) ∧ Hid ((topG LL q k).any (fun p => stops p.1) = false ∧ (r, f) = lastG (topG LL q k)) ∧ Hid (Rbox wr w1.heap.size r ∧ Rbox wr w.heap.size zR) ∧ Below w.heap.size w wr) (fun _ i _ => (intOf i).toNat)
  case atStart =>
    refine ⟨LL.length, 0, zR, by have := HCL.out; have := HLC.out; omega, Nat.le_refl _, rfl, rfl, ⟨by rw [top_end]; rfl, by rw [top_end]; rfl⟩, ⟨alloc_here _ _, (Below.heap_alloc _ _ _ s1).trans HR1.out⟩, c1.alloc c1.size _⟩
  case round =>
    obtain ⟨k, f, r, hk1, hk2, rfl, rfl, HT, HB, hbw⟩ := hrel
    have hz1 : w1.heap.size < wr.heap.size := HB.out.1.lt
    have hz0 : w.heap.size < wr.heap.size := HB.out.2.lt
    by_cases hlt : lo ≤ k
    · have hd : decide ((lo : Int) ≤ (k : Int)) = true := decide_eq_true (by omega)
      have hd' : decide (lo ≤ k) = true := decide_eq_true hlt
      obtain ⟨m, rfl⟩ : ∃ m, k = m + 1 := ⟨k - 1, by omega⟩
      have hkm : ((m + 1 : Nat) : Int) - 1 = (m : Int) := by omega
      have hkm2 : (((m : Nat) : Int) + 1) - 1 = (m : Int) := by omega
      obtain ⟨b, off, rfl, hbl, hcell⟩ := H.out (by omega)
      obtain ⟨u, hu0, hur⟩ := hcell m LL[m] (by rw [List.getElem?_eq_getElem (by omega)])
      have hu : wr.cell? ⟨b, off + m, none⟩ = some u := (hbw.cell (p := ⟨b, off + m, none⟩) hbl).trans hu0
      have hus := hur.below hbw
      have hi1 : (m : Int) < (LL.length : Int) := by omega
      have hi0 : (0 : Int) ≤ (m : Int) := by omega
      have HAT := l03At_any u LL[m] q wr hus (HLL.out _ (List.getElem_mem _))
      have HNX := Lib.hid (top_next (LL := LL) (q := q) (m := m) (by omega) HT.out.2)
      clear hcell hu0 hur
      rcases atL_recAt LL[m] q with ⟨ha, hn⟩ | ⟨j, hj, ha, hn⟩
      · rw [ha] at HAT
        have HT2 : Hid ((topG LL q m).any (fun p => stops p.1) = false ∧ (r, f) = lastG (topG LL q m)) := by
          show _ ∧ _
          rw [HNX.out.2 hn]
          exact HT.out
        obtain ⟨uA, ucap, rfl, -⟩ := hus
        go_wp2_with fail
        refine HAT.mono ?_
        rintro e w2 ⟨rfl, rfl⟩
        go_wp2_with fail
        exact ⟨⟨m, f, r, by omega, by omega, by go_num, rfl, HT2, HB, hbw⟩, by simp [intOf]⟩
      · rw [ha] at HAT
        obtain ⟨uA, ucap, rfl, huc, hur⟩ := hus
        obtain ⟨b2, off2, rfl, hb2, hcell2⟩ := hur (by omega)
        obtain ⟨x0, x1, x2, x3, x4⟩ := hcell2 j LL[m][j] (by rw [List.getElem?_eq_getElem hj])
        have HX := Lib.hid hn
        generalize hR : LL[m][j] = x at *
        have hj1 : (j : Int) < (LL[m].length : Int) := by omega
        have hj0 : (0 : Int) ≤ (j : Int) := by omega
        have HL2 := Lib.hid (HNX.out.1 x HX.out)
        clear hcell2 hn hur
        have eA : Below wr.heap.size wr (wr.alloc (.cells #[.int .i64 x.k, .string x.p, .string x.b, .int .i64 x.m, .bool x.o] 53)) := (Below.refl _ _).alloc (Nat.le_refl _) _
        have HBA : Hid (Rbox (wr.alloc (.cells #[.int .i64 x.k, .string x.p, .string x.b, .int .i64 x.m, .bool x.o] 53)) w1.heap.size r ∧ Rbox (wr.alloc (.cells #[.int .i64 x.k, .string x.p, .string x.b, .int .i64 x.m, .bool x.o] 53)) w.heap.size zR ∧ Rbox (wr.alloc (.cells #[.int .i64 x.k, .string x.p, .string x.b, .int .i64 x.m, .bool x.o] 53)) wr.heap.size x) := ⟨HB.out.1.below eA hz1, HB.out.2.below eA hz0, alloc_here _ _⟩
        go_wp2_with fail
        refine HAT.mono ?_
        rintro e w2 ⟨rfl, rfl⟩
        have hm : m < LL.length := by omega
        have hcm : cutD LL q - 1 ≤ m := by have := HLC.out; omega
        by_cases hf : f = 0
        · subst hf
          have q0 : ((0 : Nat) : Int) = 0 := rfl
          have HLL2 : Hid (lastG (topG LL q m) = (x, m + 1)) := HL2.out
          obtain ⟨⟨y0, y1, y2, y3, y4⟩, g0, g1, g2, g3, g4⟩ := HB.out.1.facts
          have HB2 : Hid (Rbox ((((((wr.setCell ⟨w1.heap.size, 0, none⟩ (.int .i64 x.k)).setCell ⟨w1.heap.size, 1, none⟩ (.string x.p)).setCell ⟨w1.heap.size, 2, none⟩ (.string x.b)).setCell ⟨w1.heap.size, 3, none⟩ (.int .i64 x.m)).setCell ⟨w1.heap.size, 4, none⟩ (.bool x.o)).alloc (.cells #[.int .i64 x.k, .string x.p, .string x.b, .int .i64 x.m, .bool x.o] 53)) w1.heap.size x ∧ Rbox ((((((wr.setCell ⟨w1.heap.size, 0, none⟩ (.int .i64 x.k)).setCell ⟨w1.heap.size, 1, none⟩ (.string x.p)).setCell ⟨w1.heap.size, 2, none⟩ (.string x.b)).setCell ⟨w1.heap.size, 3, none⟩ (.int .i64 x.m)).setCell ⟨w1.heap.size, 4, none⟩ (.bool x.o)).alloc (.cells #[.int .i64 x.k, .string x.p, .string x.b, .int .i64 x.m, .bool x.o] 53)) w.heap.size zR) := ⟨(Below.heap_alloc _ _ _ (HB.out.1.set x).lt).trans (HB.out.1.set x), (Below.heap_alloc _ _ _ (by simp; omega)).trans (by
            show Rbox _ _ _
            repeat (refine Rbox.other ?_ (by omega))
            exact HB.out.2)⟩
          have HBW : Hid (Below w.heap.size w ((((((wr.setCell ⟨w1.heap.size, 0, none⟩ (.int .i64 x.k)).setCell ⟨w1.heap.size, 1, none⟩ (.string x.p)).setCell ⟨w1.heap.size, 2, none⟩ (.string x.b)).setCell ⟨w1.heap.size, 3, none⟩ (.int .i64 x.m)).setCell ⟨w1.heap.size, 4, none⟩ (.bool x.o)).alloc (.cells #[.int .i64 x.k, .string x.p, .string x.b, .int .i64 x.m, .bool x.o] 53))) := Below.alloc (by
            repeat (refine Below.setCell ?_ (by have := c1.size; omega) _)
            exact hbw) (by simp; omega) _
          go_wp2_with fail
          clear y0 y1 y2 y3 y4 g0 g1 g2 g3 g4
          generalize (((((wr.setCell ⟨w1.heap.size, 0, none⟩ (.int .i64 x.k)).setCell ⟨w1.heap.size, 1, none⟩ (.string x.p)).setCell ⟨w1.heap.size, 2, none⟩ (.string x.b)).setCell ⟨w1.heap.size, 3, none⟩ (.int .i64 x.m)).setCell ⟨w1.heap.size, 4, none⟩ (.bool x.o)).alloc (.cells #[.int .i64 x.k, .string x.p, .string x.b, .int .i64 x.m, .bool x.o] 53) = W2 at *
          have HST := l06Stops_any x W2
          unfold R.val at HST
          rcases Bool.eq_false_or_eq_true (stops x) with hst | hst
          · rw [hst] at HST
            have HE := Lib.hid (win_stop HOK.out hm hcm HX.out hst HLL2.out)
            go_wp2_with fail
            refine HST.mono ?_
            rintro e w3 ⟨rfl, hb3⟩
            have HR3 := Lib.hid (HB2.out.1.below hb3 HB2.out.1.lt)
            have HZ3 := Lib.hid (HB2.out.2.below hb3 HB2.out.2.lt)
            have c3 := HBW.out.trans (hb3.mono HBW.out.size)
            obtain ⟨⟨y0, y1, y2, y3, y4⟩, g0, g1, g2, g3, g4⟩ := HR3.out.facts
            obtain ⟨⟨z0, z1, z2, z3, z4⟩, f0, f1, f2, f3, f4⟩ := HZ3.out.facts
            have HF : Hid (Rbox ((((((w3.setCell ⟨w1.heap.size, 4, none⟩ (.bool (x.k == 3))).setCell ⟨w.heap.size, 0, none⟩ (.int .i64 x.k)).setCell ⟨w.heap.size, 1, none⟩ (.string x.p)).setCell ⟨w.heap.size, 2, none⟩ (.string x.b)).setCell ⟨w.heap.size, 3, none⟩ (.int .i64 x.m)).setCell ⟨w.heap.size, 4, none⟩ (.bool (x.k == 3))) w.heap.size { x with o := x.k == 3 }) := Rbox.set (p := zR) (HZ3.out.other (by omega)) { x with o := x.k == 3 }
            have HB3 : Hid (Below w.heap.size w ((((((w3.setCell ⟨w1.heap.size, 4, none⟩ (.bool (x.k == 3))).setCell ⟨w.heap.size, 0, none⟩ (.int .i64 x.k)).setCell ⟨w.heap.size, 1, none⟩ (.string x.p)).setCell ⟨w.heap.size, 2, none⟩ (.string x.b)).setCell ⟨w.heap.size, 3, none⟩ (.int .i64 x.m)).setCell ⟨w.heap.size, 4, none⟩ (.bool (x.k == 3)))) := by
              show Below _ _ _
              repeat (refine Below.setCell ?_ (by first | (simp; done) | (have := c1.size; simp; omega)) _)
              exact c3
            go_wp2_with fail
            generalize ((((((w3.setCell ⟨w1.heap.size, 4, none⟩ (.bool (x.k == 3))).setCell ⟨w.heap.size, 0, none⟩ (.int .i64 x.k)).setCell ⟨w.heap.size, 1, none⟩ (.string x.p)).setCell ⟨w.heap.size, 2, none⟩ (.string x.b)).setCell ⟨w.heap.size, 3, none⟩ (.int .i64 x.m)).setCell ⟨w.heap.size, 4, none⟩ (.bool (x.k == 3))) = WF at *
            obtain ⟨⟨q0, q1, q2, q3, q4⟩, -⟩ := HF.out.facts
            dsimp only at q0 q1 q2 q3 q4
            exact bodyPost_ret (v := .tuple #[R.val { x with o := x.k == 3 }, .int .i64 ((m : Int) + 1)]) (by simp [results, Tryz.results97, go_sem, R.val, q0, q1, q2, q3, q4]) rfl ⟨by rw [HE.out]; rfl, HB3.out⟩
          · rw [hst] at HST
            have HT2 : Hid ((topG LL q m).any (fun p => stops p.1) = false ∧ (x, (m + 1)) = lastG (topG LL q m)) := ⟨top_stops hm HX.out hst HT.out.1, HLL2.out.symm⟩
            go_wp2_with fail
            refine HST.mono ?_
            rintro e w3 ⟨rfl, hb3⟩
            have HR3 := Lib.hid (HB2.out.1.below hb3 HB2.out.1.lt)
            have HZ3 := Lib.hid (HB2.out.2.below hb3 HB2.out.2.lt)
            have c3 := HBW.out.trans (hb3.mono HBW.out.size)
            go_wp2_with fail
            exact ⟨⟨m, (m + 1), x, by omega, by omega, by go_num, by go_num, HT2, ⟨HR3.out, HZ3.out⟩, c3⟩, by simp [intOf]⟩
        · have q0 : (((f : Nat) : Int) == 0) = false := by simp; omega
          have q0' : (f == 0) = false := by simpa using hf
          have HLL2 : Hid (lastG (topG LL q m) = (r, f)) := by
            have h2 := HL2.out
            rw [if_neg hf] at h2
            exact h2
          have HB2 : Hid (Rbox (wr.alloc (.cells #[.int .i64 x.k, .string x.p, .string x.b, .int .i64 x.m, .bool x.o] 53)) w1.heap.size r ∧ Rbox (wr.alloc (.cells #[.int .i64 x.k, .string x.p, .string x.b, .int .i64 x.m, .bool x.o] 53)) w.heap.size zR) := ⟨HBA.out.1, HBA.out.2.1⟩
          have HBW : Hid (Below w.heap.size w (wr.alloc (.cells #[.int .i64 x.k, .string x.p, .string x.b, .int .i64 x.m, .bool x.o] 53))) := hbw.trans (eA.mono hbw.size)
          go_wp2_with fail
          generalize wr.alloc (.cells #[.int .i64 x.k, .string x.p, .string x.b, .int .i64 x.m, .bool x.o] 53) = W2 at *
          have HST := l06Stops_any x W2
          unfold R.val at HST
          rcases Bool.eq_false_or_eq_true (stops x) with hst | hst
          · rw [hst] at HST
            have HE := Lib.hid (win_stop HOK.out hm hcm HX.out hst HLL2.out)
            go_wp2_with fail
            refine HST.mono ?_
            rintro e w3 ⟨rfl, hb3⟩
            have HR3 := Lib.hid (HB2.out.1.below hb3 HB2.out.1.lt)
            have HZ3 := Lib.hid (HB2.out.2.below hb3 HB2.out.2.lt)
            have c3 := HBW.out.trans (hb3.mono HBW.out.size)
            obtain ⟨⟨y0, y1, y2, y3, y4⟩, g0, g1, g2, g3, g4⟩ := HR3.out.facts
            obtain ⟨⟨z0, z1, z2, z3, z4⟩, f0, f1, f2, f3, f4⟩ := HZ3.out.facts
            have HF : Hid (Rbox ((((((w3.setCell ⟨w1.heap.size, 4, none⟩ (.bool (r.k == 3))).setCell ⟨w.heap.size, 0, none⟩ (.int .i64 r.k)).setCell ⟨w.heap.size, 1, none⟩ (.string r.p)).setCell ⟨w.heap.size, 2, none⟩ (.string r.b)).setCell ⟨w.heap.size, 3, none⟩ (.int .i64 r.m)).setCell ⟨w.heap.size, 4, none⟩ (.bool (r.k == 3))) w.heap.size { r with o := r.k == 3 }) := Rbox.set (p := zR) (HZ3.out.other (by omega)) { r with o := r.k == 3 }
            have HB3 : Hid (Below w.heap.size w ((((((w3.setCell ⟨w1.heap.size, 4, none⟩ (.bool (r.k == 3))).setCell ⟨w.heap.size, 0, none⟩ (.int .i64 r.k)).setCell ⟨w.heap.size, 1, none⟩ (.string r.p)).setCell ⟨w.heap.size, 2, none⟩ (.string r.b)).setCell ⟨w.heap.size, 3, none⟩ (.int .i64 r.m)).setCell ⟨w.heap.size, 4, none⟩ (.bool (r.k == 3)))) := by
              show Below _ _ _
              repeat (refine Below.setCell ?_ (by first | (simp; done) | (have := c1.size; simp; omega)) _)
              exact c3
            go_wp2_with fail
            generalize ((((((w3.setCell ⟨w1.heap.size, 4, none⟩ (.bool (r.k == 3))).setCell ⟨w.heap.size, 0, none⟩ (.int .i64 r.k)).setCell ⟨w.heap.size, 1, none⟩ (.string r.p)).setCell ⟨w.heap.size, 2, none⟩ (.string r.b)).setCell ⟨w.heap.size, 3, none⟩ (.int .i64 r.m)).setCell ⟨w.heap.size, 4, none⟩ (.bool (r.k == 3))) = WF at *
            obtain ⟨⟨q0, q1, q2, q3, q4⟩, -⟩ := HF.out.facts
            dsimp only at q0 q1 q2 q3 q4
            exact bodyPost_ret (v := .tuple #[R.val { r with o := r.k == 3 }, .int .i64 (f : Int)]) (by simp [results, Tryz.results97, go_sem, R.val, q0, q1, q2, q3, q4]) rfl ⟨by rw [HE.out]; rfl, HB3.out⟩
          · rw [hst] at HST
            have HT2 : Hid ((topG LL q m).any (fun p => stops p.1) = false ∧ (r, f) = lastG (topG LL q m)) := ⟨top_stops hm HX.out hst HT.out.1, HLL2.out.symm⟩
            go_wp2_with fail
            refine HST.mono ?_
            rintro e w3 ⟨rfl, hb3⟩
            have HR3 := Lib.hid (HB2.out.1.below hb3 HB2.out.1.lt)
            have HZ3 := Lib.hid (HB2.out.2.below hb3 HB2.out.2.lt)
            have c3 := HBW.out.trans (hb3.mono HBW.out.size)
            go_wp2_with fail
            exact ⟨⟨m, f, r, by omega, by omega, by go_num, by go_num, HT2, ⟨HR3.out, HZ3.out⟩, c3⟩, by simp [intOf]⟩
    · have hk0 : k = lo - 1 := by omega
      have HE : Hid (winC LL q = (r, f)) := by
        show _ = _
        have h1 := HT.out
        rw [hk0, HLC.out] at h1
        rw [win_end h1.1, ← h1.2]
      have hd : decide ((lo : Int) ≤ (k : Int)) = false := decide_eq_false (by omega)
      have hd' : decide (lo ≤ k) = false := decide_eq_false hlt
      obtain ⟨⟨y0, y1, y2, y3, y4⟩, g0, g1, g2, g3, g4⟩ := HB.out.1.facts
      obtain ⟨⟨z0, z1, z2, z3, z4⟩, f0, f1, f2, f3, f4⟩ := HB.out.2.facts
      have HF : Hid (Rbox (((((wr.setCell ⟨w.heap.size, 0, none⟩ (.int .i64 r.k)).setCell ⟨w.heap.size, 1, none⟩ (.string r.p)).setCell ⟨w.heap.size, 2, none⟩ (.string r.b)).setCell ⟨w.heap.size, 3, none⟩ (.int .i64 r.m)).setCell ⟨w.heap.size, 4, none⟩ (.bool r.o)) w.heap.size r) := HB.out.2.set r
      have HB3 : Hid (Below w.heap.size w (((((wr.setCell ⟨w.heap.size, 0, none⟩ (.int .i64 r.k)).setCell ⟨w.heap.size, 1, none⟩ (.string r.p)).setCell ⟨w.heap.size, 2, none⟩ (.string r.b)).setCell ⟨w.heap.size, 3, none⟩ (.int .i64 r.m)).setCell ⟨w.heap.size, 4, none⟩ (.bool r.o))) := by
        show Below _ _ _
        repeat (refine Below.setCell ?_ (by simp) _)
        exact hbw
      go_wp2_with fail
      generalize (((((wr.setCell ⟨w.heap.size, 0, none⟩ (.int .i64 r.k)).setCell ⟨w.heap.size, 1, none⟩ (.string r.p)).setCell ⟨w.heap.size, 2, none⟩ (.string r.b)).setCell ⟨w.heap.size, 3, none⟩ (.int .i64 r.m)).setCell ⟨w.heap.size, 4, none⟩ (.bool r.o)) = WF at *
      obtain ⟨⟨q0, q1, q2, q3, q4⟩, -⟩ := HF.out.facts
      exact bodyPost_ret (v := .tuple #[r.val, .int .i64 (f : Int)]) (by simp [results, Tryz.results97, go_sem, R.val, q0, q1, q2, q3, q4]) rfl ⟨by rw [HE.out], HB3.out⟩
end Go.Proofs.YtibekkfbpmloiabGreatDoor.Recs
