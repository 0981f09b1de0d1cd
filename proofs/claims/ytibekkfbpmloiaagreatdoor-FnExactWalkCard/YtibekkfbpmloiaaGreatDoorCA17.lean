/- Parts of several texts of mine in one file (each begins with its own remark). -/
import Derived.Test.YtibekkfbpmloiaaGreatDoorCA1
import Derived.Test.YtibekkfbpmloiaaGreatDoorCA10
import Derived.Test.YtibekkfbpmloiaaGreatDoorCA11
import Derived.Test.YtibekkfbpmloiaaGreatDoorCA12
import Derived.Test.YtibekkfbpmloiaaGreatDoorCA13
import Derived.Test.YtibekkfbpmloiaaGreatDoorCA14
import Derived.Test.YtibekkfbpmloiaaGreatDoorCA15
import Derived.Test.YtibekkfbpmloiaaGreatDoorCA16
import Derived.Test.YtibekkfbpmloiaaGreatDoorCA2
import Derived.Test.YtibekkfbpmloiaaGreatDoorCA3
import Derived.Test.YtibekkfbpmloiaaGreatDoorCA4
import Derived.Test.YtibekkfbpmloiaaGreatDoorCA5
import Derived.Test.YtibekkfbpmloiaaGreatDoorCA6
import Derived.Test.YtibekkfbpmloiaaGreatDoorCA7
import Derived.Test.YtibekkfbpmloiaaGreatDoorCA8
import Derived.Test.YtibekkfbpmloiaaGreatDoorChecked
import Derived.Test.YtibekkfbpmloiaaGreatDoorShelf
import Derived.Test.YtibekkfbpmloiaaGreatDoorProg
import Derived.Test.YtibekkfbpmloiaaGreatDoorRows
import Derived.Deep.Slices
import Derived.OpenShut
import Derived.ShutString
import Derived.ChangeArms
import Derived.WideShapes
import Derived.Lib.LaidTab
import Derived.BigQuiet
import Derived.Deep.QuietTactic
import Derived.Deep.RegionHeld3
import Derived.StillTailTactics
import Derived.Deep.Draws
import Derived.Deep.LoopGhost
import Derived.WalkKit
import Derived.WalkSpells
import Derived.WalkSmall
import Derived.Lib.OthersKept
import Derived.Lib.Hide
import Derived.Lib.Strings
import Derived.Lib.Join
import Derived.Laws.OwnMore
import Derived.BigRegion
import Derived.Laws.BytesArg
import Derived.WalkLawsBesides
import Derived.RangeFuncNested
import Derived.RangeFuncBound
import Derived.RangeFuncCalls
import Derived.RangeFuncLeaves
import Derived.RangeFuncBox
import Derived.Shelf.Abstract
import Derived.Shelf.RegionOpen
import Derived.OwnWalkIn
import Derived.TacticsInMore
import Derived.LoopNIn
import Derived.LoopIn
import Derived.Stop.LaidErr
import Derived.LaidEql
import Derived.Stop.Asserts
import Derived.Below
import Derived.Stop.LaidTwo
import Derived.ChangeVars
import Derived.Deep.DeepHandedRow
import Derived.Deep.RegionWith
import Derived.OneCell
import Derived.Lib.SliceRun
import Derived.Lib.Overlaps
import Derived.Lib.AppendZerosOnto
import Derived.Laws.NewBlocks
import Derived.Laws.IdiomCopy
import Derived.Deep.RegionLaw
/- Queries: resolving a path, the code of a call, of the model; LookUp, LayerOf, ReadFile, ReadLink of the model. -/
namespace Go.Proofs.YtibekkfbpmloiaaGreatDoor.Recs
set_option maxRecDepth 100000
open Go.RowKit Paths

def resQ (F : (R × Nat) × Int) : Value := .tuple #[F.1.1.nod, .int .i64 (F.1.2 : Int), .int .i64 F.2]
theorem seen_zero {p : R × Nat} (h : p.2 = 0) : seenP p = false := by unfold seenP; rw [h]; rfl
theorem seen_white {p : R × Nat} (h : p.1.k = 4) : seenP p = false := by unfold seenP; rw [h]; simp
theorem seen_yes {p : R × Nat} (h : p.2 ≠ 0) (hk : p.1.k ≠ 4) : seenP p = true := seenP_iff.2 ⟨by omega, hk⟩

set_option maxHeartbeats 3200000 in
theorem l10Node_any (v : Value) (LL : List (List R)) (q : ByteArray) (w : World) (h : StkSl w v LL) (hl5 : LL.length ≤ 5) (hok : ∀ l ∈ LL, layerOK l = true) (hq : pathB q.data.toList = true) :
    Calls Tryz.prog 47 #[v, .string q] w fun e w' => e = .returned (resQ (qFrom LL q 0)) ∧ Below w.heap.size w w' := by
  have hb0 : Below w.heap.size w (w.alloc (.cells #[.int .i64 0, .string ByteArray.empty, .string ByteArray.empty, .int .i64 0] 25)) := (Below.refl _ _).alloc (Nat.le_refl _) _
  have hsz : q.size ≤ 35 := by rw [Lib.size_eq]; exact pathB_len hq
  have HWI : Hid (∀ p W, pathB p.data.toList = true → Below w.heap.size w W → Calls Tryz.prog 55 #[v, .string p] W fun e w' => e = .returned (.tuple #[(winC LL p).1.val, .int .i64 ((winC LL p).2 : Int)]) ∧ Below W.heap.size W w') := fun p W hp hb => l07Winner_any v LL p W (h.below hb) hl5 hok hp
  have HN : Hid (nparts q = (cutAt 47 q.data.toList).length) := rfl
  have HPP : Hid (∀ k, pathB (pre q k).data.toList = true) := fun k => pre_path hq k
  have h4 := (pathB_parts hq).1
  obtain ⟨vA, vcap, rfl⟩ := h.form
  clear h
  go_enter Tryz.func47, Tryz.ntmps47
  go_wp2_with fail
  refine (l00Cut_any q 47 47 rfl _ (by omega)).mono ?_
  rintro e w1 ⟨v1, rfl, hb1, hown⟩
  have hv := part_sl hown
  obtain ⟨pA, pc, rfl, hpc, hpv⟩ := hv
  have HP : Hid (0 < (cutAt 47 q.data.toList).length → ∃ g, pA = some ⟨g, 0, none⟩ ∧ g < w1.heap.size ∧ ∀ i x, (cutAt 47 q.data.toList)[i]? = some x → w1.cell? ⟨g, i, none⟩ = some (strV x)) := fun h0 => by
    obtain ⟨g, e, hg, hc⟩ := hpv h0
    exact ⟨g, e, hg, fun i x hx => by obtain ⟨hi, rfl⟩ := List.getElem?_eq_some_iff.1 hx; exact hc i hi⟩
  have c1 := hb0.trans (hb1.mono hb0.size)
  have hz1 : w.heap.size < w1.heap.size := by have := hb1.size; simp at this; omega
  have hc1 := fun o => (bcell hb1).1 w.heap.size o (by simp)
  have hf1 := fun o => (bcell hb1).2 w.heap.size o (by simp)
  have n0 : w1.cell? ⟨w.heap.size, 0, none⟩ = some (.int .i64 0) := by rw [hc1]; go_simp
  have n1 : w1.cell? ⟨w.heap.size, 1, none⟩ = some (.string ByteArray.empty) := by rw [hc1]; go_simp; rfl
  have n2 : w1.cell? ⟨w.heap.size, 2, none⟩ = some (.string ByteArray.empty) := by rw [hc1]; go_simp; rfl
  have n3 : w1.cell? ⟨w.heap.size, 3, none⟩ = some (.int .i64 0) := by rw [hc1]; go_simp
  have m0 : w1.frozen? ⟨w.heap.size, 0, none⟩ = false := by rw [hf1]; go_simp
  have m1 : w1.frozen? ⟨w.heap.size, 1, none⟩ = false := by rw [hf1]; go_simp
  have m2 : w1.frozen? ⟨w.heap.size, 2, none⟩ = false := by rw [hf1]; go_simp
  have m3 : w1.frozen? ⟨w.heap.size, 3, none⟩ = false := by rw [hf1]; go_simp
  have HZ : Hid (∀ W, Below w1.heap.size w1 W → (W.cell? ⟨w.heap.size, 0, none⟩ = some (.int .i64 0) ∧ W.cell? ⟨w.heap.size, 1, none⟩ = some (.string ByteArray.empty) ∧ W.cell? ⟨w.heap.size, 2, none⟩ = some (.string ByteArray.empty) ∧ W.cell? ⟨w.heap.size, 3, none⟩ = some (.int .i64 0)) ∧ W.frozen? ⟨w.heap.size, 0, none⟩ = false ∧ W.frozen? ⟨w.heap.size, 1, none⟩ = false ∧ W.frozen? ⟨w.heap.size, 2, none⟩ = false ∧ W.frozen? ⟨w.heap.size, 3, none⟩ = false) := fun W hb =>
    ⟨⟨((bcell hb).1 _ 0 hz1).trans n0, ((bcell hb).1 _ 1 hz1).trans n1, ((bcell hb).1 _ 2 hz1).trans n2, ((bcell hb).1 _ 3 hz1).trans n3⟩, ((bcell hb).2 _ 0 hz1).trans m0, ((bcell hb).2 _ 1 hz1).trans m1, ((bcell hb).2 _ 2 hz1).trans m2, ((bcell hb).2 _ 3 hz1).trans m3⟩
  clear hpv hown hc1 hf1 n0 n1 n2 n3 m0 m1 m2 m3
  generalize hL : (cutAt 47 q.data.toList).length = L at *
  have HLE := Lib.hid hL
  clear hL
  go_wp2
  go_loopw [8, 9] (fun p i wr => ∃ k : Nat, k ≤ L ∧ i = .int .i64 k ∧ p = .string (preP q k) ∧ Hid (qFrom LL q 0 = qFrom LL q k) ∧ Below w1.heap.size w1 wr) (fun _ i _ => L - (intOf i).toNat)
  case atStart => exact ⟨0, by omega, rfl, rfl, rfl, Below.refl _ _⟩
  case round =>
    obtain ⟨k, hk, rfl, rfl, HK, hbw⟩ := hrel
    have cw := c1.trans (hbw.mono c1.size)
    have hnl := HN.out
    by_cases hlt : k < L
    · obtain ⟨g, rfl, hg, hcell⟩ := HP.out (by have := HLE.out; omega)
      have e0 := hcell k _ (List.getElem?_eq_getElem (by have := HLE.out; omega))
      have e1 := (hbw.cell (p := ⟨g, k, none⟩) hg).trans e0
      have HJ := join_step q hq k (by have := HLE.out; omega) wr
      unfold strV at e1
      have hi1 : (k : Int) < (L : Int) := by omega
      have hi0 : (0 : Int) ≤ (k : Int) := by omega
      have HW := HWI.out (pre q k) wr (HPP.out k) cw
      have HLA := Lib.hid (fun h1 => qFrom_last (LL := LL) (q := q) (i := k) h1)
      have HNO := Lib.hid (fun h1 => qFrom_none (LL := LL) (q := q) (i := k) h1)
      have HSO := Lib.hid (fun h1 => qFrom_stop (LL := LL) (q := q) (i := k) h1)
      have HSE := Lib.hid (fun h1 => qFrom_step (LL := LL) (q := q) (i := k) h1)
      unfold R.val at HW
      clear hcell e0
      generalize winC LL (pre q k) = P at *
      obtain ⟨r, n⟩ := P
      dsimp only at HW HLA HNO HSO HSE
      go_wp2_with fail
      refine HJ.mono ?_
      rintro e w2 ⟨rfl, rfl⟩
      go_wp2_with fail
      refine HW.mono ?_
      rintro e w3 ⟨rfl, hb3⟩
      have d3 := hbw.trans (hb3.mono hbw.size)
      have cA := d3.alloc d3.size (.cells #[.int .i64 r.k, .string r.p, .string r.b, .int .i64 r.m, .bool r.o] 53)
      have cB := c1.trans (cA.mono c1.size)
      obtain ⟨⟨z0, z1, z2, z3⟩, f0, f1, f2, f3⟩ := HZ.out _ cA
      by_cases hn0 : n = 0
      · have HE := Lib.hid (HK.out.trans (HNO.out (by omega) (seen_zero hn0)))
        subst hn0
        go_wp2_with fail
        refine bodyPost_ret (v := .tuple #[.agg #[.int .i64 0, .string ⟨#[]⟩, .string ⟨#[]⟩, .int .i64 0], .int .i64 0, .int .i64 5]) (by simp [results, Tryz.results47, go_sem, z0, z1, z2, z3]) rfl ⟨by rw [HE.out]; rfl, ?_⟩
        repeat (refine Below.setCell ?_ (by simp) _)
        exact cB
      · have hd0 : ((n : Int) == 0) = false := by simp; omega
        have hd0' : (n == 0) = false := by simpa using hn0
        by_cases hk4 : r.k = 4
        · have HE := Lib.hid (HK.out.trans (HNO.out (by omega) (seen_white hk4)))
          have hd4 : (r.k == 4) = true := by simpa using hk4
          clear hk4
          go_wp2_with fail
          refine bodyPost_ret (v := .tuple #[.agg #[.int .i64 0, .string ⟨#[]⟩, .string ⟨#[]⟩, .int .i64 0], .int .i64 0, .int .i64 5]) (by simp [results, Tryz.results47, go_sem, z0, z1, z2, z3]) rfl ⟨by rw [HE.out]; rfl, ?_⟩
          repeat (refine Below.setCell ?_ (by simp) _)
          exact cB
        · have hd4 : (r.k == 4) = false := by simpa using hk4
          have HS : Hid (seenP (r, n) = true) := seen_yes hn0 hk4
          clear hk4
          by_cases hla : k + 1 = L
          · have HE := Lib.hid (HK.out.trans (HLA.out (by omega) HS.out))
            have hd : ((k : Int) == (L : Int) - 1) = true := by simp; omega
            have HNO2 := fun W => l04Node_any r W
            unfold R.val at HNO2
            go_wp2_with fail
            refine (HNO2 _).mono ?_
            rintro e w5 ⟨rfl, hb5⟩
            have cC := cA.trans (hb5.mono cA.size)
            obtain ⟨⟨z0, z1, z2, z3⟩, f0, f1, f2, f3⟩ := HZ.out _ cC
            unfold R.nod
            go_wp2_with fail
            refine bodyPost_ret (v := resQ ((r, n), 0)) (by simp [results, Tryz.results47, go_sem, z0, z1, z2, z3, resQ, R.nod]) rfl ⟨by rw [HE.out], ?_⟩
            repeat (refine Below.setCell ?_ (by simp) _)
            exact c1.trans (cC.mono c1.size)
          · have hd : ((k : Int) == (L : Int) - 1) = false := by simp; omega
            by_cases h3 : r.k = 3
            · have HE := Lib.hid (HK.out.trans (HSE.out (by omega) HS.out h3))
              have hd3 : (r.k != 3) = false := by simpa using h3
              clear h3
              go_wp2_with fail
              exact ⟨⟨k + 1, by omega, by go_num, rfl, HE, cA⟩, by simp [intOf]; omega⟩
            · have HE := Lib.hid (HK.out.trans (HSO.out (by omega) HS.out h3))
              have hd3 : (r.k != 3) = true := by simpa using h3
              clear h3
              go_wp2_with fail
              refine bodyPost_ret (v := .tuple #[.agg #[.int .i64 0, .string ⟨#[]⟩, .string ⟨#[]⟩, .int .i64 0], .int .i64 0, .int .i64 13]) (by simp [results, Tryz.results47, go_sem, z0, z1, z2, z3]) rfl ⟨by rw [HE.out]; rfl, ?_⟩
              repeat (refine Below.setCell ?_ (by simp) _)
              exact cB
    · have hpos := nparts_pos q
      have HE : Hid (qFrom LL q 0 = ((zR, 0), 5)) := by show _ = _; rw [HK.out, qFrom, if_neg (by have := HLE.out; omega)]
      have hi1 : ¬ ((k : Int) < (L : Int)) := by omega
      obtain ⟨⟨z0, z1, z2, z3⟩, f0, f1, f2, f3⟩ := HZ.out _ hbw
      go_wp2_with fail
      refine bodyPost_ret (v := .tuple #[.agg #[.int .i64 0, .string ⟨#[]⟩, .string ⟨#[]⟩, .int .i64 0], .int .i64 0, .int .i64 5]) (by simp [results, Tryz.results47, go_sem, z0, z1, z2, z3]) rfl ⟨by rw [HE.out]; rfl, ?_⟩
      repeat (refine Below.setCell ?_ (by simp) _)
      exact cw

/-- The code of a call with a stack and a path, or the root. -/
def codeQ (LL : List (List R)) (q : ByteArray) : Int := if codeST LL q ≠ 0 then codeST LL q else if q.size = 0 then 0 else if pathB q.data.toList then 0 else 10
theorem cq_bad {LL : List (List R)} {q : ByteArray} {c : Int} (h : codeST LL q = c) (hc : c ≠ 0) : codeQ LL q = c := by unfold codeQ; rw [if_pos (by rw [h]; exact hc), h]
theorem cq_root {LL : List (List R)} {q : ByteArray} (h : codeST LL q = 0) (hq : q.size = 0) : codeQ LL q = 0 := by unfold codeQ; rw [if_neg (by simpa using h), if_pos hq]
theorem cq_name {LL : List (List R)} {q : ByteArray} (h : codeST LL q = 0) (h0 : q.size ≠ 0) (hq : pathB q.data.toList = false) : codeQ LL q = 10 := by unfold codeQ; rw [if_neg (by simpa using h), if_neg h0, hq]; rfl
theorem cq_fine {LL : List (List R)} {q : ByteArray} (h : codeST LL q = 0) (hq : pathB q.data.toList = true) : codeQ LL q = 0 := by
  unfold codeQ; rw [if_neg (by simpa using h), if_neg (fun e => by rw [pathB_empty e] at hq; cases hq), hq]; rfl
theorem cq_sp {LL : List (List R)} {q : ByteArray} (h : q.size ≠ 0) : codeQ LL q = codeSP LL q := by unfold codeQ codeSP; rw [if_neg h]
theorem cq_ok {LL : List (List R)} {q : ByteArray} (h : codeQ LL q = 0) : stackOK LL = true ∧ (q.size = 0 ∨ pathB q.data.toList = true) := by
  unfold codeQ at h
  split at h
  · rename_i hn; exact absurd h hn
  · rename_i hn
    refine ⟨(st_ok (by simpa using hn)).1, ?_⟩
    split at h
    · exact .inl (by assumption)
    · split at h
      · exact .inr (by assumption)
      · cases h
def qR (LL : List (List R)) (q : ByteArray) : (R × Nat) × Int := if codeQ LL q ≠ 0 then ((zR, 0), codeQ LL q) else findQ LL q
theorem qR_bad {LL : List (List R)} {q : ByteArray} {c : Int} (h : codeQ LL q = c) (hc : c ≠ 0) : qR LL q = ((zR, 0), c) := by unfold qR; rw [if_pos (by rw [h]; exact hc), h]
theorem qR_ok {LL : List (List R)} {q : ByteArray} (h : codeQ LL q = 0) : qR LL q = findQ LL q := by unfold qR; rw [if_neg (by simpa using h)]

theorem seen_fault {LL : List (List R)} (hs : ∀ l ∈ LL, Fine l) {q : ByteArray} (h : seenP (winC LL q) = true) : (winC LL q).1.fault = 0 :=
  winL_fault hs _ (List.mem_map.2 ⟨winC LL q, wins_mem.2 ⟨q, seen_in hs h, rfl, (seenP_iff.1 h).1⟩, rfl⟩)
theorem find_size {LL : List (List R)} {q : ByteArray} (h : codeQ LL q = 0) : (findQ LL q).1.1.b.size ≤ 20 := by
  have hs : ∀ l ∈ LL, Fine l := fun l hl => fine_layer ((stack_of (cq_ok h).1).2 l hl)
  by_cases h0 : q.size = 0
  · rw [findQ_root h0]; exact Nat.zero_le _
  · rcases findQ_code LL q h0 with ⟨_, h2, h3⟩ | ⟨h1, _⟩
    · rw [h3] at h2 ⊢
      exact (fault_path (seen_fault hs h2)).2.2.2
    · rw [h1]; exact Nat.zero_le _

set_option maxHeartbeats 800000 in
theorem l10Ask_any (v : Value) (LL : List (List R)) (q : ByteArray) (w : World) (h : StkSl w v LL) (hl : LL.length ≤ 1048576) (hll : ∀ l ∈ LL, l.length ≤ 1048576) :
    Calls Tryz.prog 30 #[v, .string q] w fun e w' => e = .returned (.int .i64 (codeQ LL q)) ∧ Below w.heap.size w w' := by
  have HOK := l05Stack_any _ LL w h hl hll
  obtain ⟨vA, vcap, rfl⟩ := h.form
  by_cases h1 : 4096 < LL.length
  · have hd : decide ((4096 : Int) < (LL.length : Int)) = true := decide_eq_true (by omega)
    have HE := Lib.hid (cq_bad (st_long (q := q) (.inl h1)) (by decide))
    clear h1
    go_enter Tryz.func30, Tryz.ntmps30
    go_wp2_with fail
    go_ret
    exact ⟨by rw [HE.out]; rfl, Below.refl _ _⟩
  have hd1 : decide ((4096 : Int) < (LL.length : Int)) = false := decide_eq_false (by omega)
  by_cases h2 : 65536 < q.size
  · have hd : decide ((65536 : Int) < (q.size : Int)) = true := decide_eq_true (by omega)
    have HE := Lib.hid (cq_bad (st_long (LL := LL) (.inr h2)) (by decide))
    clear h1 h2
    go_enter Tryz.func30, Tryz.ntmps30
    go_wp2_with fail
    go_ret
    exact ⟨by rw [HE.out]; rfl, Below.refl _ _⟩
  have hd2 : decide ((65536 : Int) < (q.size : Int)) = false := decide_eq_false (by omega)
  have hn : ¬ (4096 < LL.length ∨ 65536 < q.size) := by omega
  cases ho : stackOK LL with
  | false =>
    have HE := Lib.hid (cq_bad (st_bad hn ho) (by decide))
    rw [ho] at HOK
    clear h1 h2 hn ho
    go_enter Tryz.func30, Tryz.ntmps30
    go_wp2_with fail
    refine HOK.mono ?_
    rintro e w1 ⟨rfl, hb1⟩
    go_wp2_with fail
    go_ret
    exact ⟨by rw [HE.out]; rfl, hb1⟩
  | true =>
    have H0 := Lib.hid (st_fine hn ho)
    rw [ho] at HOK
    clear h1 h2 hn ho
    by_cases h0 : q.size = 0
    · have HE := Lib.hid (cq_root H0.out h0)
      have he := isEmpty_true h0
      clear h0
      go_enter Tryz.func30, Tryz.ntmps30
      go_wp2_with fail
      refine HOK.mono ?_
      rintro e w1 ⟨rfl, hb1⟩
      go_wp2_with fail
      go_ret
      exact ⟨by rw [HE.out]; rfl, hb1⟩
    · have H00 := Lib.hid h0
      have he := isEmpty_false (show 0 < q.size by omega)
      clear h0
      go_enter Tryz.func30, Tryz.ntmps30
      go_wp2_with fail
      refine HOK.mono ?_
      rintro e w1 ⟨rfl, hb1⟩
      go_wp2_with fail
      refine (l01OK_any q _).mono ?_
      rintro e w2 ⟨rfl, hb2⟩
      have c2 := hb1.trans (hb2.mono hb1.size)
      rcases Bool.eq_false_or_eq_true (pathB q.data.toList) with hp | hp
      · have HE := Lib.hid (cq_fine H0.out hp)
        rw [hp]
        go_wp2_with fail
        go_ret
        exact ⟨by rw [HE.out]; rfl, c2⟩
      · have HE := Lib.hid (cq_name H0.out H00.out hp)
        rw [hp]
        go_wp2_with fail
        go_ret
        exact ⟨by rw [HE.out]; rfl, c2⟩

set_option maxHeartbeats 800000 in
theorem l10Find_any (v : Value) (LL : List (List R)) (q : ByteArray) (w : World) (h : StkSl w v LL) (hc : codeQ LL q = 0) :
    Calls Tryz.prog 31 #[v, .string q] w fun e w' => e = .returned (resQ (findQ LL q)) ∧ Below w.heap.size w w' := by
  obtain ⟨ho, hq⟩ := cq_ok hc
  have hst := stack_of ho
  have HN := fun W hb hp => l10Node_any v LL q W (h.below hb) hst.1 hst.2 hp
  obtain ⟨vA, vcap, rfl⟩ := h.form
  have hb0 : Below w.heap.size w (w.alloc (.cells #[.int .i64 0, .string ByteArray.empty, .string ByteArray.empty, .int .i64 0] 25)) := (Below.refl _ _).alloc (Nat.le_refl _) _
  clear hc ho hst
  by_cases h0 : q.size = 0
  · have HE := Lib.hid (findQ_root (LL := LL) h0)
    have he := isEmpty_true h0
    clear h0 hq
    go_enter Tryz.func31, Tryz.ntmps31
    go_wp2_with fail
    refine bodyPost_ret (v := .tuple #[.agg #[.int .i64 3, .string ⟨#[]⟩, .string ⟨#[]⟩, .int .i64 0], .int .i64 0, .int .i64 0]) (by simp [results, Tryz.results31, go_sem]) rfl ⟨by rw [HE.out]; rfl, ?_⟩
    exact (Below.refl _ _).alloc (Nat.le_refl _) _
  · have HE : Hid (findQ LL q = qFrom LL q 0) := if_neg h0
    have hp : pathB q.data.toList = true := by rcases hq with h | h; exact absurd h h0; exact h
    have he := isEmpty_false (show 0 < q.size by omega)
    have HN1 := fun W hb => HN W hb hp
    unfold resQ R.nod at HN1
    clear h0 hq hp HN
    generalize qFrom LL q 0 = F at *
    obtain ⟨⟨r, n⟩, c⟩ := F
    go_enter Tryz.func31, Tryz.ntmps31
    go_wp2_with fail
    refine (HN1 _ hb0).mono ?_
    rintro e w1 ⟨rfl, hb1⟩
    have c1 := hb0.trans (hb1.mono hb0.size)
    have hc1 := fun o => (bcell hb1).1 w.heap.size o (by simp)
    have hf1 := fun o => (bcell hb1).2 w.heap.size o (by simp)
    go_wp2_with fail
    refine bodyPost_ret (v := resQ ((r, n), c)) (by simp [results, Tryz.results31, go_sem, resQ, R.nod, hc1]) rfl ⟨by rw [HE.out], ?_⟩
    repeat (refine Below.setCell ?_ (by simp) _)
    exact c1
end Go.Proofs.YtibekkfbpmloiaaGreatDoor.Recs
