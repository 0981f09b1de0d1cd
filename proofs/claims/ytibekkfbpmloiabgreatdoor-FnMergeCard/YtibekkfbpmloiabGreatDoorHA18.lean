/- Parts of several texts of mine in one file (each begins with its own remark). -/
import Derived.Test.YtibekkfbpmloiabGreatDoorHA1
import Derived.Test.YtibekkfbpmloiabGreatDoorHA12
import Derived.Test.YtibekkfbpmloiabGreatDoorHA14
import Derived.Test.YtibekkfbpmloiabGreatDoorHA15
import Derived.Test.YtibekkfbpmloiabGreatDoorHA16
import Derived.Test.YtibekkfbpmloiabGreatDoorHA17
import Derived.Test.YtibekkfbpmloiabGreatDoorHA2
import Derived.Test.YtibekkfbpmloiabGreatDoorHA3
import Derived.Test.YtibekkfbpmloiabGreatDoorHA4
import Derived.Test.YtibekkfbpmloiabGreatDoorHA5
import Derived.Test.YtibekkfbpmloiabGreatDoorHA6
import Derived.Test.YtibekkfbpmloiabGreatDoorHA8
import Derived.Test.YtibekkfbpmloiabGreatDoorChecked
import Derived.Test.YtibekkfbpmloiabGreatDoorShelf
import Derived.Test.YtibekkfbpmloiabGreatDoorProg
import Derived.Test.YtibekkfbpmloiabGreatDoorRows
import Derived.BigRegion
import Derived.StillTailTactics
import Derived.Deep.Slices
import Derived.OpenShut
import Derived.ShutString
import Derived.ChangeArms
import Derived.WideShapes
import Derived.Lib.LaidTab
import Derived.BigQuiet
import Derived.Deep.QuietTactic
import Derived.Deep.RegionHeld3
import Derived.Deep.Draws
import Derived.Deep.LoopGhost
import Derived.WalkKit
import Derived.WalkSpells
import Derived.WalkSmall
import Derived.Lib.OthersKept
import Derived.Lib.Hide
import Derived.Lib.Strings
import Derived.Lib.Join
import Derived.Laws.OwnMore
import Derived.Laws.BytesArg
import Derived.Stop.LaidErr
import Derived.WalkLawsBesides
import Derived.LaidEql
import Derived.Stop.Asserts
import Derived.Below
import Derived.Stop.LaidTwo
import Derived.ChangeVars
import Derived.Deep.DeepHandedRow
import Derived.Deep.RegionWith
import Derived.OneCell
import Derived.Lib.SliceRun
import Derived.Lib.Overlaps
import Derived.Lib.AppendZerosOnto
import Derived.Laws.NewBlocks
import Derived.Laws.IdiomCopy
import Derived.Deep.RegionLaw
/- Cursors in memory; sinking one in the heap, of the program. -/
namespace Go.Proofs.YtibekkfbpmloiabGreatDoor.Recs
set_option maxRecDepth 100000
open Go.RowKit Paths Heap

/-- A cursor in memory: its layer and its slice. -/
def csU (c : Nat × Value) : List Value := [.int .i64 (c.1 : Int), c.2]
theorem csU_len (c : Nat × Value) : (csU c).length = 2 := rfl
abbrev RowU (w : World) (base : Nat) (v : Value) (n : Nat) (M : List (Nat × Value)) : Prop := RowG csU 2 171 w base v n M
/-- The slices of the cursors M read, ahead of all, as what is left of the layers. -/
structure CurOk (w0 : World) (M : List (Nat × Value)) (cs : List (Nat × List R)) : Prop where
  len : M.length = cs.length
  at_ : ∀ (i n : Nat) (u : Value), M[i]? = some (n, u) → ∃ x l, cs[i]? = some (n, x :: l) ∧ RecSl w0 u (x :: l) ∧ ∀ r ∈ x :: l, pathB r.p.data.toList = true
theorem CurOk.get {w0 : World} {M : List (Nat × Value)} {cs : List (Nat × List R)} (h : CurOk w0 M cs) {i : Nat} (hi : i < M.length) : ∃ x l, M[i]? = some (M[i].1, M[i].2) ∧ cs[i]? = some (M[i].1, x :: l) ∧ RecSl w0 M[i].2 (x :: l) ∧ pathB x.p.data.toList = true ∧ ∃ A c, M[i].2 = .slice A (x :: l).length c := by
  have e : M[i]? = some (M[i].1, M[i].2) := List.getElem?_eq_getElem hi
  obtain ⟨x, l, h1, h2, h3⟩ := h.at_ i _ _ e
  have h4 := h2
  obtain ⟨A, c, h5, _⟩ := h4
  exact ⟨x, l, e, h1, h2, h3 x (List.mem_cons_self ..), A, c, h5⟩
theorem CurOk.swap {w0 : World} {M : List (Nat × Value)} {cs : List (Nat × List R)} (h : CurOk w0 M cs) {i j : Nat} (hi : i < M.length) (hj : j < M.length) (hij : i ≠ j) : CurOk w0 (swapL M i j) (swapL cs i j) := by
  have a1 : M[i]? = some M[i] := List.getElem?_eq_getElem hi
  have a2 : M[j]? = some M[j] := List.getElem?_eq_getElem hj
  have b1 : cs[i]? = some (cs[i]'(by rw [← h.len]; exact hi)) := List.getElem?_eq_getElem _
  have b2 : cs[j]? = some (cs[j]'(by rw [← h.len]; exact hj)) := List.getElem?_eq_getElem _
  refine ⟨by rw [swap_len, swap_len, h.len], fun k n u hk => ?_⟩
  rw [swap_get a1 a2 hij] at hk
  rw [swap_get b1 b2 hij]
  by_cases hki : k = i
  · rw [if_pos hki] at hk ⊢
    have := h.at_ j n u (by rw [a2]; exact hk)
    rw [b2] at this
    exact this
  · rw [if_neg hki] at hk ⊢
    by_cases hkj : k = j
    · rw [if_pos hkj] at hk ⊢
      have := h.at_ i n u (by rw [a1]; exact hk)
      rw [b1] at this
      exact this
    · rw [if_neg hkj] at hk ⊢
      exact h.at_ k n u hk
theorem swap_set {α : Type} {M : List α} {i j : Nat} (hi : i < M.length) (hj : j < M.length) : swapL M i j = (M.set i M[j]).set j M[i] := by
  unfold swapL
  rw [List.getElem?_eq_getElem hi, List.getElem?_eq_getElem hj]
theorem grown_of {w w' : World} (h : Below w.heap.size w w') (row : Option Nat) : w.grownBy w' row := ⟨h.os, h.tape, h.output, h.size, fun k hk _ => h.block k hk⟩
/-- Both cells of a cursor written. -/
theorem RowU.store {w : World} {base g cap n : Nat} {M : List (Nat × Value)} {i : Nat} (c : Nat × Value) (h : RowU w base (.slice (some ⟨g, 0, none⟩) n cap) n M) (hi : i < M.length) :
    RowU ((w.setCell ⟨g, i * 2, none⟩ (.int .i64 (c.1 : Int))).setCell ⟨g, i * 2 + 1, none⟩ c.2) base (.slice (some ⟨g, 0, none⟩) n cap) n (M.set i c) ∧
    w.grownBy ((w.setCell ⟨g, i * 2, none⟩ (.int .i64 (c.1 : Int))).setCell ⟨g, i * 2 + 1, none⟩ c.2) (some g) := by
  obtain ⟨a1, b1⟩ := RowG.field csU_len h (i := i) (c := 0) (a := (c.1, M[i].2)) (u := .int .i64 (c.1 : Int)) hi (by omega) rfl
  obtain ⟨a2, b2⟩ := RowG.field csU_len a1 (i := i) (c := 1) (a := c) (u := c.2) (by simpa using hi) (by omega) (by simp [csU])
  refine ⟨?_, grown_trans b1 b2⟩
  simp only [List.set_set] at a2
  exact a2
theorem pick_far {cs : List (Nat × List R)} {a c : Nat} (h : cs.length ≤ c) : pick befC cs a c = a := by
  unfold pick
  rw [List.getElem?_eq_none h]
theorem pick_here {cs : List (Nat × List R)} {a c : Nat} {x y : Nat × List R} (hx : cs[c]? = some x) (hy : cs[a]? = some y) : pick befC cs a c = if befC x y then c else a := by
  unfold pick
  rw [hx, hy]
/-- The first of a place and the first k ones of the two below it. -/
def uptoK (cs : List (Nat × List R)) (j : Nat) : Nat → Nat
  | 0 => j
  | k + 1 => pick befC cs (uptoK cs j k) (2 * j + 1 + k)
theorem uptoK_two (cs : List (Nat × List R)) (j : Nat) : uptoK cs j 2 = least befC cs j := rfl
theorem uptoK_lt {cs : List (Nat × List R)} {j : Nat} (h : j < cs.length) : ∀ k, uptoK cs j k < cs.length
  | 0 => h
  | k + 1 => by
    have ih := uptoK_lt h k
    unfold uptoK
    rcases pick_cases befC cs (uptoK cs j k) (2 * j + 1 + k) with ⟨e, x, y, hx, _⟩ | ⟨e, _⟩
    · rw [e]; exact (List.getElem?_eq_some_iff.1 hx).1
    · rw [e]; exact ih
theorem uptoK_far {cs : List (Nat × List R)} {j : Nat} : ∀ k d, cs.length ≤ 2 * j + 1 + k → uptoK cs j (k + d) = uptoK cs j k
  | k, 0, _ => rfl
  | k, d + 1, h => by
    show pick befC cs (uptoK cs j (k + d)) (2 * j + 1 + (k + d)) = _
    rw [pick_far (by omega), uptoK_far k d h]

set_option maxHeartbeats 3200000 in
theorem sink_any (w0 : World) (base g n cap i : Nat) (M : List (Nat × Value)) (cs : List (Nat × List R)) (w : World) (hW : Below w0.heap.size w0 w) (hrow : RowU w base (.slice (some ⟨g, 0, none⟩) n cap) n M) (hbase : w0.heap.size ≤ base) (hok : CurOk w0 M cs) (hn : n ≤ 1000) (hi : i ≤ 1000) (hin : i < n ∨ n = 0 ∧ i = 0) :
    Calls Tryz.prog 204 #[.slice (some ⟨g, 0, none⟩) n cap, .int .i64 (i : Int)] w fun e w' => (∃ v, e = .returned v) ∧ w.grownBy w' (some g) ∧ ∃ M', RowU w' base (.slice (some ⟨g, 0, none⟩) n cap) n M' ∧ CurOk w0 M' (sinkL befC cs i) := by
  have hgl := hrow.2.lt g rfl
  have HW := Lib.hid hW
  have HR0 := Lib.hid hrow
  have HO0 := Lib.hid hok
  clear hW hrow hok
  go_enter Tryz.func204, Tryz.ntmps204
  go_wp2
  go_loopw [1] (fun iv wr => ∃ (j f : Nat) (N : List (Nat × Value)) (ds : List (Nat × List R)), iv = .int .i64 (j : Int) ∧ j ≤ 1000 ∧ Hid (j < n ∨ n = 0 ∧ j = 0) ∧ Hid (sinkL befC cs i = sinkF befC f ds j ∧ ds.length ≤ f + j) ∧ Hid (RowU wr base (.slice (some ⟨g, 0, none⟩) n cap) n N ∧ CurOk w0 N ds) ∧ Hid (w.grownBy wr (some g))) (fun iv _ => 1000 - (intOf iv).toNat)
  case atStart => exact ⟨i, cs.length, M, cs, rfl, hi, hin, ⟨rfl, by omega⟩, ⟨HR0.out, HO0.out⟩, World.grownBy.refl _ _⟩
  case round =>
    obtain ⟨j, f, N, ds, rfl, hj, HJ, HS, HRO, HG⟩ := hrel
    have hNl : Hid (N.length = n) := HRO.out.1.1
    have hdl : Hid (ds.length = n) := HRO.out.2.len.symm.trans hNl.out
    have HWr : Hid (Below w0.heap.size w0 wr) := HW.out.grown HG.out (HW.out.size) (fun k e => by cases e; omega)
    have hsr : Hid (w.heap.size ≤ wr.heap.size) := HG.out.size
    obtain ⟨wo, rfl⟩ : ∃ x, x = wr := ⟨_, rfl⟩
    go_wp2_with fail
    go_loopw [4, 5] (fun fv cv wx => ∃ (c ch a : Nat), c ≤ 2 ∧ fv = .int .i64 (a : Int) ∧ cv = .int .i64 (ch : Int) ∧ Hid (ch = 2 * j + 1 + c) ∧ Hid (a = uptoK ds j c) ∧ Hid (Below wo.heap.size wo wx)) (fun _ cv _ => 4000 - (intOf cv).toNat)
    case atStart => exact ⟨0, 2 * j + 1, j, by omega, rfl, by rw [show ((2 * j + 1 : Nat) : Int) = 2 * (j : Int) + 1 by omega], rfl, rfl, Below.refl _ _⟩
    case round =>
      obtain ⟨c, ch, a, hc, rfl, rfl, HC, HA, HB⟩ := hrel
      by_cases hgo : c < 2 ∧ ch < n
      · obtain ⟨hc2, hcn⟩ := hgo
        have hjn : j < n := by have := HJ.out; omega
        have han : a < n := by rw [HA.out, ← hdl.out]; exact uptoK_lt (by rw [hdl.out]; exact hjn) c
        have d1 : decide ((ch : Int) ≤ 2 * (j : Int) + 2) = true := decide_eq_true (by have := HC.out; omega)
        have d2 : decide ((ch : Int) < (n : Int)) = true := decide_eq_true (by omega)
        have hi1 : (ch : Int) < (n : Int) := by omega
        have hi0 : (0 : Int) ≤ (ch : Int) := by omega
        have hj1 : (a : Int) < (n : Int) := by omega
        have hj0 : (0 : Int) ≤ (a : Int) := by omega
        have hrx : RowU wr base (.slice (some ⟨g, 0, none⟩) n cap) n N := HRO.out.1.below HB.out
        have hcN : ch < N.length := by rw [hNl.out]; exact hcn
        have haN : a < N.length := by rw [hNl.out]; exact han
        obtain ⟨x, l, _, hx2, hx3, hx4, A1, c1, hx5⟩ := HRO.out.2.get hcN
        obtain ⟨y, m, _, hy2, hy3, hy4, A2, c2, hy5⟩ := HRO.out.2.get haN
        have r0 := RowG.cell csU_len hrx (c := 0) hcN (by omega)
        have r1 := RowG.cell csU_len hrx (c := 1) hcN (by omega)
        have q0 := RowG.cell csU_len hrx (c := 0) haN (by omega)
        have q1 := RowG.cell csU_len hrx (c := 1) haN (by omega)
        simp only [csU, List.getElem?_cons_zero, List.getElem?_cons_succ, Nat.add_zero] at r0 r1 q0 q1
        generalize N[ch] = X at *
        generalize N[a] = Y at *
        obtain ⟨xn, xu⟩ := X
        obtain ⟨yn, yu⟩ := Y
        dsimp only at hx2 hx3 hx5 hy2 hy3 hy5 r0 r1 q0 q1
        have HXS := Lib.hid hx3
        have HYS := Lib.hid hy3
        have HNX : Hid (uptoK ds j (c + 1) = if befC (xn, x :: l) (yn, y :: m) then ch else a) := by
          show pick befC ds (uptoK ds j c) (2 * j + 1 + c) = _
          rw [← HA.out, ← HC.out]
          exact pick_here hx2 hy2
        subst hx5
        subst hy5
        have hwx : Below w0.heap.size w0 wr := HWr.out.trans (HB.out.mono HWr.out.size)
        clear hx2 hy2 hx3 hy3 hcN haN hrx
        go_wp2_with fail
        go_still_tail 9, (by kernel_rfl)
        change wpList _ _ _ _ _ wr.drew
        have hwd : Below w0.heap.size w0 wr.drew := hwx.drew
        have HBD : Hid (Below wo.heap.size wo wr.drew) := HB.out.drew
        clear hwx
        generalize wr.drew = W2 at *
        have HBF := before_any xn yn _ _ x y l m W2 (HXS.out.below hwd) (HYS.out.below hwd) hx4 hy4
        go_wp2_with fail
        refine HBF.mono ?_
        rintro e w3 ⟨rfl, hb3⟩
        have HB3 : Hid (Below wo.heap.size wo w3) := HBD.out.trans (hb3.mono HBD.out.size)
        rcases Bool.eq_false_or_eq_true (befC (xn, x :: l) (yn, y :: m)) with hbf | hbf
        · rw [hbf]
          have HN2 : Hid (ch = uptoK ds j (c + 1)) := by show _ = _; rw [HNX.out, if_pos hbf]
          go_wp2_with fail
          exact ⟨⟨c + 1, ch + 1, ch, by omega, rfl, by go_num, by have := HC.out; show _ = _; omega, HN2, HB3⟩, by have := HC.out; simp [intOf]; omega⟩
        · rw [hbf]
          have HN2 : Hid (a = uptoK ds j (c + 1)) := by show _ = _; rw [HNX.out, if_neg (by rw [hbf]; decide)]
          go_wp2_with fail
          exact ⟨⟨c + 1, ch + 1, a, by omega, rfl, by go_num, by have := HC.out; show _ = _; omega, HN2, HB3⟩, by have := HC.out; simp [intOf]; omega⟩
      · have HL : Hid (a = least befC ds j) := by
          show _ = _
          rw [HA.out, ← uptoK_two]
          rcases Nat.lt_or_ge c 2 with h | h
          · have := uptoK_far (cs := ds) (j := j) c (2 - c) (by rw [hdl.out, ← HC.out]; omega)
            rw [show c + (2 - c) = 2 by omega] at this
            exact this.symm
          · rw [show c = 2 by omega]
        rcases Nat.lt_or_ge c 2 with hc2 | hc2
        · have d1 : decide ((ch : Int) ≤ 2 * (j : Int) + 2) = true := decide_eq_true (by have := HC.out; omega)
          have d2 : decide ((ch : Int) < (n : Int)) = false := decide_eq_false (by omega)
          have d2' : decide (ch < n) = false := decide_eq_false (by omega)
          clear hgo
          have hrx : RowU wr base (.slice (some ⟨g, 0, none⟩) n cap) n N := HRO.out.1.below HB.out
          have hgx : w.grownBy wr (some g) := grown_trans HG.out (grown_of HB.out (some g))
          by_cases haj : a = j
          · have q1 : ((a : Int) == (j : Int)) = true := by simp [haj]
            have q2 : (a == j) = true := by simp [haj]
            have HE : Hid (sinkL befC cs i = ds) := by
              show _ = _
              rw [HS.out.1]
              cases f with
              | zero => rfl
              | succ f => rw [sinkF, if_pos (HL.out.symm.trans haj)]
            clear haj
            go_wp2_with fail
            refine bodyPost_ret (results_none rfl _ _ _) rfl ?_
            exact ⟨⟨_, rfl⟩, hgx, N, hrx, by rw [HE.out]; exact HRO.out.2⟩
          · have q1 : ((a : Int) == (j : Int)) = false := by simp; omega
            have q2 : (a == j) = false := by simpa using haj
            have hjn : j < n := by
              have h1 := HJ.out
              have h2 := HL.out
              have h3 := hdl.out
              rcases h1 with h1 | ⟨h1, h4⟩
              · exact h1
              · exfalso
                apply haj
                rw [h2]
                unfold least
                rw [pick_far (by omega), pick_far (by omega)]
            have han : a < n := by rw [HL.out, ← hdl.out]; exact uptoK_lt (by rw [hdl.out]; exact hjn) 2
            have hf : f ≠ 0 := fun e => haj (by
              have h2 := HL.out
              have h3 := HS.out.2
              rw [h2]
              unfold least
              rw [pick_far (by omega), pick_far (by omega)])
            have hja : j < a := by
              have h2 := HL.out
              rcases least_spec befC befC_asymm befC_neg ds j with ⟨h4, _⟩ | ⟨_, _, h4, _⟩
              · exact absurd (h2.trans h4) haj
              · rcases h4 with h4 | h4 <;> omega
            obtain ⟨f', rfl⟩ : ∃ f', f = f' + 1 := ⟨f - 1, by omega⟩
            have HE : Hid (sinkL befC cs i = sinkF befC f' (swapL ds j a) a ∧ (swapL ds j a).length ≤ f' + a) := by
              refine ⟨?_, by rw [swap_len]; have := HS.out.2; omega⟩
              rw [HS.out.1, sinkF, if_neg (fun e => haj (HL.out.trans e)), ← HL.out]
            have hjN : j < N.length := by rw [hNl.out]; exact hjn
            have haN : a < N.length := by rw [hNl.out]; exact han
            obtain ⟨x, l, _, _, _, _, A1, c1, hx5⟩ := HRO.out.2.get hjN
            obtain ⟨y, m, _, _, _, _, A2, c2, hy5⟩ := HRO.out.2.get haN
            have r0 := RowG.cell csU_len hrx (c := 0) hjN (by omega)
            have r1 := RowG.cell csU_len hrx (c := 1) hjN (by omega)
            have p0 := RowG.cell csU_len hrx (c := 0) haN (by omega)
            have p1 := RowG.cell csU_len hrx (c := 1) haN (by omega)
            simp only [csU, List.getElem?_cons_zero, List.getElem?_cons_succ, Nat.add_zero] at r0 r1 p0 p1
            obtain ⟨s1, s2⟩ := RowU.store N[a] hrx hjN
            obtain ⟨s3, s4⟩ := RowU.store N[j] s1 (i := a) (by simpa using haN)
            have HROW := Lib.hid s3
            have HGR := Lib.hid (grown_trans hgx (grown_trans s2 s4))
            have HSW := Lib.hid (swap_set hjN haN)
            have HCO := Lib.hid (HRO.out.2.swap hjN haN (by omega))
            generalize N[j] = X at *
            generalize N[a] = Y at *
            obtain ⟨xn, xu⟩ := X
            obtain ⟨yn, yu⟩ := Y
            dsimp only at hx5 hy5 r0 r1 p0 p1 HROW HGR
            subst hx5
            subst hy5
            have f0 := RowG.frozen hrx (j * 2)
            have f1 := RowG.frozen hrx (j * 2 + 1)
            have f2 := RowG.frozen hrx (a * 2)
            have f3 := RowG.frozen hrx (a * 2 + 1)
            have hi1 : (a : Int) < (n : Int) := by omega
            have hi0 : (0 : Int) ≤ (a : Int) := by omega
            have hj1 : (j : Int) < (n : Int) := by omega
            have hj0 : (0 : Int) ≤ (j : Int) := by omega
            have n1 : j * 2 ≠ a * 2 := by omega
            have n2 : j * 2 ≠ a * 2 + 1 := by omega
            have n3 : j * 2 + 1 ≠ a * 2 := by omega
            have n4 : j * 2 + 1 ≠ a * 2 + 1 := by omega
            clear s1 s2 s3 s4 hrx hgx hjN haN haj hf
            go_wp2_with fail
            go_region
            have HR5 := Lib.hid (RowG.below HROW.out ((Below.refl _ _).drew))
            have HG5 := Lib.hid (grown_trans HGR.out (grown_of ((Below.refl _ _).drew) (some g)))
            go_wp2_with fail
            exact ⟨⟨a, f', _, _, rfl, by omega, .inl han, HE, ⟨HR5.out, by rw [← HSW.out]; exact HCO.out⟩, HG5.out⟩, by simp [intOf]; omega⟩
        · have d1 : decide ((ch : Int) ≤ 2 * (j : Int) + 2) = false := decide_eq_false (by have := HC.out; omega)
          clear hgo
          have hrx : RowU wr base (.slice (some ⟨g, 0, none⟩) n cap) n N := HRO.out.1.below HB.out
          have hgx : w.grownBy wr (some g) := grown_trans HG.out (grown_of HB.out (some g))
          by_cases haj : a = j
          · have q1 : ((a : Int) == (j : Int)) = true := by simp [haj]
            have q2 : (a == j) = true := by simp [haj]
            have HE : Hid (sinkL befC cs i = ds) := by
              show _ = _
              rw [HS.out.1]
              cases f with
              | zero => rfl
              | succ f => rw [sinkF, if_pos (HL.out.symm.trans haj)]
            clear haj
            go_wp2_with fail
            refine bodyPost_ret (results_none rfl _ _ _) rfl ?_
            exact ⟨⟨_, rfl⟩, hgx, N, hrx, by rw [HE.out]; exact HRO.out.2⟩
          · have q1 : ((a : Int) == (j : Int)) = false := by simp; omega
            have q2 : (a == j) = false := by simpa using haj
            have hjn : j < n := by
              have h1 := HJ.out
              have h2 := HL.out
              have h3 := hdl.out
              rcases h1 with h1 | ⟨h1, h4⟩
              · exact h1
              · exfalso
                apply haj
                rw [h2]
                unfold least
                rw [pick_far (by omega), pick_far (by omega)]
            have han : a < n := by rw [HL.out, ← hdl.out]; exact uptoK_lt (by rw [hdl.out]; exact hjn) 2
            have hf : f ≠ 0 := fun e => haj (by
              have h2 := HL.out
              have h3 := HS.out.2
              rw [h2]
              unfold least
              rw [pick_far (by omega), pick_far (by omega)])
            have hja : j < a := by
              have h2 := HL.out
              rcases least_spec befC befC_asymm befC_neg ds j with ⟨h4, _⟩ | ⟨_, _, h4, _⟩
              · exact absurd (h2.trans h4) haj
              · rcases h4 with h4 | h4 <;> omega
            obtain ⟨f', rfl⟩ : ∃ f', f = f' + 1 := ⟨f - 1, by omega⟩
            have HE : Hid (sinkL befC cs i = sinkF befC f' (swapL ds j a) a ∧ (swapL ds j a).length ≤ f' + a) := by
              refine ⟨?_, by rw [swap_len]; have := HS.out.2; omega⟩
              rw [HS.out.1, sinkF, if_neg (fun e => haj (HL.out.trans e)), ← HL.out]
            have hjN : j < N.length := by rw [hNl.out]; exact hjn
            have haN : a < N.length := by rw [hNl.out]; exact han
            obtain ⟨x, l, _, _, _, _, A1, c1, hx5⟩ := HRO.out.2.get hjN
            obtain ⟨y, m, _, _, _, _, A2, c2, hy5⟩ := HRO.out.2.get haN
            have r0 := RowG.cell csU_len hrx (c := 0) hjN (by omega)
            have r1 := RowG.cell csU_len hrx (c := 1) hjN (by omega)
            have p0 := RowG.cell csU_len hrx (c := 0) haN (by omega)
            have p1 := RowG.cell csU_len hrx (c := 1) haN (by omega)
            simp only [csU, List.getElem?_cons_zero, List.getElem?_cons_succ, Nat.add_zero] at r0 r1 p0 p1
            obtain ⟨s1, s2⟩ := RowU.store N[a] hrx hjN
            obtain ⟨s3, s4⟩ := RowU.store N[j] s1 (i := a) (by simpa using haN)
            have HROW := Lib.hid s3
            have HGR := Lib.hid (grown_trans hgx (grown_trans s2 s4))
            have HSW := Lib.hid (swap_set hjN haN)
            have HCO := Lib.hid (HRO.out.2.swap hjN haN (by omega))
            generalize N[j] = X at *
            generalize N[a] = Y at *
            obtain ⟨xn, xu⟩ := X
            obtain ⟨yn, yu⟩ := Y
            dsimp only at hx5 hy5 r0 r1 p0 p1 HROW HGR
            subst hx5
            subst hy5
            have f0 := RowG.frozen hrx (j * 2)
            have f1 := RowG.frozen hrx (j * 2 + 1)
            have f2 := RowG.frozen hrx (a * 2)
            have f3 := RowG.frozen hrx (a * 2 + 1)
            have hi1 : (a : Int) < (n : Int) := by omega
            have hi0 : (0 : Int) ≤ (a : Int) := by omega
            have hj1 : (j : Int) < (n : Int) := by omega
            have hj0 : (0 : Int) ≤ (j : Int) := by omega
            have n1 : j * 2 ≠ a * 2 := by omega
            have n2 : j * 2 ≠ a * 2 + 1 := by omega
            have n3 : j * 2 + 1 ≠ a * 2 := by omega
            have n4 : j * 2 + 1 ≠ a * 2 + 1 := by omega
            clear s1 s2 s3 s4 hrx hgx hjN haN haj hf
            go_wp2_with fail
            go_region
            have HR5 := Lib.hid (RowG.below HROW.out ((Below.refl _ _).drew))
            have HG5 := Lib.hid (grown_trans HGR.out (grown_of ((Below.refl _ _).drew) (some g)))
            go_wp2_with fail
            exact ⟨⟨a, f', _, _, rfl, by omega, .inl han, HE, ⟨HR5.out, by rw [← HSW.out]; exact HCO.out⟩, HG5.out⟩, by simp [intOf]; omega⟩
end Go.Proofs.YtibekkfbpmloiabGreatDoor.Recs
