/- Parts of several texts of mine in one file (each begins with its own remark). -/
import Derived.Test.YtciflchaepchiaaDoorFA2
import Derived.Test.YtciflchaepchiaaDoorFA3
import Derived.Test.YtciflchaepchiaaDoorFA4
import Derived.Test.YtciflchaepchiaaDoorFA5
import Derived.Test.YtciflchaepchiaaDoorFA6
import Derived.Test.YtciflchaepchiaaDoorFA7
import Derived.Test.YtciflchaepchiaaDoorFA8
import Derived.Test.YtciflchaepchiaaDoorChecked
import Derived.Test.YtciflchaepchiaaDoorShelf
import Derived.Test.YtciflchaepchiaaDoorProg
import Derived.Test.YtciflchaepchiaaDoorRows
import Derived.Deep.Cut
import Derived.Deep.RegionHeld3
import Derived.Laws.BytesArg
import Derived.Lib.ConvBytes
import Derived.Deep.Slices
import Derived.OpenShut
import Derived.ShutString
import Derived.ChangeArms
import Derived.WideShapes
import Derived.Lib.LaidTab
import Derived.BigQuiet
import Derived.Deep.QuietTactic
import Derived.StillTailTactics
import Derived.Deep.Draws
import Derived.Deep.LoopGhost
import Derived.WalkKit
import Derived.WalkSpells
import Derived.WalkSmall
import Derived.Lib.OthersKept
import Derived.Lib.Hide
import Derived.Lib.Strings
import Derived.Lib.Join
import Derived.WalkLawsBesides
import Derived.Below
import Derived.Shelf.Strings.Builder1
import Derived.Stop.LaidErr
import Derived.Laws.OwnMore
import Derived.BigRegion
import Derived.LaidEql
import Derived.Stop.Asserts
import Derived.Stop.LaidTwo
import Derived.ChangeVars
import Derived.Deep.DeepHandedRow
/- The record at the head of a text, of the program. No condition. -/
namespace Go.Proofs.YtciflchaepchiaaDoor.Recs
set_option maxRecDepth 100000
open Go.RowKit Paths

/-- A record in a block of its own. -/
def RBox (w : World) (B : Nat) (r : R) : Prop := w.heap[B]? = some (.cells #[.int .i64 r.k, .string r.p, .string r.b, .int .i64 r.m, .bool r.o] 27 (0, 0))
theorem RBox.lt {w : World} {B : Nat} {r : R} (h : RBox w B r) : B < w.heap.size := (Array.getElem?_eq_some_iff.1 h).1
theorem RBox.grown {w w' : World} {B : Nat} {r : R} {o : Option Nat} (h : RBox w B r) (hg : w.grownBy w' o) (hne : o ≠ some B) : RBox w' B r := (hg.block B h.lt (fun e => hne e.symm)).trans h
theorem Rd.grown {w w' : World} {g : Nat} {s : ByteArray} {sh : Bool} {o : Option Nat} (h : Rd w g s sh) (hg : w.grownBy w' o) (hne : o ≠ some g) : Rd w' g s sh := (hg.block g h.lt (fun e => hne e.symm)).trans h
theorem RBox.cells {w : World} {B : Nat} {r : R} (h : RBox w B r) : RecCells w B 0 r := ⟨cell_of_row w B 0 _ _ _ h, cell_of_row w B 1 _ _ _ h, cell_of_row w B 2 _ _ _ h, cell_of_row w B 3 _ _ _ h, cell_of_row w B 4 _ _ _ h⟩
theorem RBox.frozen {w : World} {B : Nat} {r : R} (h : RBox w B r) (j : Nat) : w.frozen? ⟨B, j, none⟩ = false := frozen_of_row w B j _ _ h
theorem below_grown {W w w' : World} {base : Nat} {g : Nat} (h : Below base W w) (hg : w.grownBy w' (some g)) (hb : base ≤ g) (hs : base ≤ w.heap.size) : Below base W w' := h.grown hg hs (fun k hk => by cases hk; exact hb)
theorem zero_eq : zR = ⟨0, 0, ⟨#[]⟩, ⟨#[]⟩, false⟩ := rfl

/-- What recordAt answers. -/
def raR (t : List UInt8) : R := if fitT t then recT t else zR
def raN (t : List UInt8) : Int := if fitT t then (sizT t : Int) else 0
theorem ra_fit {t : List UInt8} (h : fitT t = true) : raR t = recT t ∧ raN t = (sizT t : Int) := ⟨if_pos h, if_pos h⟩
theorem ra_no {t : List UInt8} (h : fitT t = false) : raR t = zR ∧ raN t = 0 := ⟨if_neg (by rw [h]; decide), if_neg (by rw [h]; decide)⟩
theorem five_other (w : World) (o : Nat) (v0 v1 v2 v3 v4 : Value) {p : Addr} (h : p.block ≠ o) : (((((w.setCell ⟨o, 0, none⟩ v0).setCell ⟨o, 1, none⟩ v1).setCell ⟨o, 2, none⟩ v2).setCell ⟨o, 3, none⟩ v3).setCell ⟨o, 4, none⟩ v4).cell? p = w.cell? p := by
  have one : ∀ (W : World) (j : Nat) (v : Value), (W.setCell ⟨o, j, none⟩ v).cell? p = W.cell? p := fun W j v => World.cell?_of_block (heap_setCell_other W ⟨o, j, none⟩ p.block v (fun e => h (by simpa using e)))
  rw [one, one, one, one, one]
/-- What lies in the blocks of the call. -/
structure RaSt (w : World) (base o g : Nat) (W : World) (l : ByteArray) (sh : Bool) : Prop where
  bel : Below base w W
  size : base ≤ W.heap.size
  rd : Rd W g l sh
  out : RBox W o zR
theorem RaSt.step {w W W' : World} {base o g : Nat} {l l' : ByteArray} {sh sh' : Bool} (h : RaSt w base o g W l sh) (hg : W.grownBy W' (some g)) (hr : Rd W' g l' sh') (hb : base ≤ g) (ho : o ≠ g) : RaSt w base o g W' l' sh' :=
  ⟨below_grown h.bel hg hb h.size, Nat.le_trans h.size hg.size, hr, h.out.grown hg (fun e => ho (Option.some.inj e).symm)⟩
theorem RaSt.other {w W W' : World} {base o g r : Nat} {l : ByteArray} {sh : Bool} (h : RaSt w base o g W l sh) (hg : W.grownBy W' (some r)) (hb : base ≤ r) (ho : o ≠ r) (hgr : g ≠ r) : RaSt w base o g W' l sh :=
  ⟨below_grown h.bel hg hb h.size, Nat.le_trans h.size hg.size, h.rd.grown hg (fun e => hgr (Option.some.inj e).symm), h.out.grown hg (fun e => ho (Option.some.inj e).symm)⟩
theorem RaSt.alloc {w W : World} {base o g : Nat} {l : ByteArray} {sh : Bool} (h : RaSt w base o g W l sh) (x : Obj) : RaSt w base o g (W.alloc x) l sh :=
  have hb : Below W.heap.size W (W.alloc x) := (Below.refl _ _).alloc (Nat.le_refl _) _
  ⟨h.bel.alloc h.size _, Nat.le_trans h.size hb.size, h.rd.below hb, (hb.block _ h.out.lt).trans h.out⟩

set_option maxHeartbeats 6400000 in
theorem recordAt_any (t : ByteArray) (w : World) :
    Calls Tryd.prog 33 #[.string t] w fun e w' => e = .returned (.tuple #[(raR t.data.toList).val, .int .i64 (raN t.data.toList)]) ∧ Below w.heap.size w w' := by
  have S0 : Hid (RaSt w w.heap.size w.heap.size (w.heap.size + 1) ((w.alloc (.cells #[.int .i64 0, .string ⟨#[]⟩, .string ⟨#[]⟩, .int .i64 0, .bool false] 27)).alloc (.cells #[.string t, .bool false] 67)) t false) := by
    have e1 : Below w.heap.size w (w.alloc (.cells #[.int .i64 0, .string ⟨#[]⟩, .string ⟨#[]⟩, .int .i64 0, .bool false] 27)) := (Below.refl _ _).alloc (Nat.le_refl _) _
    refine ⟨e1.alloc e1.size _, by simp; omega, ?_, ?_⟩
    · have := heap_alloc_new (w.alloc (.cells #[.int .i64 0, .string ⟨#[]⟩, .string ⟨#[]⟩, .int .i64 0, .bool false] 27)) (.cells #[.string t, .bool false] 67)
      simpa [Rd] using this
    · have h0 := heap_alloc_new w (.cells #[.int .i64 0, .string ⟨#[]⟩, .string ⟨#[]⟩, .int .i64 0, .bool false] 27)
      have hb : Below (w.alloc (.cells #[.int .i64 0, .string ⟨#[]⟩, .string ⟨#[]⟩, .int .i64 0, .bool false] 27)).heap.size (w.alloc (.cells #[.int .i64 0, .string ⟨#[]⟩, .string ⟨#[]⟩, .int .i64 0, .bool false] 27)) ((w.alloc (.cells #[.int .i64 0, .string ⟨#[]⟩, .string ⟨#[]⟩, .int .i64 0, .bool false] 27)).alloc (.cells #[.string t, .bool false] 67)) := (Below.refl _ _).alloc (Nat.le_refl _) _
      exact (hb.block _ (by simp)).trans h0
  have HF := Lib.hid (fun h => read_fit (t := t.data.toList) h)
  have HN := Lib.hid (fun h => read_short (t := t.data.toList) h)
  have HRF := Lib.hid (fun h => ra_fit (t := t.data.toList) h)
  have HRN := Lib.hid (fun h => ra_no (t := t.data.toList) h)
  obtain ⟨L, hL⟩ : ∃ L, t.data.toList = L := ⟨_, rfl⟩
  have HLs : Hid (t.size = L.length) := by show _ = _; rw [Lib.size_eq, hL]
  rw [hL] at HF HN HRF HRN ⊢
  have HL := Lib.hid hL
  clear hL
  go_enter Tryd.func33, Tryd.ntmps33
  go_wp2_with fail
  generalize (w.alloc (.cells #[.int .i64 0, .string ⟨#[]⟩, .string ⟨#[]⟩, .int .i64 0, .bool false] 27)).alloc (.cells #[.string t, .bool false] 67) = W1 at *
  have hbg : w.heap.size ≤ w.heap.size + 1 := by omega
  have hog : w.heap.size ≠ w.heap.size + 1 := by omega
  obtain ⟨g, hg0⟩ : ∃ g, w.heap.size + 1 = g := ⟨_, rfl⟩
  rw [hg0] at S0 hbg hog ⊢
  clear hg0
  refine (number_any g 1 t false _ S0.out.rd (by omega)).mono ?_
  rintro e w2 ⟨rfl, Q1, hQ, hqs, hr, hg⟩
  have S1 := Lib.hid (S0.out.step hg hr hbg hog)
  have HQ1 : Hid (Q1.data.toList = q1 L) := by show _ = _; rw [hQ, HL.out]; rfl
  rw [HL.out] at S1 ⊢
  clear hQ hr hg S0
  obtain ⟨K, hK⟩ : ∃ K, nuL (tkL 1 L) = K := ⟨_, rfl⟩
  rw [hK]
  have HK := Lib.hid hK
  clear hK
  obtain ⟨r, hr0⟩ : ∃ r, w2.heap.size = r := ⟨_, rfl⟩
  have S1a := Lib.hid (S1.out.alloc (.cells #[.int .i64 (K : Int), .string ⟨#[]⟩, .string ⟨#[]⟩, .int .i64 0, .bool false] 27))
  have B1 : Hid (RBox (w2.alloc (.cells #[.int .i64 (K : Int), .string ⟨#[]⟩, .string ⟨#[]⟩, .int .i64 0, .bool false] 27)) r ⟨K, 0, ⟨#[]⟩, ⟨#[]⟩, false⟩) := by
    have := heap_alloc_new w2 (.cells #[.int .i64 (K : Int), .string ⟨#[]⟩, .string ⟨#[]⟩, .int .i64 0, .bool false] 27)
    rw [hr0] at this
    exact this
  have hbr : w.heap.size ≤ r := by rw [← hr0]; exact S1.out.size
  have hgr : g ≠ r := by have := S1.out.rd.lt; omega
  have hor : w.heap.size ≠ r := by have := S1.out.out.lt; omega
  have hrg : r ≠ g := fun e => hgr e.symm
  go_wp2_with fail
  (try rw [hr0])
  clear hr0 S1
  generalize w2.alloc (.cells #[.int .i64 (K : Int), .string ⟨#[]⟩, .string ⟨#[]⟩, .int .i64 0, .bool false] 27) = W2 at *
  refine (number_any g 1 Q1 _ _ S1a.out.rd (by omega)).mono ?_
  rintro e w3 ⟨rfl, Q2, hQ, hqs2, hr, hg⟩
  have S2 := Lib.hid (S1a.out.step hg hr hbg hog)
  have B2 := Lib.hid (B1.out.grown hg (fun e => hgr (Option.some.inj e)))
  have HQ2 : Hid (Q2.data.toList = q2 L) := by show _ = _; rw [hQ, HQ1.out]; rfl
  rw [HQ1.out] at S2 ⊢
  obtain ⟨N, hN⟩ : ∃ N, nuL (tkL 1 (q1 L)) = N := ⟨_, rfl⟩
  rw [hN]
  have HNN : Hid (qn L = N) := hN
  have hn9 : N ≤ 1000 := by
    rw [← hN]
    have : (tkL 1 (q1 L)).length ≤ 1 := by unfold tkL; split <;> simp; omega
    have := nu_small _ this
    omega
  clear hQ hr hg hN S1a B1
  go_wp2_with fail
  refine (text_any g N Q2 _ _ S2.out.rd hn9).mono ?_
  rintro e w4 ⟨P, Q3, rfl, hP, hQ, hqs3, hr, hg⟩
  have S3 := Lib.hid (S2.out.step hg hr hbg hog)
  have B3 := Lib.hid (B2.out.grown hg (fun e => hgr (Option.some.inj e)))
  have HP : Hid (P.data.toList = tkL (qn L) (q2 L)) := by show _ = _; rw [hP, HQ2.out, HNN.out]
  have HQ3 : Hid (Q3.data.toList = q3 L) := by show _ = _; rw [hQ, HQ2.out]; unfold q3; rw [HNN.out]
  rw [HQ2.out] at S3
  have B3a : Hid (RBox (w4.setCell ⟨r, 1, none⟩ (.string P)) r ⟨K, 0, P, ⟨#[]⟩, false⟩) := heap_setCell_same w4 r 1 _ _ (.string P) B3.out
  have S3a := Lib.hid (S3.out.other (grown_set (w := w4) (g := r) (o := 1) (v := .string P)) hbr hor hgr)
  obtain ⟨_, c1, _, _, _⟩ := B3.out.cells
  have f1 := B3.out.frozen 1
  clear hP hQ hr hg S2 B2
  go_wp2_with fail
  generalize w4.setCell ⟨r, 1, none⟩ (.string P) = W4 at *
  clear c1 f1 S3 B3
  refine (number_any g 2 Q3 _ _ S3a.out.rd (by omega)).mono ?_
  rintro e w5 ⟨rfl, Q4, hQ, hqs4, hr, hg⟩
  have S4 := Lib.hid (S3a.out.step hg hr hbg hog)
  have B4 := Lib.hid (B3a.out.grown hg (fun e => hgr (Option.some.inj e)))
  have HQ4 : Hid (Q4.data.toList = q4 L) := by show _ = _; rw [hQ, HQ3.out]; rfl
  rw [HQ3.out] at S4 ⊢
  obtain ⟨M, hM⟩ : ∃ M, nuL (tkL 2 (q3 L)) = M := ⟨_, rfl⟩
  rw [hM]
  have HM := Lib.hid hM
  have B4a : Hid (RBox (w5.setCell ⟨r, 3, none⟩ (.int .i64 (M : Int))) r ⟨K, M, P, ⟨#[]⟩, false⟩) := heap_setCell_same w5 r 3 _ _ (.int .i64 (M : Int)) B4.out
  have S4a := Lib.hid (S4.out.other (grown_set (w := w5) (g := r) (o := 3) (v := .int .i64 (M : Int))) hbr hor hgr)
  obtain ⟨_, _, _, c3, _⟩ := B4.out.cells
  have f3 := B4.out.frozen 3
  clear hQ hr hg hM S3a B3a
  go_wp2_with fail
  generalize w5.setCell ⟨r, 3, none⟩ (.int .i64 (M : Int)) = W5 at *
  clear c3 f3 S4 B4
  refine (number_any g 1 Q4 _ _ S4a.out.rd (by omega)).mono ?_
  rintro e w6 ⟨rfl, Q5, hQ, hqs5, hr, hg⟩
  have S5 := Lib.hid (S4a.out.step hg hr hbg hog)
  have B5 := Lib.hid (B4a.out.grown hg (fun e => hgr (Option.some.inj e)))
  have HQ5 : Hid (Q5.data.toList = q5 L) := by show _ = _; rw [hQ, HQ4.out]; rfl
  rw [HQ4.out] at S5 ⊢
  obtain ⟨C, hC⟩ : ∃ C, nuL (tkL 1 (q4 L)) = C := ⟨_, rfl⟩
  rw [hC]
  have HC : Hid (qc L = C) := hC
  have hc9 : C ≤ 1000 := by
    rw [← hC]
    have : (tkL 1 (q4 L)).length ≤ 1 := by unfold tkL; split <;> simp; omega
    have := nu_small _ this
    omega
  clear hQ hr hg hC S4a B4a
  go_wp2_with fail
  refine (text_any g C Q5 _ _ S5.out.rd hc9).mono ?_
  rintro e w7 ⟨Y, Q6, rfl, hY, hQ, hqs6, hr, hg⟩
  have S6 := Lib.hid (S5.out.step hg hr hbg hog)
  have B6 := Lib.hid (B5.out.grown hg (fun e => hgr (Option.some.inj e)))
  have HY : Hid (Y.data.toList = tkL (qc L) (q5 L)) := by show _ = _; rw [hY, HQ5.out, HC.out]
  have HQ6 : Hid (Q6.data.toList = q6 L) := by show _ = _; rw [hQ, HQ5.out]; unfold q6; rw [HC.out]
  have HSH : Hid (shL C Q5.data.toList (shL 1 (q4 L) (shL 2 (q3 L) (shL N (q2 L) (shL 1 (q1 L) (shL 1 L false))))) = qs L) := by show _ = _; unfold qs; rw [HC.out, HNN.out, HQ5.out]
  rw [HSH.out] at S6
  have B6a : Hid (RBox (w7.setCell ⟨r, 2, none⟩ (.string Y)) r ⟨K, M, P, Y, false⟩) := heap_setCell_same w7 r 2 _ _ (.string Y) B6.out
  have S6a := Lib.hid (S6.out.other (grown_set (w := w7) (g := r) (o := 2) (v := .string Y)) hbr hor hgr)
  obtain ⟨_, _, c2, _, _⟩ := B6.out.cells
  have f2 := B6.out.frozen 2
  have HCC : Hid ((w7.setCell ⟨r, 2, none⟩ (.string Y)).cell? ⟨g, 1, none⟩ = some (.bool (qs L)) ∧ (w7.setCell ⟨r, 2, none⟩ (.string Y)).cell? ⟨g, 0, none⟩ = some (.string Q6)) := ⟨cell_of_row _ g 1 _ _ _ S6a.out.rd, cell_of_row _ g 0 _ _ _ S6a.out.rd⟩
  have HQ6s : Hid (Q6.size = (q6 L).length) := size_of_list HQ6.out
  clear hY hQ hr hg S5 B5 S6 B6 HSH
  rcases Bool.eq_false_or_eq_true (fitT L) with hf | hf
  · obtain ⟨e1, e2, e3, e4, e5, e6, e7⟩ := HF.out hf
    have HRR := Lib.hid (HRF.out hf)
    rw [e1] at HCC
    have HREC : Hid (recT L = ⟨if K = 5 then 3 else K, M, P, Y, decide (K = 5)⟩) := by
      show recT L = _
      have hp : P = ⟨((L.drop 2).take (byAt L 1)).toArray⟩ := str_of_list (by rw [HP.out, e3])
      have hy : Y = ⟨((L.drop (byAt L 1 + 5)).take (byAt L (byAt L 1 + 4))).toArray⟩ := str_of_list (by rw [HY.out, e5])
      unfold recT
      rw [← HK.out, e2, ← HM.out, e4, hp, hy]
      congr 1
    have HSZ : Hid ((t.size : Int) - (Q6.size : Int) = (sizT L : Int)) := by show _ = _; rw [HLs.out, HQ6s.out]; omega
    clear e1 e2 e3 e4 e5 e6 e7 hf HF HN HRF HRN HP HY
    by_cases hk5 : K = 5
    · subst hk5
      obtain ⟨y1, y0⟩ := HCC.out
      obtain ⟨x0, x1, x2, x3, x4⟩ := B6a.out.cells
      have v0 := B6a.out.frozen 0
      have B7 : Hid (RBox ((w7.setCell ⟨r, 2, none⟩ (.string Y)).setCell ⟨r, 0, none⟩ (.int .i64 3)) r ⟨3, M, P, Y, false⟩) := heap_setCell_same _ r 0 _ _ (.int .i64 3) B6a.out
      have S7 := Lib.hid (S6a.out.other (grown_set (w := w7.setCell ⟨r, 2, none⟩ (.string Y)) (g := r) (o := 0) (v := .int .i64 3)) hbr hor hgr)
      have B8 : Hid (RBox (((w7.setCell ⟨r, 2, none⟩ (.string Y)).setCell ⟨r, 0, none⟩ (.int .i64 3)).setCell ⟨r, 4, none⟩ (.bool true)) r ⟨3, M, P, Y, true⟩) := heap_setCell_same _ r 4 _ _ (.bool true) B7.out
      have S8 := Lib.hid (S7.out.other (grown_set (w := (w7.setCell ⟨r, 2, none⟩ (.string Y)).setCell ⟨r, 0, none⟩ (.int .i64 3)) (g := r) (o := 4) (v := .bool true)) hbr hor hgr)
      obtain ⟨_, _, _, _, u4⟩ := B7.out.cells
      have v4 := B7.out.frozen 4
      obtain ⟨s0, s1, s2, s3, s4⟩ := B8.out.cells
      have s5 : (((w7.setCell ⟨r, 2, none⟩ (.string Y)).setCell ⟨r, 0, none⟩ (.int .i64 3)).setCell ⟨r, 4, none⟩ (.bool true)).cell? ⟨g, 0, none⟩ = some (.string Q6) := cell_of_row _ g 0 _ _ _ S8.out.rd
      have hsz := HSZ.out
      have hwr : IntKind.i64.wrap (sizT L : Int) = (sizT L : Int) := IntWalk.i64_in _ (by have := (siz_lt L).1; omega)
      have HK6 := Lib.hid hbg
      go_wp2_with fail
      generalize ((w7.setCell ⟨r, 2, none⟩ (.string Y)).setCell ⟨r, 0, none⟩ (.int .i64 3)).setCell ⟨r, 4, none⟩ (.bool true) = W8 at *
      have HB9 := Lib.hid S8.out.bel
      have hz9 := S8.out.out.lt
      obtain ⟨o0, o1, o2, o3, o4⟩ := S8.out.out.cells
      have g0 := S8.out.out.frozen 0
      have g1 := S8.out.out.frozen 1
      have g2 := S8.out.out.frozen 2
      have g3 := S8.out.out.frozen 3
      have g4 := S8.out.out.frozen 4
      have p0 : W8.cell? ⟨r, 0, none⟩ = some (.int .i64 3) := B8.out.cells.1
      have p1 : W8.cell? ⟨r, 1, none⟩ = some (.string P) := B8.out.cells.2.1
      have p2 : W8.cell? ⟨r, 2, none⟩ = some (.string Y) := B8.out.cells.2.2.1
      have p3 : W8.cell? ⟨r, 3, none⟩ = some (.int .i64 (M : Int)) := B8.out.cells.2.2.2.1
      have p4 : W8.cell? ⟨r, 4, none⟩ = some (.bool true) := B8.out.cells.2.2.2.2
      have p5 : W8.cell? ⟨g, 0, none⟩ = some (.string Q6) := cell_of_row _ g 0 _ _ _ S8.out.rd
      have hro : r ≠ w.heap.size := fun e => hor e.symm
      have hgo : g ≠ w.heap.size := fun e => hog e.symm
      clear S8 B8
      have HD8 := Lib.hid ((Below.refl W8.heap.size W8).drew)
      refine wp_region_held_drew (S := (fun W' => W'.cell? ⟨r, 0, none⟩ = some (.int .i64 3) ∧ W'.cell? ⟨r, 1, none⟩ = some (.string P) ∧ W'.cell? ⟨r, 2, none⟩ = some (.string Y) ∧ W'.cell? ⟨r, 3, none⟩ = some (.int .i64 (M : Int)) ∧ W'.cell? ⟨r, 4, none⟩ = some (.bool true) ∧ W'.cell? ⟨g, 0, none⟩ = some (.string Q6))) (by kernel_rfl) ⟨p0, p1, p2, p3, p4, p5⟩ (fun hHeld => ?_)
      have hsd : w.heap.size < W8.drew.heap.size := hz9
      replace HB9 := Lib.hid HB9.out.drew
      have d0 : W8.drew.cell? ⟨w.heap.size, 0, none⟩ = some (.int .i64 0) := o0
      have d1 : W8.drew.cell? ⟨w.heap.size, 1, none⟩ = some (.string ⟨#[]⟩) := o1
      have d2 : W8.drew.cell? ⟨w.heap.size, 2, none⟩ = some (.string ⟨#[]⟩) := o2
      have d3 : W8.drew.cell? ⟨w.heap.size, 3, none⟩ = some (.int .i64 0) := o3
      have d4 : W8.drew.cell? ⟨w.heap.size, 4, none⟩ = some (.bool false) := o4
      have k0 : W8.drew.frozen? ⟨w.heap.size, 0, none⟩ = false := g0
      have k1 : W8.drew.frozen? ⟨w.heap.size, 1, none⟩ = false := g1
      have k2 : W8.drew.frozen? ⟨w.heap.size, 2, none⟩ = false := g2
      have k3 : W8.drew.frozen? ⟨w.heap.size, 3, none⟩ = false := g3
      have k4 : W8.drew.frozen? ⟨w.heap.size, 4, none⟩ = false := g4
      clear o0 o1 o2 o3 o4 g0 g1 g2 g3 g4 p0 p1 p2 p3 p4 p5
      generalize W8.drew = W9 at *
      refine wpAnyH_take (i := 0) (oi := { dst := some 26, op := Go.Op.load 27 (Go.Operand.tmp 5), type := 27, pos := "l09_bytes.go:107", after := #[], guard := none }) (v := ?v0) rfl (by kernel_rfl) (by kernel_rfl) (by kernel_rfl) (fun _ _ _ h => h) (Or.inl ⟨by rfl, ?y0⟩) hHeld ?z0
      case y0 =>
        intro w hSw
        (try dsimp only at hSw)
        go_simp
        try with_reducible rfl
      simp only [Act.put, List.setIfInBounds_toArray, List.set_cons_zero, List.set_cons_succ]
      refine wpAnyH_take (i := 1) (oi := { dst := some 27, op := Go.Op.move (Go.Operand.tmp 0), type := 9, pos := "l09_bytes.go:107", after := #[], guard := none }) (v := ?v1) rfl (by kernel_rfl) (by kernel_rfl) (by kernel_rfl) (fun _ _ _ h => h) (Or.inl ⟨by rfl, ?y1⟩) hHeld ?z1
      case y1 =>
        intro w hSw
        (try dsimp only at hSw)
        go_simp
        try with_reducible rfl
      simp only [Act.put, List.setIfInBounds_toArray, List.set_cons_zero, List.set_cons_succ]
      refine wpAnyH_take (i := 2) (oi := { dst := some 28, op := Go.Op.call { callee := Go.Callee.builtin Go.Builtin.len, args := #[Go.Operand.tmp 27], argTypes := #[9] }, type := 3, pos := "l09_bytes.go:107", after := #[{ on := 1, ground := Go.Ground.data }], guard := none }) (v := ?v2) rfl (by kernel_rfl) (by kernel_rfl) (by kernel_rfl) (fun _ _ _ h => h) (Or.inl ⟨by rfl, ?y2⟩) hHeld ?z2
      case y2 =>
        intro w hSw
        (try dsimp only at hSw)
        go_simp
        try with_reducible rfl
      simp only [Act.put, List.setIfInBounds_toArray, List.set_cons_zero, List.set_cons_succ]
      refine wpAnyH_take (i := 3) (oi := { dst := some 29, op := Go.Op.fieldAddr 67 (Go.Operand.tmp 4) 0, type := 0, pos := "l09_bytes.go:107", after := #[], guard := none }) (v := ?v3) rfl (by kernel_rfl) (by kernel_rfl) (by kernel_rfl) (fun _ _ _ h => h) (Or.inl ⟨by rfl, ?y3⟩) hHeld ?z3
      case y3 =>
        intro w hSw
        (try dsimp only at hSw)
        go_simp
        try with_reducible rfl
      simp only [Act.put, List.setIfInBounds_toArray, List.set_cons_zero, List.set_cons_succ]
      refine wpAnyH_take (i := 4) (oi := { dst := some 30, op := Go.Op.load 9 (Go.Operand.tmp 29), type := 9, pos := "l09_bytes.go:107", after := #[{ on := 3, ground := Go.Ground.data }], guard := none }) (v := ?v4) rfl (by kernel_rfl) (by kernel_rfl) (by kernel_rfl) (fun _ _ _ h => h) (Or.inl ⟨by rfl, ?y4⟩) hHeld ?z4
      case y4 =>
        intro w hSw
        (try dsimp only at hSw)
        go_simp
        try with_reducible rfl
      simp only [Act.put, List.setIfInBounds_toArray, List.set_cons_zero, List.set_cons_succ]
      refine wpAnyH_take (i := 5) (oi := { dst := some 31, op := Go.Op.call { callee := Go.Callee.builtin Go.Builtin.len, args := #[Go.Operand.tmp 30], argTypes := #[9] }, type := 3, pos := "l09_bytes.go:107", after := #[{ on := 4, ground := Go.Ground.data }], guard := none }) (v := ?v5) rfl (by kernel_rfl) (by kernel_rfl) (by kernel_rfl) (fun _ _ _ h => h) (Or.inl ⟨by rfl, ?y5⟩) hHeld ?z5
      case y5 =>
        intro w hSw
        (try dsimp only at hSw)
        go_simp
        try with_reducible rfl
      simp only [Act.put, List.setIfInBounds_toArray, List.set_cons_zero, List.set_cons_succ]
      refine wpAnyH_take (i := 6) (oi := { dst := some 32, op := Go.Op.binOp Go.BinOp.sub 3 (Go.Operand.tmp 28) (Go.Operand.tmp 31) 3, type := 3, pos := "l09_bytes.go:107", after := #[{ on := 2, ground := Go.Ground.data }, { on := 5, ground := Go.Ground.data }, { on := 7, ground := Go.Ground.gcOnly Go.Departure.lateStores }], guard := none }) (v := ?v6) rfl (by kernel_rfl) (by kernel_rfl) (by kernel_rfl) (fun _ _ _ h => h) (Or.inl ⟨by rfl, ?y6⟩) hHeld ?z6
      case y6 =>
        intro w hSw
        (try dsimp only at hSw)
        go_simp
        try with_reducible rfl
      simp only [Act.put, List.setIfInBounds_toArray, List.set_cons_zero, List.set_cons_succ]
      refine wpAnyH_ready (rs := [7]) (by kernel_rfl) (by simp) ?_
      refine AllReadyH.cons (o := { dst := none, op := Go.Op.store 27 (Go.Operand.tmp 2) (Go.Operand.tmp 26), type := 0, pos := "l09_bytes.go:107", after := #[{ on := 0, ground := Go.Ground.data }, { on := 0, ground := Go.Ground.phase }, { on := 1, ground := Go.Ground.textOnly Go.Departure.lateStores }, { on := 2, ground := Go.Ground.textOnly Go.Departure.lateStoresUnsure }, { on := 3, ground := Go.Ground.textOnly Go.Departure.lateStores }, { on := 4, ground := Go.Ground.textOnly Go.Departure.lateStores }, { on := 5, ground := Go.Ground.textOnly Go.Departure.lateStoresUnsure }, { on := 6, ground := Go.Ground.textOnly Go.Departure.lateStores }], guard := none }) rfl (fun K hK => ?_) AllReadyH.nil
      obtain ⟨e0, e1, e2, e3, e4, e5⟩ := hHeld
      go_simp
      (try go_wp2_with fail)
      refine hK.out _ _ ⟨(five_other W9 _ _ _ _ _ _ hro).trans e0, (five_other W9 _ _ _ _ _ _ hro).trans e1, (five_other W9 _ _ _ _ _ _ hro).trans e2, (five_other W9 _ _ _ _ _ _ hro).trans e3, (five_other W9 _ _ _ _ _ _ hro).trans e4, (five_other W9 _ _ _ _ _ _ hgo).trans e5⟩ (fun hHeld2 => ?_)
      clear hK K e0 e1 e2 e3 e4 e5
      refine wpAnyH_take (i := 8) (oi := { dst := some 3, op := Go.Op.assign (Go.Operand.tmp 32), type := 3, pos := "l09_bytes.go:107", after := #[{ on := 6, ground := Go.Ground.data }, { on := 7, ground := Go.Ground.chain }, { on := 0, ground := Go.Ground.phase }, { on := 1, ground := Go.Ground.phase }, { on := 2, ground := Go.Ground.phase }, { on := 3, ground := Go.Ground.phase }, { on := 4, ground := Go.Ground.phase }, { on := 5, ground := Go.Ground.phase }, { on := 6, ground := Go.Ground.phase }, { on := 7, ground := Go.Ground.phase }], guard := none }) (v := ?v8) rfl (by kernel_rfl) (by kernel_rfl) (by kernel_rfl) (fun _ _ _ h => h) (Or.inl ⟨by rfl, ?y8⟩) hHeld2 ?z8
      case y8 =>
        intro w hSw
        (try dsimp only at hSw)
        go_simp
        try with_reducible rfl
      simp only [Act.put, List.setIfInBounds_toArray, List.set_cons_zero, List.set_cons_succ]
      refine wpAnyH_done (by kernel_rfl) ?_ _
      go_wp2_with fail
      refine bodyPost_ret (v := .tuple #[.agg #[.int .i64 3, .string P, .string Y, .int .i64 (M : Int), .bool true], .int .i64 (sizT L : Int)]) (by simp [results, Tryd.results33, go_sem, d0, d1, d2, d3, d4]) rfl ⟨?_, ?_⟩
      · rw [HRR.out.1, HRR.out.2, HREC.out]
        first | rfl | (unfold R.val; simp [HK6])
      iterate 5 (refine Below.setCell ?_ (by simp) _)
      exact HB9.out
    · have hk6 : ((K : Int) == 5) = false := by simp; omega
      obtain ⟨y1, y0⟩ := HCC.out
      obtain ⟨x0, x1, x2, x3, x4⟩ := B6a.out.cells
      have s5 := y0
      have B8 := B6a
      have S8 := S6a
      have hsz := HSZ.out
      have hwr : IntKind.i64.wrap (sizT L : Int) = (sizT L : Int) := IntWalk.i64_in _ (by have := (siz_lt L).1; omega)
      have HK6 : ¬ K = 5 := hk5
      go_wp2_with fail
      generalize w7.setCell ⟨r, 2, none⟩ (.string Y) = W8 at *
      have HB9 := Lib.hid S8.out.bel
      have hz9 := S8.out.out.lt
      obtain ⟨o0, o1, o2, o3, o4⟩ := S8.out.out.cells
      have g0 := S8.out.out.frozen 0
      have g1 := S8.out.out.frozen 1
      have g2 := S8.out.out.frozen 2
      have g3 := S8.out.out.frozen 3
      have g4 := S8.out.out.frozen 4
      have p0 : W8.cell? ⟨r, 0, none⟩ = some (.int .i64 (K : Int)) := B8.out.cells.1
      have p1 : W8.cell? ⟨r, 1, none⟩ = some (.string P) := B8.out.cells.2.1
      have p2 : W8.cell? ⟨r, 2, none⟩ = some (.string Y) := B8.out.cells.2.2.1
      have p3 : W8.cell? ⟨r, 3, none⟩ = some (.int .i64 (M : Int)) := B8.out.cells.2.2.2.1
      have p4 : W8.cell? ⟨r, 4, none⟩ = some (.bool false) := B8.out.cells.2.2.2.2
      have p5 : W8.cell? ⟨g, 0, none⟩ = some (.string Q6) := cell_of_row _ g 0 _ _ _ S8.out.rd
      have hro : r ≠ w.heap.size := fun e => hor e.symm
      have hgo : g ≠ w.heap.size := fun e => hog e.symm
      clear S8 B8
      have HD8 := Lib.hid ((Below.refl W8.heap.size W8).drew)
      refine wp_region_held_drew (S := (fun W' => W'.cell? ⟨r, 0, none⟩ = some (.int .i64 (K : Int)) ∧ W'.cell? ⟨r, 1, none⟩ = some (.string P) ∧ W'.cell? ⟨r, 2, none⟩ = some (.string Y) ∧ W'.cell? ⟨r, 3, none⟩ = some (.int .i64 (M : Int)) ∧ W'.cell? ⟨r, 4, none⟩ = some (.bool false) ∧ W'.cell? ⟨g, 0, none⟩ = some (.string Q6))) (by kernel_rfl) ⟨p0, p1, p2, p3, p4, p5⟩ (fun hHeld => ?_)
      have hsd : w.heap.size < W8.drew.heap.size := hz9
      replace HB9 := Lib.hid HB9.out.drew
      have d0 : W8.drew.cell? ⟨w.heap.size, 0, none⟩ = some (.int .i64 0) := o0
      have d1 : W8.drew.cell? ⟨w.heap.size, 1, none⟩ = some (.string ⟨#[]⟩) := o1
      have d2 : W8.drew.cell? ⟨w.heap.size, 2, none⟩ = some (.string ⟨#[]⟩) := o2
      have d3 : W8.drew.cell? ⟨w.heap.size, 3, none⟩ = some (.int .i64 0) := o3
      have d4 : W8.drew.cell? ⟨w.heap.size, 4, none⟩ = some (.bool false) := o4
      have k0 : W8.drew.frozen? ⟨w.heap.size, 0, none⟩ = false := g0
      have k1 : W8.drew.frozen? ⟨w.heap.size, 1, none⟩ = false := g1
      have k2 : W8.drew.frozen? ⟨w.heap.size, 2, none⟩ = false := g2
      have k3 : W8.drew.frozen? ⟨w.heap.size, 3, none⟩ = false := g3
      have k4 : W8.drew.frozen? ⟨w.heap.size, 4, none⟩ = false := g4
      clear o0 o1 o2 o3 o4 g0 g1 g2 g3 g4 p0 p1 p2 p3 p4 p5
      generalize W8.drew = W9 at *
      refine wpAnyH_take (i := 0) (oi := { dst := some 26, op := Go.Op.load 27 (Go.Operand.tmp 5), type := 27, pos := "l09_bytes.go:107", after := #[], guard := none }) (v := ?vn0) rfl (by kernel_rfl) (by kernel_rfl) (by kernel_rfl) (fun _ _ _ h => h) (Or.inl ⟨by rfl, ?yn0⟩) hHeld ?zn0
      case yn0 =>
        intro w hSw
        (try dsimp only at hSw)
        go_simp
        try with_reducible rfl
      simp only [Act.put, List.setIfInBounds_toArray, List.set_cons_zero, List.set_cons_succ]
      refine wpAnyH_take (i := 1) (oi := { dst := some 27, op := Go.Op.move (Go.Operand.tmp 0), type := 9, pos := "l09_bytes.go:107", after := #[], guard := none }) (v := ?vn1) rfl (by kernel_rfl) (by kernel_rfl) (by kernel_rfl) (fun _ _ _ h => h) (Or.inl ⟨by rfl, ?yn1⟩) hHeld ?zn1
      case yn1 =>
        intro w hSw
        (try dsimp only at hSw)
        go_simp
        try with_reducible rfl
      simp only [Act.put, List.setIfInBounds_toArray, List.set_cons_zero, List.set_cons_succ]
      refine wpAnyH_take (i := 2) (oi := { dst := some 28, op := Go.Op.call { callee := Go.Callee.builtin Go.Builtin.len, args := #[Go.Operand.tmp 27], argTypes := #[9] }, type := 3, pos := "l09_bytes.go:107", after := #[{ on := 1, ground := Go.Ground.data }], guard := none }) (v := ?vn2) rfl (by kernel_rfl) (by kernel_rfl) (by kernel_rfl) (fun _ _ _ h => h) (Or.inl ⟨by rfl, ?yn2⟩) hHeld ?zn2
      case yn2 =>
        intro w hSw
        (try dsimp only at hSw)
        go_simp
        try with_reducible rfl
      simp only [Act.put, List.setIfInBounds_toArray, List.set_cons_zero, List.set_cons_succ]
      refine wpAnyH_take (i := 3) (oi := { dst := some 29, op := Go.Op.fieldAddr 67 (Go.Operand.tmp 4) 0, type := 0, pos := "l09_bytes.go:107", after := #[], guard := none }) (v := ?vn3) rfl (by kernel_rfl) (by kernel_rfl) (by kernel_rfl) (fun _ _ _ h => h) (Or.inl ⟨by rfl, ?yn3⟩) hHeld ?zn3
      case yn3 =>
        intro w hSw
        (try dsimp only at hSw)
        go_simp
        try with_reducible rfl
      simp only [Act.put, List.setIfInBounds_toArray, List.set_cons_zero, List.set_cons_succ]
      refine wpAnyH_take (i := 4) (oi := { dst := some 30, op := Go.Op.load 9 (Go.Operand.tmp 29), type := 9, pos := "l09_bytes.go:107", after := #[{ on := 3, ground := Go.Ground.data }], guard := none }) (v := ?vn4) rfl (by kernel_rfl) (by kernel_rfl) (by kernel_rfl) (fun _ _ _ h => h) (Or.inl ⟨by rfl, ?yn4⟩) hHeld ?zn4
      case yn4 =>
        intro w hSw
        (try dsimp only at hSw)
        go_simp
        try with_reducible rfl
      simp only [Act.put, List.setIfInBounds_toArray, List.set_cons_zero, List.set_cons_succ]
      refine wpAnyH_take (i := 5) (oi := { dst := some 31, op := Go.Op.call { callee := Go.Callee.builtin Go.Builtin.len, args := #[Go.Operand.tmp 30], argTypes := #[9] }, type := 3, pos := "l09_bytes.go:107", after := #[{ on := 4, ground := Go.Ground.data }], guard := none }) (v := ?vn5) rfl (by kernel_rfl) (by kernel_rfl) (by kernel_rfl) (fun _ _ _ h => h) (Or.inl ⟨by rfl, ?yn5⟩) hHeld ?zn5
      case yn5 =>
        intro w hSw
        (try dsimp only at hSw)
        go_simp
        try with_reducible rfl
      simp only [Act.put, List.setIfInBounds_toArray, List.set_cons_zero, List.set_cons_succ]
      refine wpAnyH_take (i := 6) (oi := { dst := some 32, op := Go.Op.binOp Go.BinOp.sub 3 (Go.Operand.tmp 28) (Go.Operand.tmp 31) 3, type := 3, pos := "l09_bytes.go:107", after := #[{ on := 2, ground := Go.Ground.data }, { on := 5, ground := Go.Ground.data }, { on := 7, ground := Go.Ground.gcOnly Go.Departure.lateStores }], guard := none }) (v := ?vn6) rfl (by kernel_rfl) (by kernel_rfl) (by kernel_rfl) (fun _ _ _ h => h) (Or.inl ⟨by rfl, ?yn6⟩) hHeld ?zn6
      case yn6 =>
        intro w hSw
        (try dsimp only at hSw)
        go_simp
        try with_reducible rfl
      simp only [Act.put, List.setIfInBounds_toArray, List.set_cons_zero, List.set_cons_succ]
      refine wpAnyH_ready (rs := [7]) (by kernel_rfl) (by simp) ?_
      refine AllReadyH.cons (o := { dst := none, op := Go.Op.store 27 (Go.Operand.tmp 2) (Go.Operand.tmp 26), type := 0, pos := "l09_bytes.go:107", after := #[{ on := 0, ground := Go.Ground.data }, { on := 0, ground := Go.Ground.phase }, { on := 1, ground := Go.Ground.textOnly Go.Departure.lateStores }, { on := 2, ground := Go.Ground.textOnly Go.Departure.lateStoresUnsure }, { on := 3, ground := Go.Ground.textOnly Go.Departure.lateStores }, { on := 4, ground := Go.Ground.textOnly Go.Departure.lateStores }, { on := 5, ground := Go.Ground.textOnly Go.Departure.lateStoresUnsure }, { on := 6, ground := Go.Ground.textOnly Go.Departure.lateStores }], guard := none }) rfl (fun K hK => ?_) AllReadyH.nil
      obtain ⟨e0, e1, e2, e3, e4, e5⟩ := hHeld
      go_simp
      (try go_wp2_with fail)
      refine hK.out _ _ ⟨(five_other W9 _ _ _ _ _ _ hro).trans e0, (five_other W9 _ _ _ _ _ _ hro).trans e1, (five_other W9 _ _ _ _ _ _ hro).trans e2, (five_other W9 _ _ _ _ _ _ hro).trans e3, (five_other W9 _ _ _ _ _ _ hro).trans e4, (five_other W9 _ _ _ _ _ _ hgo).trans e5⟩ (fun hHeld2 => ?_)
      clear hK K e0 e1 e2 e3 e4 e5
      refine wpAnyH_take (i := 8) (oi := { dst := some 3, op := Go.Op.assign (Go.Operand.tmp 32), type := 3, pos := "l09_bytes.go:107", after := #[{ on := 6, ground := Go.Ground.data }, { on := 7, ground := Go.Ground.chain }, { on := 0, ground := Go.Ground.phase }, { on := 1, ground := Go.Ground.phase }, { on := 2, ground := Go.Ground.phase }, { on := 3, ground := Go.Ground.phase }, { on := 4, ground := Go.Ground.phase }, { on := 5, ground := Go.Ground.phase }, { on := 6, ground := Go.Ground.phase }, { on := 7, ground := Go.Ground.phase }], guard := none }) (v := ?vn8) rfl (by kernel_rfl) (by kernel_rfl) (by kernel_rfl) (fun _ _ _ h => h) (Or.inl ⟨by rfl, ?yn8⟩) hHeld2 ?zn8
      case yn8 =>
        intro w hSw
        (try dsimp only at hSw)
        go_simp
        try with_reducible rfl
      simp only [Act.put, List.setIfInBounds_toArray, List.set_cons_zero, List.set_cons_succ]
      refine wpAnyH_done (by kernel_rfl) ?_ _
      go_wp2_with fail
      refine bodyPost_ret (v := .tuple #[.agg #[.int .i64 (K : Int), .string P, .string Y, .int .i64 (M : Int), .bool false], .int .i64 (sizT L : Int)]) (by simp [results, Tryd.results33, go_sem, d0, d1, d2, d3, d4]) rfl ⟨?_, ?_⟩
      · rw [HRR.out.1, HRR.out.2, HREC.out]
        first | rfl | (unfold R.val; simp [HK6])
      iterate 5 (refine Below.setCell ?_ (by simp) _)
      exact HB9.out
  · have HS := Lib.hid (HN.out hf)
    have HRR := Lib.hid (HRN.out hf)
    rw [HS.out] at HCC
    clear hf HF HN HRF HRN HP HY
    obtain ⟨y1, y0⟩ := HCC.out
    obtain ⟨x0, x1, x2, x3, x4⟩ := B6a.out.cells
    obtain ⟨o0, o1, o2, o3, o4⟩ := S6a.out.out.cells
    have g0 := S6a.out.out.frozen 0
    have g1 := S6a.out.out.frozen 1
    have g2 := S6a.out.out.frozen 2
    have g3 := S6a.out.out.frozen 3
    have g4 := S6a.out.out.frozen 4
    have HB9 := Lib.hid S6a.out.bel
    go_wp2_with fail
    refine bodyPost_ret (v := .tuple #[.agg #[.int .i64 0, .string ⟨#[]⟩, .string ⟨#[]⟩, .int .i64 0, .bool false], .int .i64 0]) (by simp [results, Tryd.results33, go_sem, o0, o1, o2, o3, o4]) rfl ⟨?_, ?_⟩
    · rw [HRR.out.1, HRR.out.2]
      rfl
    iterate 5 (refine Below.setCell ?_ (by simp) _)
    exact HB9.out
end Go.Proofs.YtciflchaepchiaaDoor.Recs
