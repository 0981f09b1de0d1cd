/- Parts of several texts of mine in one file (each begins with its own remark). -/
import Derived.Test.YtibekkfbpmloiabGreatDoorHA1
import Derived.Test.YtibekkfbpmloiabGreatDoorHA10
import Derived.Test.YtibekkfbpmloiabGreatDoorHA12
import Derived.Test.YtibekkfbpmloiabGreatDoorHA14
import Derived.Test.YtibekkfbpmloiabGreatDoorHA15
import Derived.Test.YtibekkfbpmloiabGreatDoorHA16
import Derived.Test.YtibekkfbpmloiabGreatDoorHA2
import Derived.Test.YtibekkfbpmloiabGreatDoorHA3
import Derived.Test.YtibekkfbpmloiabGreatDoorHA4
import Derived.Test.YtibekkfbpmloiabGreatDoorHA5
import Derived.Test.YtibekkfbpmloiabGreatDoorHA6
import Derived.Test.YtibekkfbpmloiabGreatDoorHA7
import Derived.Test.YtibekkfbpmloiabGreatDoorHA8
import Derived.Test.YtibekkfbpmloiabGreatDoorHA9
import Derived.Test.YtibekkfbpmloiabGreatDoorChecked
import Derived.Test.YtibekkfbpmloiabGreatDoorShelf
import Derived.Test.YtibekkfbpmloiabGreatDoorProg
import Derived.Test.YtibekkfbpmloiabGreatDoorRows
import Derived.Deep.Slices
import Derived.OpenShut
import Derived.ShutString
import Derived.ChangeArms
import Derived.WideShapes
import Derived.Lib.LaidTab
import Derived.BigQuiet
import Derived.Deep.QuietTactic
import Derived.Deep.RegionHeld3
import Derived.StillTailTactics
import Derived.Deep.Draws
import Derived.Deep.LoopGhost
import Derived.WalkKit
import Derived.WalkSpells
import Derived.WalkSmall
import Derived.Lib.OthersKept
import Derived.Lib.Hide
import Derived.Lib.Strings
import Derived.Lib.Join
import Derived.Laws.OwnMore
import Derived.BigRegion
import Derived.Laws.BytesArg
import Derived.Stop.LaidErr
import Derived.WalkLawsBesides
import Derived.LaidEql
import Derived.Stop.Asserts
import Derived.Below
import Derived.Stop.LaidTwo
import Derived.ChangeVars
import Derived.Deep.DeepHandedRow
import Derived.Deep.RegionWith
import Derived.OneCell
import Derived.Lib.SliceRun
import Derived.Lib.Overlaps
import Derived.Lib.AppendZerosOnto
import Derived.Laws.NewBlocks
import Derived.Laws.IdiomCopy
import Derived.Deep.RegionLaw
/- The winner of the records of one path, and these records, of the program. -/
namespace Go.Proofs.YtibekkfbpmloiabGreatDoor.Recs
set_option maxRecDepth 100000
open Go.RowKit Paths

/-- A record with the number of its layer: its value, its cells. -/
def pv (p : R × Nat) : Value := .agg #[.int .i64 p.1.k, .string p.1.p, .string p.1.b, .int .i64 p.1.m, .bool p.1.o, .int .i64 (p.2 : Int)]
theorem alloc_here (w : World) (o : Obj) : (w.alloc o).heap[w.heap.size]? = some o := by
  show (w.heap.push o)[w.heap.size]? = some o
  exact Array.getElem?_push_size
def csP (p : R × Nat) : List Value := [.int .i64 p.1.k, .string p.1.p, .string p.1.b, .int .i64 p.1.m, .bool p.1.o, .int .i64 (p.2 : Int)]
theorem csP_len (p : R × Nat) : (csP p).length = 6 := rfl
def PCells (w : World) (b off : Nat) (p : R × Nat) : Prop := RecCells w b off p.1 ∧ w.cell? ⟨b, off + 5, none⟩ = some (.int .i64 (p.2 : Int))
theorem PCells.below {w w' : World} {B b off : Nat} {p : R × Nat} (h : PCells w b off p) (hb : Below B w w') (hB : b < B) : PCells w' b off p := ⟨h.1.below hb hB, (hb.cell (p := ⟨b, off + 5, none⟩) hB).trans h.2⟩
def PSl (w : World) (v : Value) (G : List (R × Nat)) : Prop :=
  ∃ A cap, v = .slice A G.length cap ∧ G.length ≤ cap ∧ (0 < G.length → ∃ b off, A = some ⟨b, off, none⟩ ∧ b < w.heap.size ∧ ∀ i p, G[i]? = some p → PCells w b (off + i * 6) p)
theorem PSl.below {w w' : World} {v : Value} {G : List (R × Nat)} (h : PSl w v G) (hb : Below w.heap.size w w') : PSl w' v G := by
  obtain ⟨A, cap, rfl, hc, h⟩ := h
  refine ⟨A, cap, rfl, hc, fun hn => ?_⟩
  obtain ⟨b, off, rfl, hlt, hcell⟩ := h hn
  exact ⟨b, off, rfl, Nat.lt_of_lt_of_le hlt hb.size, fun i p hi => (hcell i p hi).below hb hlt⟩
abbrev RowP (w : World) (base : Nat) (v : Value) (n : Nat) (G : List (R × Nat)) : Prop := RowG csP 6 103 w base v n G
theorem RowP.sl {w : World} {base : Nat} {v : Value} {n : Nat} {G : List (R × Nat)} (h : RowP w base v n G) : PSl w v G := by
  have hh := h
  obtain ⟨rfl, h⟩ := h
  rcases h.2 with ⟨rfl, hn⟩ | ⟨g, cap, cur, rfl, hb, hg, hc, _⟩
  · exact ⟨none, 0, by rw [hn], by omega, fun h => by omega⟩
  · refine ⟨_, cap, rfl, hc, fun _ => ⟨g, 0, rfl, (Array.getElem?_eq_some_iff.1 hg).1, fun i p hi => ?_⟩⟩
    have hlt := (List.getElem?_eq_some_iff.1 hi).1
    have he := (List.getElem?_eq_some_iff.1 hi).2
    have one : ∀ c, c < 6 → w.cell? ⟨g, i * 6 + c, none⟩ = (csP p)[c]? := fun c hc => by
      rw [RowG.cell csP_len hh hlt hc, he]
    rw [Nat.zero_add]
    exact ⟨⟨one 0 (by omega), one 1 (by omega), one 2 (by omega), one 3 (by omega), one 4 (by omega)⟩, one 5 (by omega)⟩
/-- A block that holds one of them. -/
def Pbox (w : World) (B : Nat) (p : R × Nat) : Prop := w.heap[B]? = some (.cells #[.int .i64 p.1.k, .string p.1.p, .string p.1.b, .int .i64 p.1.m, .bool p.1.o, .int .i64 (p.2 : Int)] 103 (0, 0))
theorem Pbox.lt {w : World} {B : Nat} {p : R × Nat} (h : Pbox w B p) : B < w.heap.size := (Array.getElem?_eq_some_iff.1 h).1
theorem Pbox.cells {w : World} {B : Nat} {p : R × Nat} (h : Pbox w B p) : PCells w B 0 p := by
  refine ⟨⟨?_, ?_, ?_, ?_, ?_⟩, ?_⟩ <;> simp [World.cell?, show w.heap[B]? = _ from h]
theorem Pbox.frozen {w : World} {B : Nat} {p : R × Nat} (h : Pbox w B p) (j : Nat) : w.frozen? ⟨B, j, none⟩ = false := by simp [World.frozen?, show w.heap[B]? = _ from h]
theorem Pbox.below {w w' : World} {K B : Nat} {p : R × Nat} (h : Pbox w B p) (hb : Below K w w') (hB : B < K) : Pbox w' B p := (hb.block B hB).trans h
theorem setCell_heap {w : World} {B j : Nat} {u : Value} {cur : Array Value} {T : TypeId} {fz : Nat × Nat} (h : w.heap[B]? = some (.cells cur T fz)) : (w.setCell ⟨B, j, none⟩ u).heap[B]? = some (.cells (cur.setIfInBounds j u) T fz) := by
  have hlt := (Array.getElem?_eq_some_iff.1 h).1
  simp only [World.setCell, Array.getElem?_modify, h]
  simp
theorem Pbox.set {w : World} {B : Nat} {p : R × Nat} (h : Pbox w B p) (r : R) (n : Nat) :
    Pbox ((((((w.setCell ⟨B, 0, none⟩ (.int .i64 r.k)).setCell ⟨B, 1, none⟩ (.string r.p)).setCell ⟨B, 2, none⟩ (.string r.b)).setCell ⟨B, 3, none⟩ (.int .i64 r.m)).setCell ⟨B, 4, none⟩ (.bool r.o)).setCell ⟨B, 5, none⟩ (.int .i64 (n : Int))) B (r, n) := by
  have h1 := setCell_heap (j := 0) (u := .int .i64 r.k) h
  have h2 := setCell_heap (j := 1) (u := .string r.p) h1
  have h3 := setCell_heap (j := 2) (u := .string r.b) h2
  have h4 := setCell_heap (j := 3) (u := .int .i64 r.m) h3
  have h5 := setCell_heap (j := 4) (u := .bool r.o) h4
  have h6 := setCell_heap (j := 5) (u := .int .i64 (n : Int)) h5
  unfold Pbox
  rw [h6]
  rfl
theorem Pbox.other {w : World} {B B' j : Nat} {p : R × Nat} {u : Value} (h : Pbox w B p) (hne : B ≠ B') : Pbox (w.setCell ⟨B', j, none⟩ u) B p := by
  unfold Pbox at h ⊢
  simp only [World.setCell, Array.getElem?_modify, h]
  rw [if_neg (fun e => hne e.symm)]
/-- A block that holds a record. -/
def Rbox (w : World) (B : Nat) (r : R) : Prop := w.heap[B]? = some (.cells #[.int .i64 r.k, .string r.p, .string r.b, .int .i64 r.m, .bool r.o] 53 (0, 0))
theorem Rbox.lt {w : World} {B : Nat} {r : R} (h : Rbox w B r) : B < w.heap.size := (Array.getElem?_eq_some_iff.1 h).1
theorem Rbox.cells {w : World} {B : Nat} {r : R} (h : Rbox w B r) : RecCells w B 0 r := by
  refine ⟨?_, ?_, ?_, ?_, ?_⟩ <;> simp [World.cell?, show w.heap[B]? = _ from h]
theorem Rbox.frozen {w : World} {B : Nat} {r : R} (h : Rbox w B r) (j : Nat) : w.frozen? ⟨B, j, none⟩ = false := by simp [World.frozen?, show w.heap[B]? = _ from h]
theorem Rbox.below {w w' : World} {K B : Nat} {r : R} (h : Rbox w B r) (hb : Below K w w') (hB : B < K) : Rbox w' B r := (hb.block B hB).trans h
theorem Rbox.set {w : World} {B : Nat} {p : R} (h : Rbox w B p) (r : R) :
    Rbox (((((w.setCell ⟨B, 0, none⟩ (.int .i64 r.k)).setCell ⟨B, 1, none⟩ (.string r.p)).setCell ⟨B, 2, none⟩ (.string r.b)).setCell ⟨B, 3, none⟩ (.int .i64 r.m)).setCell ⟨B, 4, none⟩ (.bool r.o)) B r := by
  have h1 := setCell_heap (j := 0) (u := .int .i64 r.k) h
  have h2 := setCell_heap (j := 1) (u := .string r.p) h1
  have h3 := setCell_heap (j := 2) (u := .string r.b) h2
  have h4 := setCell_heap (j := 3) (u := .int .i64 r.m) h3
  have h5 := setCell_heap (j := 4) (u := .bool r.o) h4
  unfold Rbox
  rw [h5]
  rfl
theorem Rbox.flag {w : World} {B : Nat} {p : R} (h : Rbox w B p) (o : Bool) : Rbox (w.setCell ⟨B, 4, none⟩ (.bool o)) B { p with o := o } := by
  have h5 := setCell_heap (j := 4) (u := .bool o) h
  unfold Rbox
  rw [h5]
  rfl
theorem Rbox.other {w : World} {B B' j : Nat} {p : R} {u : Value} (h : Rbox w B p) (hne : B ≠ B') : Rbox (w.setCell ⟨B', j, none⟩ u) B p := by
  unfold Rbox at h ⊢
  simp only [World.setCell, Array.getElem?_modify, h]
  rw [if_neg (fun e => hne e.symm)]
theorem Rbox.facts {w : World} {B : Nat} {r : R} (h : Rbox w B r) : (w.cell? ⟨B, 0, none⟩ = some (.int .i64 r.k) ∧ w.cell? ⟨B, 1, none⟩ = some (.string r.p) ∧ w.cell? ⟨B, 2, none⟩ = some (.string r.b) ∧ w.cell? ⟨B, 3, none⟩ = some (.int .i64 r.m) ∧ w.cell? ⟨B, 4, none⟩ = some (.bool r.o)) ∧
    w.frozen? ⟨B, 0, none⟩ = false ∧ w.frozen? ⟨B, 1, none⟩ = false ∧ w.frozen? ⟨B, 2, none⟩ = false ∧ w.frozen? ⟨B, 3, none⟩ = false ∧ w.frozen? ⟨B, 4, none⟩ = false := by
  obtain ⟨h0, h1, h2, h3, h4⟩ := h.cells
  simp only [Nat.zero_add] at h0 h1 h2 h3 h4
  exact ⟨⟨h0, h1, h2, h3, h4⟩, h.frozen 0, h.frozen 1, h.frozen 2, h.frozen 3, h.frozen 4⟩

/-- The winner of a group. -/
def overP (cut : Nat) (G : List (R × Nat)) : R × Nat := (placed (G.foldl (wst cut) ((zR, 0), false)).1.1 (G.foldl (wst cut) ((zR, 0), false)).2, (G.foldl (wst cut) ((zR, 0), false)).1.2)
theorem overP_win (LL : List (List R)) (q : ByteArray) : overP (cutD LL q) (grp LL q) = winC LL q := win_fold LL q
theorem fold_step {cut : Nat} {G : List (R × Nat)} {k : Nat} (h : k < G.length) (st : (R × Nat) × Bool) : (G.take (k + 1)).foldl (wst cut) st = wst cut ((G.take k).foldl (wst cut) st) G[k] := by
  rw [List.take_succ_eq_append_getElem h, wst_snoc]

set_option maxHeartbeats 3200000 in
theorem winnerOf_any (v : Value) (G : List (R × Nat)) (cut : Nat) (w : World) (h : PSl w v G) (hl : G.length ≤ 1048576) :
    Calls Tryz.prog 147 #[v, .int .i64 (cut : Int)] w fun e w' => e = .returned (pv (overP cut G)) ∧ Below w.heap.size w w' := by
  obtain ⟨A, cap, rfl, hcap, h⟩ := h
  have H := Lib.hid h
  clear h
  go_enter Tryz.func147, Tryz.ntmps147
  go_wp2
  go_loopw [6, 11] (fun cv i wr => ∃ (k : Nat) (p : R × Nat) (c : Bool), k ≤ G.length ∧ i = .int .i64 k ∧ cv = .bool c ∧ Hid ((p, c) = (G.take k).foldl (wst cut) ((zR, 0), false)) ∧ Hid (Pbox wr (w.heap.size + 1) p ∧ Pbox wr w.heap.size (zR, 0)) ∧ Below w.heap.size w wr) (fun _ i _ => G.length - (intOf i).toNat)
  case atStart =>
    refine ⟨0, (zR, 0), false, by omega, rfl, rfl, rfl, ⟨?_, ?_⟩, ((Below.refl _ _).alloc (Nat.le_refl _) _).alloc (by simp) _⟩
    · have := alloc_here (w.alloc (.cells #[.int .i64 0, .string ByteArray.empty, .string ByteArray.empty, .int .i64 0, .bool false, .int .i64 0] 103)) (.cells #[.int .i64 0, .string ByteArray.empty, .string ByteArray.empty, .int .i64 0, .bool false, .int .i64 0] 103)
      rw [World.size_alloc] at this
      exact this
    · exact (Below.heap_alloc _ _ _ (by simp)).trans (alloc_here w _)
  case round =>
    obtain ⟨k, p, c, hk, rfl, rfl, HF, HB, hbw⟩ := hrel
    obtain ⟨⟨k0, k1, k2, k3, k4⟩, k5⟩ := HB.out.1.cells
    have hsz : w.heap.size + 1 < wr.heap.size := HB.out.1.lt
    have hf0 := HB.out.1.frozen 0
    have hf1 := HB.out.1.frozen 1
    have hf2 := HB.out.1.frozen 2
    have hf3 := HB.out.1.frozen 3
    have hf4 := HB.out.1.frozen 4
    have hf5 := HB.out.1.frozen 5
    simp only [Nat.zero_add] at k0 k1 k2 k3 k4 k5
    by_cases hlt : k < G.length
    · obtain ⟨b, off, rfl, hb, hcell⟩ := H.out (by omega)
      obtain ⟨⟨c0, c1, c2, c3, c4⟩, c5⟩ := (hcell k G[k] (by simp [hlt])).below hbw hb
      have HST := Lib.hid (fold_step (cut := cut) hlt ((zR, 0), false))
      have hi1 : (k : Int) < (G.length : Int) := by omega
      have hi0 : (0 : Int) ≤ (k : Int) := by omega
      clear hcell
      have hgk : G[k] = (G[k].1, G[k].2) := rfl
      generalize hG : G[k] = g at *
      obtain ⟨r, n⟩ := g
      dsimp only at c0 c1 c2 c3 c4 c5 HST
      have hA : Below wr.heap.size wr (wr.alloc (.cells #[.int .i64 r.k, .string r.p, .string r.b, .int .i64 r.m, .bool r.o, .int .i64 (n : Int)] 103)) := (Below.refl _ _).alloc (Nat.le_refl _) _
      by_cases hc : cut ≤ n
      · have hd : decide ((cut : Int) ≤ (n : Int)) = true := decide_eq_true (by omega)
        have hd' : decide (cut ≤ n) = true := decide_eq_true hc
        have HN : Hid (((r, n), c || stops r) = (G.take (k + 1)).foldl (wst cut) ((zR, 0), false)) := by
          show _ = _
          rw [HST.out, ← HF.out]
          unfold wst
          rw [if_pos hc]
        cases c with
        | true =>
          have hS := HB.out.1.set r n
          have hZ := HB.out.2
          go_wp2_with fail
          exact ⟨⟨k + 1, (r, n), _, by omega, by go_num, rfl, HN, ⟨(Below.heap_alloc _ _ _ hS.lt).trans hS, (Below.heap_alloc _ _ _ (by simp; omega)).trans (by
            repeat (refine Pbox.other ?_ (by omega))
            exact hZ)⟩, Below.alloc (by
            repeat (refine Below.setCell ?_ (by simp) _)
            exact hbw) (by simp; omega) _⟩, by simp [intOf]; omega⟩
        | false =>
          have HS := stops_any r (wr.alloc (.cells #[.int .i64 r.k, .string r.p, .string r.b, .int .i64 r.m, .bool r.o, .int .i64 (n : Int)] 103))
          unfold R.val at HS
          have HX : Hid (Pbox (wr.alloc (.cells #[.int .i64 r.k, .string r.p, .string r.b, .int .i64 r.m, .bool r.o, .int .i64 (n : Int)] 103)) wr.heap.size (r, n)) := alloc_here _ _
          go_wp2_with fail
          refine HS.mono ?_
          rintro e w1 ⟨rfl, hb1⟩
          have hsA : wr.heap.size < (wr.alloc (.cells #[.int .i64 r.k, .string r.p, .string r.b, .int .i64 r.m, .bool r.o, .int .i64 (n : Int)] 103)).heap.size := by simp
          have HW := Lib.hid ((HB.out.1.below hA hsz).below hb1 (by omega))
          have HZ := Lib.hid ((HB.out.2.below hA (by omega)).below hb1 (by omega))
          obtain ⟨⟨x0, x1, x2, x3, x4⟩, x5⟩ := (HX.out.below hb1 hsA).cells
          simp only [Nat.zero_add] at x0 x1 x2 x3 x4 x5
          obtain ⟨⟨y0, y1, y2, y3, y4⟩, y5⟩ := HW.out.cells
          simp only [Nat.zero_add] at y0 y1 y2 y3 y4 y5
          have g0 := HW.out.frozen 0
          have g1 := HW.out.frozen 1
          have g2 := HW.out.frozen 2
          have g3 := HW.out.frozen 3
          have g4 := HW.out.frozen 4
          have g5 := HW.out.frozen 5
          have d1 := hbw.trans ((hA.trans (hb1.mono hA.size)).mono hbw.size)
          go_wp2_with fail
          exact ⟨⟨k + 1, (r, n), _, by omega, by go_num, rfl, HN, ⟨(HW.out).set r n, (by
            repeat (refine Pbox.other ?_ (by omega))
            exact HZ.out)⟩, (by
            repeat (refine Below.setCell ?_ (by simp) _)
            exact d1)⟩, by simp [intOf]; omega⟩
      · have hd : decide ((cut : Int) ≤ (n : Int)) = false := decide_eq_false (by omega)
        have hd' : decide (cut ≤ n) = false := decide_eq_false hc
        have HN : Hid ((p, c) = (G.take (k + 1)).foldl (wst cut) ((zR, 0), false)) := by
          show _ = _
          rw [HST.out, ← HF.out]
          unfold wst
          rw [if_neg hc]
        go_wp2_with fail
        exact ⟨⟨k + 1, p, c, by omega, by go_num, rfl, HN, ⟨HB.out.1.below hA hsz, HB.out.2.below hA (by omega)⟩, hbw.trans (hA.mono hbw.size)⟩, by simp [intOf]; omega⟩
    · have HP := HF.out
      rw [List.take_of_length_le (by omega)] at HP
      have HQ : Hid (overP cut G = (placed p.1 c, p.2)) := by
        show overP cut G = _
        unfold overP
        rw [← HP]
      obtain ⟨r, n⟩ := p
      dsimp only at k0 k1 k2 k3 k4 k5 HQ
      have HPL := placed_any r c wr
      unfold R.val at HPL
      generalize hP : placed r c = pr at *
      have HBO := HB.out
      go_wp2_with fail
      refine HPL.mono ?_
      rintro e w1 ⟨rfl, hb1⟩
      have HW := Lib.hid (HBO.1.below hb1 hsz)
      have HZ := Lib.hid (HBO.2.below hb1 (by omega))
      obtain ⟨⟨y0, y1, y2, y3, y4⟩, y5⟩ := HW.out.cells
      simp only [Nat.zero_add] at y0 y1 y2 y3 y4 y5
      have g0 := HW.out.frozen 0
      have g1 := HW.out.frozen 1
      have g2 := HW.out.frozen 2
      have g3 := HW.out.frozen 3
      have g4 := HW.out.frozen 4
      have g5 := HW.out.frozen 5
      obtain ⟨⟨z0, z1, z2, z3, z4⟩, z5⟩ := HZ.out.cells
      simp only [Nat.zero_add] at z0 z1 z2 z3 z4 z5
      have f0 := HZ.out.frozen 0
      have f1 := HZ.out.frozen 1
      have f2 := HZ.out.frozen 2
      have f3 := HZ.out.frozen 3
      have f4 := HZ.out.frozen 4
      have f5 := HZ.out.frozen 5
      go_wp2_with fail
      have HFI : Pbox (((((((((((w1.setCell ⟨w.heap.size + 1, 0, none⟩ (.int .i64 pr.k)).setCell ⟨w.heap.size + 1, 1, none⟩ (.string pr.p)).setCell ⟨w.heap.size + 1, 2, none⟩ (.string pr.b)).setCell ⟨w.heap.size + 1, 3, none⟩ (.int .i64 pr.m)).setCell ⟨w.heap.size + 1, 4, none⟩ (.bool pr.o)).setCell ⟨w.heap.size, 0, none⟩ (.int .i64 pr.k)).setCell ⟨w.heap.size, 1, none⟩ (.string pr.p)).setCell ⟨w.heap.size, 2, none⟩ (.string pr.b)).setCell ⟨w.heap.size, 3, none⟩ (.int .i64 pr.m)).setCell ⟨w.heap.size, 4, none⟩ (.bool pr.o)).setCell ⟨w.heap.size, 5, none⟩ (.int .i64 (n : Int))) w.heap.size (pr, n) := Pbox.set (p := (zR, 0)) (by
        repeat (refine Pbox.other ?_ (by omega))
        exact HZ.out) pr n
      have HBE : Below w.heap.size w (((((((((((w1.setCell ⟨w.heap.size + 1, 0, none⟩ (.int .i64 pr.k)).setCell ⟨w.heap.size + 1, 1, none⟩ (.string pr.p)).setCell ⟨w.heap.size + 1, 2, none⟩ (.string pr.b)).setCell ⟨w.heap.size + 1, 3, none⟩ (.int .i64 pr.m)).setCell ⟨w.heap.size + 1, 4, none⟩ (.bool pr.o)).setCell ⟨w.heap.size, 0, none⟩ (.int .i64 pr.k)).setCell ⟨w.heap.size, 1, none⟩ (.string pr.p)).setCell ⟨w.heap.size, 2, none⟩ (.string pr.b)).setCell ⟨w.heap.size, 3, none⟩ (.int .i64 pr.m)).setCell ⟨w.heap.size, 4, none⟩ (.bool pr.o)).setCell ⟨w.heap.size, 5, none⟩ (.int .i64 (n : Int))) := by
        repeat (refine Below.setCell ?_ (by simp) _)
        exact hbw.trans (hb1.mono hbw.size)
      generalize (((((((((((w1.setCell ⟨w.heap.size + 1, 0, none⟩ (.int .i64 pr.k)).setCell ⟨w.heap.size + 1, 1, none⟩ (.string pr.p)).setCell ⟨w.heap.size + 1, 2, none⟩ (.string pr.b)).setCell ⟨w.heap.size + 1, 3, none⟩ (.int .i64 pr.m)).setCell ⟨w.heap.size + 1, 4, none⟩ (.bool pr.o)).setCell ⟨w.heap.size, 0, none⟩ (.int .i64 pr.k)).setCell ⟨w.heap.size, 1, none⟩ (.string pr.p)).setCell ⟨w.heap.size, 2, none⟩ (.string pr.b)).setCell ⟨w.heap.size, 3, none⟩ (.int .i64 pr.m)).setCell ⟨w.heap.size, 4, none⟩ (.bool pr.o)).setCell ⟨w.heap.size, 5, none⟩ (.int .i64 (n : Int))) = WF at *
      obtain ⟨⟨q0, q1, q2, q3, q4⟩, q5⟩ := HFI.cells
      simp only [Nat.zero_add] at q0 q1 q2 q3 q4 q5
      exact bodyPost_ret (v := pv (pr, n)) (by simp [results, Tryz.results147, go_sem, pv, q0, q1, q2, q3, q4, q5]) rfl ⟨by rw [HQ.out], HBE⟩
end Go.Proofs.YtibekkfbpmloiabGreatDoor.Recs

/- Cursors: which of two comes first, of the program. -/
namespace Go.Proofs.YtibekkfbpmloiabGreatDoor.Recs
set_option maxRecDepth 100000
open Go.RowKit Paths

theorem bef_less {n m : Nat} {x y : R} {s t : List R} (h : lessR x y = true) : befC (n, x :: s) (m, y :: t) = true := by
  show klt (kR (x, n)) (kR (y, m)) = true
  rw [klt_iff]
  exact .inl h
theorem bef_other {n m : Nat} {x y : R} {s t : List R} (h : lessR x y = false) (he : x.p ≠ y.p) : befC (n, x :: s) (m, y :: t) = false := by
  show klt (kR (x, n)) (kR (y, m)) = false
  cases hk : klt (kR (x, n)) (kR (y, m)) with
  | false => rfl
  | true =>
    rw [klt_iff] at hk
    rcases hk with hk | ⟨hk, _⟩
    · rw [show lessP (kR (x, n)).1 (kR (y, m)).1 = lessR x y from rfl, h] at hk; cases hk
    · exact absurd (pk_inj hk) he
theorem bef_same {n m : Nat} {x y : R} {s t : List R} (he : x.p = y.p) : befC (n, x :: s) (m, y :: t) = decide (n < m) := by
  show klt (kR (x, n)) (kR (y, m)) = _
  unfold klt
  have h1 : (kR (x, n)).1 = (kR (y, m)).1 := by show pk x = pk y; unfold pk; rw [he]
  rw [h1, lessP_irrefl]
  simp [kR]
  exact decide_eq_decide.2 Iff.rfl

set_option maxHeartbeats 1600000 in
theorem before_any (n m : Nat) (u v : Value) (x y : R) (s t : List R) (w : World) (hu : RecSl w u (x :: s)) (hv : RecSl w v (y :: t)) (hx : pathB x.p.data.toList = true) (hy : pathB y.p.data.toList = true) :
    Calls Tryz.prog 270 #[.agg #[.int .i64 (n : Int), u], .agg #[.int .i64 (m : Int), v]] w fun e w' => e = .returned (.bool (befC (n, x :: s) (m, y :: t))) ∧ Below w.heap.size w w' := by
  have hx35 : x.p.size ≤ maxLen := by
    have : x.p.size ≤ 35 := by rw [Lib.size_eq]; exact pathB_len hx
    unfold maxLen; omega
  have hy35 : y.p.size ≤ maxLen := by
    have : y.p.size ≤ 35 := by rw [Lib.size_eq]; exact pathB_len hy
    unfold maxLen; omega
  obtain ⟨uA, uc, rfl, huc, hu⟩ := hu
  obtain ⟨vA, vc, rfl, hvc, hv⟩ := hv
  obtain ⟨b, off, rfl, hb, hcu⟩ := hu (by simp)
  obtain ⟨d, of2, rfl, hd, hcv⟩ := hv (by simp)
  obtain ⟨-, cu, -, -, -⟩ := hcu 0 x rfl
  obtain ⟨-, cv, -, -, -⟩ := hcv 0 y rfl
  simp only [Nat.zero_mul, Nat.add_zero] at cu cv
  have hul : (0 : Int) < ((x :: s).length : Int) := by simp
  have hvl : (0 : Int) < ((y :: t).length : Int) := by simp
  generalize hlu : (x :: s).length = lu at *
  generalize hlv : (y :: t).length = lv at *
  have hul2 : 0 < lu := by omega
  have hvl2 : 0 < lv := by omega
  clear hcu hcv hu hv hlu hlv
  have hbA : Below w.heap.size w ((w.alloc (.cells #[.int .i64 (n : Int), .slice (some ⟨b, off, none⟩) lu uc] 171)).alloc (.cells #[.int .i64 (m : Int), .slice (some ⟨d, of2, none⟩) lv vc] 171)) := ((Below.refl _ _).alloc (Nat.le_refl _) _).alloc (by simp) _
  have hW0 : ((w.alloc (.cells #[.int .i64 (n : Int), .slice (some ⟨b, off, none⟩) lu uc] 171)).alloc (.cells #[.int .i64 (m : Int), .slice (some ⟨d, of2, none⟩) lv vc] 171)).heap[w.heap.size]? = some (.cells #[.int .i64 (n : Int), .slice (some ⟨b, off, none⟩) lu uc] 171 (0, 0)) := (Below.heap_alloc _ _ _ (by simp)).trans (alloc_here w _)
  have hW1 : ((w.alloc (.cells #[.int .i64 (n : Int), .slice (some ⟨b, off, none⟩) lu uc] 171)).alloc (.cells #[.int .i64 (m : Int), .slice (some ⟨d, of2, none⟩) lv vc] 171)).heap[w.heap.size + 1]? = some (.cells #[.int .i64 (m : Int), .slice (some ⟨d, of2, none⟩) lv vc] 171 (0, 0)) := by
    have := alloc_here (w.alloc (.cells #[.int .i64 (n : Int), .slice (some ⟨b, off, none⟩) lu uc] 171)) (.cells #[.int .i64 (m : Int), .slice (some ⟨d, of2, none⟩) lv vc] 171)
    rw [World.size_alloc] at this
    exact this
  go_enter Tryz.func270, Tryz.ntmps270
  go_wp2
  generalize (w.alloc (.cells #[.int .i64 (n : Int), .slice (some ⟨b, off, none⟩) lu uc] 171)).alloc (.cells #[.int .i64 (m : Int), .slice (some ⟨d, of2, none⟩) lv vc] 171) = W at *
  have k0 : W.cell? ⟨w.heap.size, 0, none⟩ = some (.int .i64 (n : Int)) := by simp [World.cell?, hW0]
  have k1 : W.cell? ⟨w.heap.size, 1, none⟩ = some (.slice (some ⟨b, off, none⟩) lu uc) := by simp [World.cell?, hW0]
  have k2 : W.cell? ⟨w.heap.size + 1, 0, none⟩ = some (.int .i64 (m : Int)) := by simp [World.cell?, hW1]
  have k3 : W.cell? ⟨w.heap.size + 1, 1, none⟩ = some (.slice (some ⟨d, of2, none⟩) lv vc) := by simp [World.cell?, hW1]
  have k4 : W.cell? ⟨b, off + 1, none⟩ = some (.string x.p) := (hbA.cell (p := ⟨b, off + 1, none⟩) hb).trans cu
  have k5 : W.cell? ⟨d, of2 + 1, none⟩ = some (.string y.p) := (hbA.cell (p := ⟨d, of2 + 1, none⟩) hd).trans cv
  have hs1 : w.heap.size < W.heap.size := (Array.getElem?_eq_some_iff.1 hW0).1
  have hs2 : w.heap.size + 1 < W.heap.size := (Array.getElem?_eq_some_iff.1 hW1).1
  have HA := Lib.hid hbA
  clear hW0 hW1 hbA cu cv
  go_quiet (fail)
  have hq := below_drewN (HA.out) nq
  have k0 : (W.drewN nq).cell? ⟨w.heap.size, 0, none⟩ = some (.int .i64 (n : Int)) := k0
  have k2 : (W.drewN nq).cell? ⟨w.heap.size + 1, 0, none⟩ = some (.int .i64 (m : Int)) := k2
  have hs1 : w.heap.size < (W.drewN nq).heap.size := hs1
  have hs2 : w.heap.size + 1 < (W.drewN nq).heap.size := hs2
  have HP := pathLess_impl x.p y.p (W.drewN nq) hx35 hy35
  rw [lessB_yes hx hy] at HP
  clear k1 k3 k4 k5 HA
  generalize W.drewN nq = V at *
  rw [show lessP (cutAt 47 x.p.data.toList) (cutAt 47 y.p.data.toList) = lessR x y from rfl] at HP
  rcases Bool.eq_false_or_eq_true (lessR x y) with hl | hl
  · rw [hl] at HP
    have HE := Lib.hid (bef_less (n := n) (m := m) (s := s) (t := t) hl)
    go_wp2_with fail
    refine HP.mono ?_
    rintro e w1 ⟨rfl, hb1⟩
    go_wp2_with fail
    go_ret
    exact ⟨ret_bool HE.out.symm, hq.trans (hb1.mono hq.size)⟩
  · rw [hl] at HP
    rcases Bool.eq_false_or_eq_true (x.p.toList == y.p.toList) with heq | heq
    · have hpe := str_eq_of heq
      have HE := Lib.hid (bef_same (n := n) (m := m) (s := s) (t := t) hpe)
      clear hpe
      go_wp2_with fail
      refine HP.mono ?_
      rintro e w1 ⟨rfl, hb1⟩
      have j0 : w1.cell? ⟨w.heap.size, 0, none⟩ = some (.int .i64 (n : Int)) := (hb1.cell (p := ⟨w.heap.size, 0, none⟩) hs1).trans k0
      have j2 : w1.cell? ⟨w.heap.size + 1, 0, none⟩ = some (.int .i64 (m : Int)) := (hb1.cell (p := ⟨w.heap.size + 1, 0, none⟩) hs2).trans k2
      by_cases hnm : n < m
      · have d1 : decide ((n : Int) < (m : Int)) = true := decide_eq_true (by omega)
        have d2 : decide (n < m) = true := decide_eq_true hnm
        rw [d2] at HE
        go_wp2_with fail
        go_ret
        exact ⟨ret_bool HE.out.symm, hq.trans (hb1.mono hq.size)⟩
      · have d1 : decide ((n : Int) < (m : Int)) = false := decide_eq_false (by omega)
        have d2 : decide (n < m) = false := decide_eq_false hnm
        rw [d2] at HE
        go_wp2_with fail
        go_ret
        exact ⟨ret_bool HE.out.symm, hq.trans (hb1.mono hq.size)⟩
    · have hpe : x.p ≠ y.p := fun e => by rw [e] at heq; simp at heq
      have HE := Lib.hid (bef_other (n := n) (m := m) (s := s) (t := t) hl hpe)
      clear hpe
      go_wp2_with fail
      refine HP.mono ?_
      rintro e w1 ⟨rfl, hb1⟩
      go_wp2_with fail
      go_ret
      exact ⟨ret_bool HE.out.symm, hq.trans (hb1.mono hq.size)⟩
end Go.Proofs.YtibekkfbpmloiabGreatDoor.Recs
