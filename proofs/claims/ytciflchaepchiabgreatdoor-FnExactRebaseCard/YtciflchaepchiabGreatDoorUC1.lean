/- Parts of several texts of mine in one file (each begins with its own remark). -/
import Derived.Test.YtciflchaepchiabGreatDoorUA1
import Derived.Test.YtciflchaepchiabGreatDoorUA14
import Derived.Test.YtciflchaepchiabGreatDoorUA2
import Derived.Test.YtciflchaepchiabGreatDoorUA3
import Derived.Test.YtciflchaepchiabGreatDoorUA4
import Derived.Test.YtciflchaepchiabGreatDoorUA6
import Derived.Test.YtciflchaepchiabGreatDoorUA8
import Derived.Test.YtciflchaepchiabGreatDoorChecked
import Derived.OpenShut
import Derived.ShutString
import Derived.ChangeArms
import Derived.WideShapes
import Derived.Lib.LaidTab
import Derived.BigQuiet
import Derived.Deep.QuietTactic
import Derived.Deep.RegionHeld3
import Derived.StillTailTactics
import Derived.Deep.Draws
import Derived.Deep.LoopGhost
import Derived.WalkKit
import Derived.WalkSpells
import Derived.WalkSmall
import Derived.Lib.OthersKept
import Derived.Lib.Hide
import Derived.Lib.Strings
import Derived.Deep.Slices
import Derived.Laws.BytesArg
import Derived.Laws.OwnMore
import Derived.BigRegion
import Derived.Lib.Join
/- Records as the laws take them: opening one, its size, its copy, its comparison. -/
namespace Go.Proofs.YtciflchaepchiabGreatDoor.Recs
set_option maxRecDepth 100000
open Go.RowKit Paths Go.WideShapes Go.ChangeShapes

section
variable {H : Type} {enc : TypeId × Value → H} {w : World} {base : Nat} {spare : Nat → Bool} {held : Bool}
theorem cI : Tryz.prog.cellsOf 3 = 1 := by kernel_rfl
theorem cR : Tryz.prog.cellsOf 76 = 5 := by kernel_rfl

/-- What the five cells of a record are. -/
theorem rec_of_trod {fuel : Nat} {cs : List Value} {x : DataW H × List MemPlace} (h : DataW.trod enc Tryz.prog w base spare held fuel 76 cs = some x) :
    ∃ (k m : Int) (p b : ByteArray) (o : Bool), cs = [.int .i64 k, .string p, .string b, .int .i64 m, .bool o] ∧ p.size ≤ maxLen ∧ b.size ≤ maxLen ∧ (Lit.int .i64 k).wf = true ∧ (Lit.int .i64 m).wf = true ∧
      x = (.agg [.lit (.int .i64 k), .lit (.string p.data.toList), .lit (.string b.data.toList), .lit (.int .i64 m), .lit (.bool o)], []) := by
  obtain ⟨xs, n, _, hx, hl, hxl, hg⟩ := DataW.trod_struct Tryz.underlying76 h
  rw [cR] at hl
  have g0 : DataW.trod enc Tryz.prog w base spare held n 3 ((cs.drop 0).take 1) = xs[0]? := by have g := hg 0 _ rfl; change DataW.trod enc Tryz.prog w base spare held n 3 ((cs.drop 0).take (Tryz.prog.cellsOf 3)) = xs[0]? at g; rw [cI] at g; exact g
  have g1 : DataW.trod enc Tryz.prog w base spare held n 9 ((cs.drop 1).take 1) = xs[1]? := by have g := hg 1 _ rfl; change DataW.trod enc Tryz.prog w base spare held n 9 ((cs.drop 1).take (Tryz.prog.cellsOf 9)) = xs[1]? at g; rw [cS] at g; exact g
  have g2 : DataW.trod enc Tryz.prog w base spare held n 9 ((cs.drop 2).take 1) = xs[2]? := by have g := hg 2 _ rfl; change DataW.trod enc Tryz.prog w base spare held n 9 ((cs.drop 2).take (Tryz.prog.cellsOf 9)) = xs[2]? at g; rw [cS] at g; exact g
  have g3 : DataW.trod enc Tryz.prog w base spare held n 3 ((cs.drop 3).take 1) = xs[3]? := by have g := hg 3 _ rfl; change DataW.trod enc Tryz.prog w base spare held n 3 ((cs.drop 3).take (Tryz.prog.cellsOf 3)) = xs[3]? at g; rw [cI] at g; exact g
  have g4 : DataW.trod enc Tryz.prog w base spare held n 4 ((cs.drop 4).take 1) = xs[4]? := by have g := hg 4 _ rfl; change DataW.trod enc Tryz.prog w base spare held n 4 ((cs.drop 4).take (Tryz.prog.cellsOf 4)) = xs[4]? at g; rw [cB] at g; exact g
  match cs, hl, xs, hxl with
  | [c0, c1, c2, c3, c4], _, [y0, y1, y2, y3, y4], _ =>
    obtain ⟨k, e0, f0, w0⟩ := DataW.trod_int Tryz.underlying3 (show DataW.trod enc Tryz.prog w base spare held n 3 [c0] = some y0 from g0)
    obtain ⟨p, e1, f1, w1⟩ := DataW.trod_string Tryz.underlying9 (show DataW.trod enc Tryz.prog w base spare held n 9 [c1] = some y1 from g1)
    obtain ⟨b, e2, f2, w2⟩ := DataW.trod_string Tryz.underlying9 (show DataW.trod enc Tryz.prog w base spare held n 9 [c2] = some y2 from g2)
    obtain ⟨m, e3, f3, w3⟩ := DataW.trod_int Tryz.underlying3 (show DataW.trod enc Tryz.prog w base spare held n 3 [c3] = some y3 from g3)
    obtain ⟨o, e4, f4⟩ := DataW.trod_bool Tryz.underlying4 (show DataW.trod enc Tryz.prog w base spare held n 4 [c4] = some y4 from g4)
    simp only [List.cons.injEq, and_true] at e0 e1 e2 e3 e4
    subst e0 e1 e2 e3 e4 f0 f1 f2 f3 f4
    exact ⟨k, m, p, b, o, rfl, w1, w2, w0, w3, by rw [hx]; rfl⟩

end

theorem toRecord_any (k m : Int) (p b : ByteArray) (o : Bool) (w : World) :
    Calls Tryz.prog 67 #[.agg #[.int .i64 k, .string p, .string b, .int .i64 m, .bool o]] w fun e w' => e = .returned (.agg #[.int .i64 k, .string p, .string b, .int .i64 m, .bool o]) ∧ Below w.heap.size w w' := by
  go_enter Tryz.func67, Tryz.ntmps67
  go_wp2_with fail
  refine bodyPost_ret (v := .agg #[.int .i64 k, .string p, .string b, .int .i64 m, .bool o]) (by simp [results, Tryz.results67, go_sem]) rfl ⟨rfl, ?_⟩
  exact (((Below.refl _ _).alloc (Nat.le_refl _) _).alloc (by simp) _).alloc (by simp; omega) _

theorem eqRecord_any (k m : Int) (p b : ByteArray) (o : Bool) (w : World) :
    Calls Tryz.prog 69 #[.agg #[.int .i64 k, .string p, .string b, .int .i64 m, .bool o], .agg #[.int .i64 k, .string p, .string b, .int .i64 m, .bool o]] w fun e w' => e = .returned (.bool true) ∧ Below w.heap.size w w' := by
  go_enter Tryz.func69, Tryz.ntmps69
  go_wp2_with fail
  go_ret
  exact ⟨rfl, ((Below.refl _ _).alloc (Nat.le_refl _) _).alloc (by simp) _⟩

end Go.Proofs.YtciflchaepchiabGreatDoor.Recs

/- Slices of records: what the memory holds where one reads as a list of records; a slice of records that came in. -/
namespace Go.Proofs.YtciflchaepchiabGreatDoor.Recs
set_option maxRecDepth 100000
open Go.RowKit Paths Go.WideShapes Go.ChangeShapes

section
variable {H : Type} {enc : TypeId × Value → H} {w : World} {base : Nat} {spare : Nat → Bool} {held : Bool}

/-- The records of a slice of records that came in. -/
theorem open_recs {t : TypeId} {fuel : Nat} {cs : List Value} {x : DataW H × List MemPlace} (ht : Tryz.prog.underlying t = some (.slice 76))
    (h : DataW.trod enc Tryz.prog w base spare held fuel t cs = some x) :
    ∃ (v : Value) (L : List R), cs = [v] ∧ RecSl w v L ∧ L.length ≤ maxLen ∧ ∀ r ∈ L, r.p.size ≤ maxLen ∧ r.b.size ≤ maxLen := by
  rcases DataW.trod_slice ht h with ⟨rfl, _⟩ | ⟨a, len, cap, elems, rest, n, _, rfl, _, _, hl, hm0, hel, hat, _, _⟩
  · exact ⟨_, [], rfl, ⟨none, 0, rfl, Nat.le_refl _, fun h => by cases h⟩, Nat.zero_le _, fun r hr => by cases hr⟩
  · rw [cR] at hat
    have hone : ∀ i, i < len → ∃ r : R, w.cells? base (a.add (i * 5)) 5 = some [.int .i64 r.k, .string r.p, .string r.b, .int .i64 r.m, .bool r.o] ∧ r.p.size ≤ maxLen ∧ r.b.size ≤ maxLen := by
      intro i hi
      have h1 := hat i hi
      rw [List.getElem?_eq_getElem (by omega)] at h1
      obtain ⟨cs', hc, htr⟩ := Option.bind_eq_some_iff.1 h1
      obtain ⟨k, m, p, b, o, rfl, hp, hb, _⟩ := rec_of_trod htr
      exact ⟨⟨k, m, p, b, o⟩, hc, hp, hb⟩
    have hall : ∀ m, m ≤ len → ∃ L : List R, L.length = m ∧ (∀ i r, L[i]? = some r → w.cells? base (a.add (i * 5)) 5 = some [.int .i64 r.k, .string r.p, .string r.b, .int .i64 r.m, .bool r.o]) ∧ ∀ r ∈ L, r.p.size ≤ maxLen ∧ r.b.size ≤ maxLen := by
      intro m
      induction m with
      | zero => exact fun _ => ⟨[], rfl, fun i r hi => by simp at hi, fun r hr => by cases hr⟩
      | succ m ih =>
        intro hm
        obtain ⟨L, hL, h1, h2⟩ := ih (by omega)
        obtain ⟨r, hr, hs⟩ := hone m (by omega)
        refine ⟨L ++ [r], by simp [hL], fun i q hi => ?_, fun q hq => ?_⟩
        · rcases Nat.lt_trichotomy i m with hj | hj | hj
          · rw [List.getElem?_append_left (by omega)] at hi
            exact h1 i q hi
          · subst hj
            rw [List.getElem?_append_right (by omega), hL] at hi
            simp at hi
            subst hi
            exact hr
          · rw [List.getElem?_append_right (by omega)] at hi
            rw [List.getElem?_eq_none (by simp; omega)] at hi
            cases hi
        · rcases List.mem_append.1 hq with hq | hq
          · exact h2 q hq
          · rw [List.mem_singleton.1 hq]; exact hs
    obtain ⟨L, hL, hc, hs⟩ := hall len (Nat.le_refl _)
    subst hL
    refine ⟨_, L, rfl, ⟨some a, cap, rfl, hl, fun hn => ?_⟩, Nat.le_trans hl hm0, hs⟩
    obtain ⟨b, off, spot⟩ := a
    have hfirst := hc 0 L[0] (by simp [hn])
    obtain ⟨_, _, hcell⟩ := World.cells?_some hfirst
    have h0 := hcell 0 (by omega)
    have hspot : spot = none := by simpa [Addr.add] using World.cell?_spot (h0.trans (by rfl))
    subst hspot
    refine ⟨b, off, rfl, World.block_lt_of_cell? w _ (h0.trans (by rfl)), fun i r hi => ?_⟩
    obtain ⟨_, _, hcell⟩ := World.cells?_some (hc i r hi)
    have c0 := hcell 0 (by omega)
    have c1 := hcell 1 (by omega)
    have c2 := hcell 2 (by omega)
    have c3 := hcell 3 (by omega)
    have c4 := hcell 4 (by omega)
    simp [Addr.add_lit] at c0 c1 c2 c3 c4
    exact ⟨c0, c1, c2, c3, c4⟩
end
end Go.Proofs.YtciflchaepchiabGreatDoor.Recs

/- The laws' own marks: markText, and the marks written into a row of strings and read again; eqStringS. -/
namespace Go.Proofs.YtciflchaepchiabGreatDoor.Paths
open Go.RowKit

/-- The digits of k ahead of some bytes (f: at most so many). -/
def digsF : Nat → Nat → List UInt8 → List UInt8
  | 0, _, out => out
  | f + 1, k, out => if k = 0 then out else digsF f (k / 10) (UInt8.ofNat (48 + k % 10) :: out)
def digs (k : Nat) (out : List UInt8) : List UInt8 := digsF k k out
theorem digsF_enough : ∀ (f g k : Nat) (out : List UInt8), k ≤ f → k ≤ g → digsF f k out = digsF g k out
  | 0, 0, _, _, _, _ => rfl
  | 0, g + 1, k, out, h, _ => by obtain rfl : k = 0 := by omega
                                 simp [digsF]
  | f + 1, 0, k, out, _, h => by obtain rfl : k = 0 := by omega
                                 simp [digsF]
  | f + 1, g + 1, k, out, h1, h2 => by
    simp only [digsF]
    split
    · rfl
    · exact digsF_enough f g (k / 10) _ (by omega) (by omega)
theorem digs_zero (out : List UInt8) : digs 0 out = out := rfl
theorem digs_pos {k : Nat} (h : 0 < k) (out : List UInt8) : digs k out = digs (k / 10) (UInt8.ofNat (48 + k % 10) :: out) := by
  obtain ⟨m, rfl⟩ : ∃ m, k = m + 1 := ⟨k - 1, by omega⟩
  unfold digs
  rw [digsF, if_neg (by omega)]
  exact digsF_enough _ _ _ _ (by omega) (by omega)
def markS (k : Int) : ByteArray := if k ≤ 0 then ⟨#[109, 48]⟩ else ⟨(109 :: digs k.toNat []).toArray⟩

def byte1 (x : Int) : ByteArray := ⟨[UInt8.ofNat x.toNat].toArray⟩
theorem byte1_size (x : Int) : (byte1 x).size = 1 := rfl
/-- 'string([]byte{x})' -/
theorem conv_one (x : Int) (w : World) : (convert 37 9 (.slice (some ⟨w.heap.size, 0, none⟩) 1 1)).run Tryz.prog (w.alloc (.cells #[.int .u8 x] 5)) = .ok (.string (byte1 x)) (w.alloc (.cells #[.int .u8 x] 5)) := by
  have := run_convert_bytes_arg (P := Tryz.prog) (w.alloc (.cells #[.int .u8 x] 5)) 37 5 Tryz.underlying37 Tryz.underlying5 w.heap.size 0 1 1 [x] rfl
    (by intro i hi; obtain rfl : i = 0 := by omega
        simp) 9 Tryz.underlying9
  exact this

theorem mark_step {n m : Nat} {O : ByteArray} (h : digs n [] = digs m O.data.toList) (hm : 0 < m) : digs n [] = digs (m / 10) (byte1 (48 + (m : Int) % 10) ++ O).data.toList := by
  rw [h, digs_pos hm]
  have e : (48 + (m : Int) % 10).toNat = 48 + m % 10 := by omega
  have e2 : (byte1 (48 + (m : Int) % 10) ++ O).data.toList = UInt8.ofNat (48 + m % 10) :: O.data.toList := by
    unfold byte1
    rw [e]
    simp
  rw [e2]
theorem mark_end {n : Nat} {O : ByteArray} (h : digs n [] = digs 0 O.data.toList) : (⟨(109 :: digs n []).toArray⟩ : ByteArray) = ⟨#[109]⟩ ++ O := by
  rw [h, digs_zero]
  apply ByteArray.ext
  simp

set_option maxHeartbeats 400000 in
theorem markText_any (k : Int) (w : World) (h0 : 0 ≤ k) (hk : k ≤ 1099511627776) : Calls Tryz.prog 71 #[.int .i64 k] w fun e w' => e = .returned (.string (markS k)) ∧ Below w.heap.size w w' := by
  obtain ⟨n, rfl⟩ := Int.eq_ofNat_of_zero_le h0
  by_cases hz : n = 0
  · subst hz
    go_enter Tryz.func71, Tryz.ntmps71
    go_wp2
    go_ret
    exact ⟨rfl, Below.refl _ _⟩
  · have HM : Hid (markS (n : Int) = ⟨(109 :: digs n []).toArray⟩) := by show _ = _; unfold markS; rw [if_neg (by omega)]; rfl
    have hd : decide ((n : Int) ≤ 0) = false := by simp; omega
    go_enter Tryz.func71, Tryz.ntmps71
    go_wp2
    go_loopw [0, 3] (fun v o wr => ∃ (m : Nat) (O : ByteArray), v = .int .i64 m ∧ o = .string O ∧ O.size + m ≤ n ∧ Hid (digs n [] = digs m O.data.toList) ∧ Below w.heap.size w wr) (fun v _ _ => (intOf v).toNat)
    case atStart => exact ⟨n, ⟨#[]⟩, rfl, rfl, by show 0 + n ≤ n; omega, rfl, Below.refl _ _⟩
    case round =>
      obtain ⟨m, O, rfl, rfl, hO, HD, hbw⟩ := hrel
      by_cases hm : 0 < m
      · have hd2 : decide ((0 : Int) < (m : Int)) = true := by simp; omega
        have HS := Lib.hid (mark_step HD.out hm)
        have hcv := conv_one
        have hb1 := byte1_size (48 + (m : Int) % 10)
        go_wp2
        go_roundw
        case rel => exact ⟨m / 10, _, by go_num, rfl, by simp [byte1_size]; omega, HS, hbw.alloc hbw.size _⟩
        case measure => simp [intOf]; omega
      · obtain rfl : m = 0 := by omega
        have HE := Lib.hid (mark_end HD.out)
        go_wp2
        go_ret
        exact ⟨by rw [HM.out, HE.out]; rfl, hbw⟩

theorem grown_below {w w' : World} (h : Below w.heap.size w w') (row : Option Nat) : w.grownBy w' row := ⟨h.os, h.tape, h.output, h.size, fun k hk _ => h.block k hk⟩
end Go.Proofs.YtciflchaepchiabGreatDoor.Paths

/- The laws' own copy of a slice of records, its size, its comparison. -/
namespace Go.Proofs.YtciflchaepchiabGreatDoor.Recs
set_option maxRecDepth 100000
open Go.RowKit Paths

theorem made_flat (n : Nat) : (madeCells (Value.agg #[.int .i64 0, .string ByteArray.empty, .string ByteArray.empty, .int .i64 0, .bool false]).cells (n * 5)).toList = flat (List.replicate n zR) := by
  apply List.ext_getElem?
  intro j
  rw [flat_get]
  by_cases hj : j < n * 5
  · have h1 : j / 5 < n := by omega
    rw [List.getElem?_replicate, if_pos h1]
    have h5 : j % 5 < 5 := Nat.mod_lt _ (by omega)
    have e : j % 5 = 0 ∨ j % 5 = 1 ∨ j % 5 = 2 ∨ j % 5 = 3 ∨ j % 5 = 4 := by omega
    rcases e with e | e | e | e | e <;> simp [madeCells, hj, Value.cells, R.cs, zR, e]
  · have h1 : ¬ j / 5 < n := by omega
    rw [List.getElem?_replicate, if_neg h1]
    simp [madeCells, hj]

theorem set_take {M l : List R} {j : Nat} (hm : j < M.length) (hl : j < l.length) (h : M.take j = l.take j) : (M.set j l[j]).take (j + 1) = l.take (j + 1) := by
  rw [List.take_succ_eq_append_getElem (by simpa using hm), List.take_succ_eq_append_getElem hl, List.take_set, List.set_eq_of_length_le (by rw [List.length_take]; omega), h]
  simp

set_option maxHeartbeats 800000 in
theorem toRecordS_any (v : Value) (l : List R) (w : World) (h : RecSl w v l) (hl : l.length ≤ 1048576) :
    Calls Tryz.prog 13 #[v] w fun e w' => ∃ x, e = .returned x ∧ Below w.heap.size w w' ∧ RowOf w' w.heap.size x l.length l := by
  obtain ⟨i0, hi, hz0, hz1, hz2⟩ := info_parts recInfo
  obtain ⟨A, cap, rfl, hcap, h⟩ := h
  have H := Lib.hid h
  clear h
  obtain ⟨w0, hr, hown, hg⟩ := run_make_full (P := Tryz.prog) w w.heap.size 26 53 i0 _ 5 Tryz.underlying26 hi hz0 hz1 .i64 .i64 l.length (by rw [hz2]; omega) (by unfold maxLen; omega) (Nat.le_refl _)
  rw [made_flat] at hown
  have hrow : RowOf w0 w.heap.size (.slice (some ⟨w.heap.size, 0, none⟩) l.length l.length) l.length (List.replicate l.length zR) := ⟨by simp, hown⟩
  have hb0 : Below w.heap.size w w0 := (Below.refl _ _).grown hg (Nat.le_refl _) (fun k hk => by cases hk)
  clear hown hg
  go_enter Tryz.func13, Tryz.ntmps13
  go_wp2
  go_loopw [4] (fun i wr => ∃ (j : Nat) (M : List R), j ≤ l.length ∧ i = .int .i64 j ∧ RowOf wr w.heap.size (.slice (some ⟨w.heap.size, 0, none⟩) l.length l.length) l.length M ∧ Hid (M.take j = l.take j) ∧ Below w.heap.size w wr) (fun i _ => l.length - (intOf i).toNat)
  case atStart => exact ⟨0, _, by omega, rfl, hrow, rfl, hb0⟩
  case round =>
    obtain ⟨j, M, hj, rfl, hrj, HM, hbw⟩ := hrel
    by_cases hlt : j < l.length
    · obtain ⟨b, off, rfl, hb, hcell⟩ := H.out (by omega)
      obtain ⟨c0, c1, c2, c3, c4⟩ := (hcell j l[j] (by simp [hlt])).below hbw hb
      clear hcell
      have hi1 : (j : Int) < (l.length : Int) := by omega
      have hi0 : (0 : Int) ≤ (j : Int) := by omega
      go_wp2_with fail
      refine (toRecord_any _ _ _ _ _ _).mono ?_
      rintro e w1 ⟨rfl, hb1⟩
      have hr1 := hrj.below hb1
      have hm : j < M.length := by rw [hrj.1]; exact hlt
      obtain ⟨d0, d1, d2, d3, d4⟩ := hr1.cells hm
      have hf := hr1.frozen
      have HS := Lib.hid (hr1.store l[j] hm)
      have HT := Lib.hid (set_take hm hlt HM.out)
      have hbw1 := hbw.trans (hb1.mono hbw.size)
      clear hr1 c0 c1 c2 c3 c4
      go_wp2
      go_roundw
      case rel => exact ⟨j + 1, _, by omega, by go_num, HS.out.1, HT, hbw1.grown HS.out.2 hbw1.size (fun k hk => by cases hk; exact Nat.le_refl _)⟩
      case measure => simp [intOf]; omega
    · obtain rfl : j = l.length := by omega
      go_wp2
      go_ret
      refine ⟨_, rfl, hbw, ?_⟩
      have := HM.out
      rw [List.take_of_length_le (by rw [hrj.1]; exact Nat.le_refl _), List.take_of_length_le (Nat.le_refl _)] at this
      subst this
      exact hrj

set_option maxHeartbeats 800000 in
theorem eqRecordS_same (v1 v2 : Value) (l : List R) (w : World) (h1 : RecSl w v1 l) (h2 : RecSl w v2 l) (hl : l.length ≤ 1048576) :
    Calls Tryz.prog 16 #[v1, v2] w fun e w' => e = .returned (.bool true) ∧ Below w.heap.size w w' := by
  obtain ⟨A1, cap1, rfl, hcap1, h1⟩ := h1
  obtain ⟨A2, cap2, rfl, hcap2, h2⟩ := h2
  have H1 := Lib.hid h1
  have H2 := Lib.hid h2
  clear h1 h2
  go_enter Tryz.func16, Tryz.ntmps16
  go_wp2
  go_loopw [5] (fun i wr => ∃ (j : Nat), j ≤ l.length ∧ i = .int .i64 j ∧ Below w.heap.size w wr) (fun i _ => l.length - (intOf i).toNat)
  case atStart => exact ⟨0, by omega, rfl, Below.refl _ _⟩
  case round =>
    obtain ⟨j, hj, rfl, hbw⟩ := hrel
    by_cases hlt : j < l.length
    · obtain ⟨b1, off1, rfl, hb1, hcell1⟩ := H1.out (by omega)
      obtain ⟨b2, off2, rfl, hb2, hcell2⟩ := H2.out (by omega)
      obtain ⟨c0, c1, c2, c3, c4⟩ := (hcell1 j l[j] (by simp [hlt])).below hbw hb1
      obtain ⟨d0, d1, d2, d3, d4⟩ := (hcell2 j l[j] (by simp [hlt])).below hbw hb2
      clear hcell1 hcell2
      have hi1 : (j : Int) < (l.length : Int) := by omega
      have hi0 : (0 : Int) ≤ (j : Int) := by omega
      go_wp2_with fail
      go_still_tail 8, (by kernel_rfl)
      change wpList _ _ _ _ _ wr.drew
      have hbw' : Below w.heap.size w wr.drew := hbw.drew
      clear hbw
      generalize wr.drew = W2 at *
      go_wp2_with fail
      refine (eqRecord_any _ _ _ _ _ _).mono ?_
      rintro e w1 ⟨rfl, hb1⟩
      go_wp2_with fail
      go_roundw
      case rel => exact ⟨j + 1, by omega, by go_num, hbw'.trans (hb1.mono hbw'.size)⟩
      case measure => simp [intOf]; omega
    · obtain rfl : j = l.length := by omega
      go_wp2
      go_ret
      exact ⟨rfl, hbw⟩
end Go.Proofs.YtciflchaepchiabGreatDoor.Recs

/- Nodes: opening one and a slice of them; the laws' own size, copy and comparison of a node. A node is a record of which Opaque is false. -/
namespace Go.Proofs.YtciflchaepchiabGreatDoor.Recs
set_option maxRecDepth 100000
open Go.RowKit Paths Go.WideShapes Go.ChangeShapes

/-- A record without what hides. -/
def mkN (k m : Int) (p b : ByteArray) : R := ⟨k, m, p, b, false⟩

section
variable {H : Type} {enc : TypeId × Value → H} {w : World} {base : Nat} {spare : Nat → Bool} {held : Bool}
theorem cN : Tryz.prog.cellsOf 79 = 4 := by kernel_rfl

/-- What the four cells of a node are. -/
theorem nod_of_trod {fuel : Nat} {cs : List Value} {x : DataW H × List MemPlace} (h : DataW.trod enc Tryz.prog w base spare held fuel 79 cs = some x) :
    ∃ (k m : Int) (p b : ByteArray), cs = [.int .i64 k, .string p, .string b, .int .i64 m] ∧ p.size ≤ maxLen ∧ b.size ≤ maxLen := by
  obtain ⟨xs, n, _, hx, hl, hxl, hg⟩ := DataW.trod_struct Tryz.underlying79 h
  rw [cN] at hl
  have g0 : DataW.trod enc Tryz.prog w base spare held n 3 ((cs.drop 0).take 1) = xs[0]? := by have g := hg 0 _ rfl; change DataW.trod enc Tryz.prog w base spare held n 3 ((cs.drop 0).take (Tryz.prog.cellsOf 3)) = xs[0]? at g; rw [cI] at g; exact g
  have g1 : DataW.trod enc Tryz.prog w base spare held n 9 ((cs.drop 1).take 1) = xs[1]? := by have g := hg 1 _ rfl; change DataW.trod enc Tryz.prog w base spare held n 9 ((cs.drop 1).take (Tryz.prog.cellsOf 9)) = xs[1]? at g; rw [cS] at g; exact g
  have g2 : DataW.trod enc Tryz.prog w base spare held n 9 ((cs.drop 2).take 1) = xs[2]? := by have g := hg 2 _ rfl; change DataW.trod enc Tryz.prog w base spare held n 9 ((cs.drop 2).take (Tryz.prog.cellsOf 9)) = xs[2]? at g; rw [cS] at g; exact g
  have g3 : DataW.trod enc Tryz.prog w base spare held n 3 ((cs.drop 3).take 1) = xs[3]? := by have g := hg 3 _ rfl; change DataW.trod enc Tryz.prog w base spare held n 3 ((cs.drop 3).take (Tryz.prog.cellsOf 3)) = xs[3]? at g; rw [cI] at g; exact g
  match cs, hl, xs, hxl with
  | [c0, c1, c2, c3], _, [y0, y1, y2, y3], _ =>
    obtain ⟨k, e0, f0, w0⟩ := DataW.trod_int Tryz.underlying3 (show DataW.trod enc Tryz.prog w base spare held n 3 [c0] = some y0 from g0)
    obtain ⟨p, e1, f1, w1⟩ := DataW.trod_string Tryz.underlying9 (show DataW.trod enc Tryz.prog w base spare held n 9 [c1] = some y1 from g1)
    obtain ⟨b, e2, f2, w2⟩ := DataW.trod_string Tryz.underlying9 (show DataW.trod enc Tryz.prog w base spare held n 9 [c2] = some y2 from g2)
    obtain ⟨m, e3, f3, w3⟩ := DataW.trod_int Tryz.underlying3 (show DataW.trod enc Tryz.prog w base spare held n 3 [c3] = some y3 from g3)
    simp only [List.cons.injEq, and_true] at e0 e1 e2 e3
    subst e0 e1 e2 e3
    exact ⟨k, m, p, b, rfl, w1, w2⟩

end

theorem toNode_any (k m : Int) (p b : ByteArray) (w : World) :
    Calls Tryz.prog 68 #[.agg #[.int .i64 k, .string p, .string b, .int .i64 m]] w fun e w' => e = .returned (.agg #[.int .i64 k, .string p, .string b, .int .i64 m]) ∧ Below w.heap.size w w' := by
  go_enter Tryz.func68, Tryz.ntmps68
  go_wp2_with fail
  refine bodyPost_ret (v := .agg #[.int .i64 k, .string p, .string b, .int .i64 m]) (by simp [results, Tryz.results68, go_sem]) rfl ⟨rfl, ?_⟩
  exact (((Below.refl _ _).alloc (Nat.le_refl _) _).alloc (by simp) _).alloc (by simp; omega) _

theorem eqNode_any (k m : Int) (p b : ByteArray) (w : World) :
    Calls Tryz.prog 70 #[.agg #[.int .i64 k, .string p, .string b, .int .i64 m], .agg #[.int .i64 k, .string p, .string b, .int .i64 m]] w fun e w' => e = .returned (.bool true) ∧ Below w.heap.size w w' := by
  go_enter Tryz.func70, Tryz.ntmps70
  go_wp2_with fail
  go_ret
  exact ⟨rfl, ((Below.refl _ _).alloc (Nat.le_refl _) _).alloc (by simp) _⟩

section
variable {H : Type} {enc : TypeId × Value → H} {w : World} {base : Nat} {spare : Nat → Bool} {held : Bool}

/-- The nodes of a slice of nodes that came in. -/
theorem open_nods {t : TypeId} {fuel : Nat} {cs : List Value} {x : DataW H × List MemPlace} (ht : Tryz.prog.underlying t = some (.slice 79))
    (h : DataW.trod enc Tryz.prog w base spare held fuel t cs = some x) :
    ∃ (v : Value) (L : List R), cs = [v] ∧ NodSl w v L ∧ L.length ≤ maxLen ∧ ∀ r ∈ L, r.p.size ≤ maxLen ∧ r.b.size ≤ maxLen := by
  rcases DataW.trod_slice ht h with ⟨rfl, _⟩ | ⟨a, len, cap, elems, rest, n, _, rfl, _, _, hl, hm0, hel, hat, _, _⟩
  · exact ⟨_, [], rfl, ⟨fun r hr => (by cases hr), none, 0, rfl, Nat.le_refl _, fun h => by cases h⟩, Nat.zero_le _, fun r hr => by cases hr⟩
  · rw [cN] at hat
    have hone : ∀ i, i < len → ∃ r : R, w.cells? base (a.add (i * 4)) 4 = some [.int .i64 r.k, .string r.p, .string r.b, .int .i64 r.m] ∧ r.p.size ≤ maxLen ∧ r.b.size ≤ maxLen ∧ r.o = false := by
      intro i hi
      have h1 := hat i hi
      rw [List.getElem?_eq_getElem (by omega)] at h1
      obtain ⟨cs', hc, htr⟩ := Option.bind_eq_some_iff.1 h1
      obtain ⟨k, m, p, b, rfl, hp, hb⟩ := nod_of_trod htr
      exact ⟨mkN k m p b, hc, hp, hb, rfl⟩
    have hall : ∀ m, m ≤ len → ∃ L : List R, L.length = m ∧ (∀ i r, L[i]? = some r → w.cells? base (a.add (i * 4)) 4 = some [.int .i64 r.k, .string r.p, .string r.b, .int .i64 r.m]) ∧ ∀ r ∈ L, r.p.size ≤ maxLen ∧ r.b.size ≤ maxLen ∧ r.o = false := by
      intro m
      induction m with
      | zero => exact fun _ => ⟨[], rfl, fun i r hi => by simp at hi, fun r hr => by cases hr⟩
      | succ m ih =>
        intro hm
        obtain ⟨L, hL, h1, h2⟩ := ih (by omega)
        obtain ⟨r, hr, hs⟩ := hone m (by omega)
        refine ⟨L ++ [r], by simp [hL], fun i q hi => ?_, fun q hq => ?_⟩
        · rcases Nat.lt_trichotomy i m with hj | hj | hj
          · rw [List.getElem?_append_left (by omega)] at hi
            exact h1 i q hi
          · subst hj
            rw [List.getElem?_append_right (by omega), hL] at hi
            simp at hi
            subst hi
            exact hr
          · rw [List.getElem?_append_right (by omega)] at hi
            rw [List.getElem?_eq_none (by simp; omega)] at hi
            cases hi
        · rcases List.mem_append.1 hq with hq | hq
          · exact h2 q hq
          · rw [List.mem_singleton.1 hq]; exact hs
    obtain ⟨L, hL, hc, hs⟩ := hall len (Nat.le_refl _)
    subst hL
    refine ⟨_, L, rfl, ⟨fun r hm => (hs r hm).2.2, some a, cap, rfl, hl, fun hn => ?_⟩, Nat.le_trans hl hm0, fun r hm => ⟨(hs r hm).1, (hs r hm).2.1⟩⟩
    obtain ⟨b, off, spot⟩ := a
    have hfirst := hc 0 L[0] (by simp [hn])
    obtain ⟨_, _, hcell⟩ := World.cells?_some hfirst
    have h0 := hcell 0 (by omega)
    have hspot : spot = none := by simpa [Addr.add] using World.cell?_spot (h0.trans (by rfl))
    subst hspot
    refine ⟨b, off, rfl, World.block_lt_of_cell? w _ (h0.trans (by rfl)), fun i r hi => ?_⟩
    obtain ⟨_, _, hcell⟩ := World.cells?_some (hc i r hi)
    have c0 := hcell 0 (by omega)
    have c1 := hcell 1 (by omega)
    have c2 := hcell 2 (by omega)
    have c3 := hcell 3 (by omega)
    simp [Addr.add_lit] at c0 c1 c2 c3
    exact ⟨c0, c1, c2, c3⟩
end
end Go.Proofs.YtciflchaepchiabGreatDoor.Recs
