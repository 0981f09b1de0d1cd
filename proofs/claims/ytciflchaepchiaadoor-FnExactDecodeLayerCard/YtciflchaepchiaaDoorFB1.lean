/- Parts of several texts of mine in one file (each begins with its own remark). -/
import Derived.Test.YtciflchaepchiaaDoorFA1
import Derived.Test.YtciflchaepchiaaDoorFA10
import Derived.Test.YtciflchaepchiaaDoorFA11
import Derived.Test.YtciflchaepchiaaDoorFA12
import Derived.Test.YtciflchaepchiaaDoorFA13
import Derived.Test.YtciflchaepchiaaDoorFA2
import Derived.Test.YtciflchaepchiaaDoorFA3
import Derived.Test.YtciflchaepchiaaDoorFA4
import Derived.Test.YtciflchaepchiaaDoorFA5
import Derived.Test.YtciflchaepchiaaDoorFA6
import Derived.Test.YtciflchaepchiaaDoorFA7
import Derived.Test.YtciflchaepchiaaDoorFA9
import Derived.Test.YtciflchaepchiaaDoorChecked
import Derived.Test.YtciflchaepchiaaDoorShelf
import Derived.Test.YtciflchaepchiaaDoorProg
import Derived.Test.YtciflchaepchiaaDoorRows
import Derived.OpenShut
import Derived.ShutString
import Derived.ChangeArms
import Derived.WideShapes
import Derived.Lib.LaidTab
import Derived.BigQuiet
import Derived.Deep.QuietTactic
import Derived.Deep.RegionHeld3
import Derived.StillTailTactics
import Derived.Deep.Draws
import Derived.Deep.LoopGhost
import Derived.WalkKit
import Derived.WalkSpells
import Derived.WalkSmall
import Derived.Lib.OthersKept
import Derived.Lib.Hide
import Derived.Lib.Strings
import Derived.Laws.BytesArg
import Derived.Laws.OwnMore
import Derived.BigRegion
import Derived.Deep.Slices
import Derived.Lib.Join
import Derived.WalkMore
import Derived.ScopeJumps
import Derived.Deep.Cut
import Derived.Lib.ConvBytes
import Derived.WalkLawsBesides
import Derived.Below
import Derived.Shelf.Strings.Builder1
import Derived.Stop.LaidErr
import Derived.LaidEql
import Derived.Stop.Asserts
import Derived.Stop.LaidTwo
import Derived.ChangeVars
import Derived.Deep.DeepHandedRow
/- Records as the laws take them: opening one, its size, its copy, its comparison. -/
namespace Go.Proofs.YtciflchaepchiaaDoor.Recs
set_option maxRecDepth 100000
open Go.RowKit Paths Go.WideShapes Go.ChangeShapes

section
variable {H : Type} {enc : TypeId × Value → H} {w : World} {base : Nat} {spare : Nat → Bool} {held : Bool}
end

theorem eqRecord_any (k m : Int) (p b : ByteArray) (o : Bool) (w : World) :
    Calls Tryd.prog 14 #[.agg #[.int .i64 k, .string p, .string b, .int .i64 m, .bool o], .agg #[.int .i64 k, .string p, .string b, .int .i64 m, .bool o]] w fun e w' => e = .returned (.bool true) ∧ Below w.heap.size w w' := by
  go_enter Tryd.func14, Tryd.ntmps14
  go_wp2_with fail
  go_ret
  exact ⟨rfl, ((Below.refl _ _).alloc (Nat.le_refl _) _).alloc (by simp) _⟩

end Go.Proofs.YtciflchaepchiaaDoor.Recs

/- The laws' own marks: markText, and the marks written into a row of strings and read again; eqStringS. -/
namespace Go.Proofs.YtciflchaepchiaaDoor.Paths
open Go.RowKit

/-- The digits of k ahead of some bytes (f: at most so many). -/
def digsF : Nat → Nat → List UInt8 → List UInt8
  | 0, _, out => out
  | f + 1, k, out => if k = 0 then out else digsF f (k / 10) (UInt8.ofNat (48 + k % 10) :: out)
def digs (k : Nat) (out : List UInt8) : List UInt8 := digsF k k out
theorem digsF_enough : ∀ (f g k : Nat) (out : List UInt8), k ≤ f → k ≤ g → digsF f k out = digsF g k out
  | 0, 0, _, _, _, _ => rfl
  | 0, g + 1, k, out, h, _ => by obtain rfl : k = 0 := by omega
                                 simp [digsF]
  | f + 1, 0, k, out, _, h => by obtain rfl : k = 0 := by omega
                                 simp [digsF]
  | f + 1, g + 1, k, out, h1, h2 => by
    simp only [digsF]
    split
    · rfl
    · exact digsF_enough f g (k / 10) _ (by omega) (by omega)
theorem digs_zero (out : List UInt8) : digs 0 out = out := rfl
theorem digs_pos {k : Nat} (h : 0 < k) (out : List UInt8) : digs k out = digs (k / 10) (UInt8.ofNat (48 + k % 10) :: out) := by
  obtain ⟨m, rfl⟩ : ∃ m, k = m + 1 := ⟨k - 1, by omega⟩
  unfold digs
  rw [digsF, if_neg (by omega)]
  exact digsF_enough _ _ _ _ (by omega) (by omega)
def markS (k : Int) : ByteArray := if k ≤ 0 then ⟨#[109, 48]⟩ else ⟨(109 :: digs k.toNat []).toArray⟩

def byte1 (x : Int) : ByteArray := ⟨[UInt8.ofNat x.toNat].toArray⟩
theorem byte1_size (x : Int) : (byte1 x).size = 1 := rfl
/-- 'string([]byte{x})' -/
theorem conv_one (x : Int) (w : World) : (convert 63 9 (.slice (some ⟨w.heap.size, 0, none⟩) 1 1)).run Tryd.prog (w.alloc (.cells #[.int .u8 x] 5)) = .ok (.string (byte1 x)) (w.alloc (.cells #[.int .u8 x] 5)) := by
  have := run_convert_bytes_arg (P := Tryd.prog) (w.alloc (.cells #[.int .u8 x] 5)) 63 5 Tryd.underlying63 Tryd.underlying5 w.heap.size 0 1 1 [x] rfl
    (by intro i hi; obtain rfl : i = 0 := by omega
        simp) 9 Tryd.underlying9
  exact this

theorem mark_step {n m : Nat} {O : ByteArray} (h : digs n [] = digs m O.data.toList) (hm : 0 < m) : digs n [] = digs (m / 10) (byte1 (48 + (m : Int) % 10) ++ O).data.toList := by
  rw [h, digs_pos hm]
  have e : (48 + (m : Int) % 10).toNat = 48 + m % 10 := by omega
  have e2 : (byte1 (48 + (m : Int) % 10) ++ O).data.toList = UInt8.ofNat (48 + m % 10) :: O.data.toList := by
    unfold byte1
    rw [e]
    simp
  rw [e2]
theorem mark_end {n : Nat} {O : ByteArray} (h : digs n [] = digs 0 O.data.toList) : (⟨(109 :: digs n []).toArray⟩ : ByteArray) = ⟨#[109]⟩ ++ O := by
  rw [h, digs_zero]
  apply ByteArray.ext
  simp

set_option maxHeartbeats 400000 in
theorem markText_any (k : Int) (w : World) (h0 : 0 ≤ k) (hk : k ≤ 1099511627776) : Calls Tryd.prog 43 #[.int .i64 k] w fun e w' => e = .returned (.string (markS k)) ∧ Below w.heap.size w w' := by
  obtain ⟨n, rfl⟩ := Int.eq_ofNat_of_zero_le h0
  by_cases hz : n = 0
  · subst hz
    go_enter Tryd.func43, Tryd.ntmps43
    go_wp2
    go_ret
    exact ⟨rfl, Below.refl _ _⟩
  · have HM : Hid (markS (n : Int) = ⟨(109 :: digs n []).toArray⟩) := by show _ = _; unfold markS; rw [if_neg (by omega)]; rfl
    have hd : decide ((n : Int) ≤ 0) = false := by simp; omega
    go_enter Tryd.func43, Tryd.ntmps43
    go_wp2
    go_loopw [0, 3] (fun v o wr => ∃ (m : Nat) (O : ByteArray), v = .int .i64 m ∧ o = .string O ∧ O.size + m ≤ n ∧ Hid (digs n [] = digs m O.data.toList) ∧ Below w.heap.size w wr) (fun v _ _ => (intOf v).toNat)
    case atStart => exact ⟨n, ⟨#[]⟩, rfl, rfl, by show 0 + n ≤ n; omega, rfl, Below.refl _ _⟩
    case round =>
      obtain ⟨m, O, rfl, rfl, hO, HD, hbw⟩ := hrel
      by_cases hm : 0 < m
      · have hd2 : decide ((0 : Int) < (m : Int)) = true := by simp; omega
        have HS := Lib.hid (mark_step HD.out hm)
        have hcv := conv_one
        have hb1 := byte1_size (48 + (m : Int) % 10)
        go_wp2
        go_roundw
        case rel => exact ⟨m / 10, _, by go_num, rfl, by simp [byte1_size]; omega, HS, hbw.alloc hbw.size _⟩
        case measure => simp [intOf]; omega
      · obtain rfl : m = 0 := by omega
        have HE := Lib.hid (mark_end HD.out)
        go_wp2
        go_ret
        exact ⟨by rw [HM.out, HE.out]; rfl, hbw⟩

theorem grown_below {w w' : World} (h : Below w.heap.size w w') (row : Option Nat) : w.grownBy w' row := ⟨h.os, h.tape, h.output, h.size, fun k hk _ => h.block k hk⟩
end Go.Proofs.YtciflchaepchiaaDoor.Paths

/- The laws' own copy of a slice of records, its size, its comparison. -/
namespace Go.Proofs.YtciflchaepchiaaDoor.Recs
set_option maxRecDepth 100000
open Go.RowKit Paths

theorem set_take {M l : List R} {j : Nat} (hm : j < M.length) (hl : j < l.length) (h : M.take j = l.take j) : (M.set j l[j]).take (j + 1) = l.take (j + 1) := by
  rw [List.take_succ_eq_append_getElem (by simpa using hm), List.take_succ_eq_append_getElem hl, List.take_set, List.set_eq_of_length_le (by rw [List.length_take]; omega), h]
  simp

set_option maxHeartbeats 800000 in
theorem eqRecordS_same (v1 v2 : Value) (l : List R) (w : World) (h1 : RecSl w v1 l) (h2 : RecSl w v2 l) (hl : l.length ≤ 1048576) :
    Calls Tryd.prog 19 #[v1, v2] w fun e w' => e = .returned (.bool true) ∧ Below w.heap.size w w' := by
  obtain ⟨A1, cap1, rfl, hcap1, h1⟩ := h1
  obtain ⟨A2, cap2, rfl, hcap2, h2⟩ := h2
  have H1 := Lib.hid h1
  have H2 := Lib.hid h2
  clear h1 h2
  go_enter Tryd.func19, Tryd.ntmps19
  go_wp2
  go_loopw [5] (fun i wr => ∃ (j : Nat), j ≤ l.length ∧ i = .int .i64 j ∧ Below w.heap.size w wr) (fun i _ => l.length - (intOf i).toNat)
  case atStart => exact ⟨0, by omega, rfl, Below.refl _ _⟩
  case round =>
    obtain ⟨j, hj, rfl, hbw⟩ := hrel
    by_cases hlt : j < l.length
    · obtain ⟨b1, off1, rfl, hb1, hcell1⟩ := H1.out (by omega)
      obtain ⟨b2, off2, rfl, hb2, hcell2⟩ := H2.out (by omega)
      obtain ⟨c0, c1, c2, c3, c4⟩ := (hcell1 j l[j] (by simp [hlt])).below hbw hb1
      obtain ⟨d0, d1, d2, d3, d4⟩ := (hcell2 j l[j] (by simp [hlt])).below hbw hb2
      clear hcell1 hcell2
      have hi1 : (j : Int) < (l.length : Int) := by omega
      have hi0 : (0 : Int) ≤ (j : Int) := by omega
      go_wp2_with fail
      go_still_tail 8, (by kernel_rfl)
      change wpList _ _ _ _ _ wr.drew
      have hbw' : Below w.heap.size w wr.drew := hbw.drew
      clear hbw
      generalize wr.drew = W2 at *
      go_wp2_with fail
      refine (eqRecord_any _ _ _ _ _ _).mono ?_
      rintro e w1 ⟨rfl, hb1⟩
      go_wp2_with fail
      go_roundw
      case rel => exact ⟨j + 1, by omega, by go_num, hbw'.trans (hb1.mono hbw'.size)⟩
      case measure => simp [intOf]; omega
    · obtain rfl : j = l.length := by omega
      go_wp2
      go_ret
      exact ⟨rfl, hbw⟩
end Go.Proofs.YtciflchaepchiaaDoor.Recs

/- The layer in a text, or its first error: layerIn, DecodeLayer and FirstFault of the program. Condition: the table of kinds. -/
namespace Go.Proofs.YtciflchaepchiaaDoor.Recs
set_option maxRecDepth 100000
open Go.RowKit Paths

theorem decodeLayer_impl (t : ByteArray) (w : World) (ht : Tab w) :
    Calls Tryd.prog 21 #[.string t] w fun e w' => ∃ v, e = .returned (.tuple #[v, .int .i64 (decC t)]) ∧ RowOf w' w.heap.size v (decL t).length (decL t) ∧ Below w.heap.size w w' := by
  go_enter Tryd.func21, Tryd.ntmps21
  go_wp2_with fail
  refine (layerIn_any t _ ht).mono ?_
  rintro e w1 ⟨v, rfl, hr, hb⟩
  go_wp2_with fail
  go_ret2
  exact ⟨v, rfl, hr, hb⟩
end Go.Proofs.YtciflchaepchiaaDoor.Recs

/- DecodeLayer and FirstFault of the model; how long a layer in a text is. No condition. -/
namespace Go.Proofs.YtciflchaepchiaaDoor.Recs
set_option maxRecDepth 100000
open Go.RowKit Paths

theorem whole_len (t : List UInt8) : ∀ n a L, (wholeF n t a L).1.length ≤ L.length + n ∧ ((wholeF n t a L).2.2 ≠ 0 → (wholeF n t a L).1 = []) := by
  intro n
  induction n with
  | zero =>
    intro a L
    rw [whole_end]
    by_cases h : endC t a = 0
    · rw [if_pos h]; exact ⟨Nat.le_refl _, fun e => absurd rfl e⟩
    · rw [if_neg h]; exact ⟨Nat.zero_le _, fun _ => rfl⟩
  | succ n ih =>
    intro a L
    rw [whole_step]
    by_cases h : (nxR L (t.drop a)).2.2 ≠ 0
    · rw [if_pos h]; exact ⟨Nat.zero_le _, fun _ => rfl⟩
    · rw [if_neg h]
      have h2 := ih (a + sizT (t.drop a) + 2) (L ++ [recT (t.drop a)])
      rw [List.length_append, List.length_singleton] at h2
      exact ⟨by omega, h2.2⟩
theorem wholeL_len (t : List UInt8) : (wholeL t).1.length ≤ 255 ∧ ((wholeL t).2.2 ≠ 0 → (wholeL t).1 = []) := by
  unfold wholeL
  by_cases h : t.length < 4 ∨ t.take 3 ≠ [76, 89, 82]
  · rw [if_pos h]; exact ⟨Nat.zero_le _, fun _ => rfl⟩
  · rw [if_neg h]
    have h2 := whole_len t (byAt t 3) 4 []
    have h3 := byAt_lt t 3
    exact ⟨by have := h2.1; simp at this; omega, h2.2⟩
theorem dec_len (t : ByteArray) : (decL t).length ≤ 255 := by
  unfold decL
  split
  · simp
  · exact (wholeL_len _).1
theorem ret_v {v : Value} {a b : Int} (h : a = b) : Ending.returned (.tuple #[v, .int .i64 a]) = .returned (.tuple #[v, .int .i64 b]) := by rw [h]
set_option maxHeartbeats 800000 in
theorem decodeLayer_spec (t : ByteArray) (w : World) :
    Calls Tryd.prog 20 #[.string t] w fun e w' => ∃ v, e = .returned (.tuple #[v, .int .i64 (decC t)]) ∧ RowOf w' w.heap.size v (decL t).length (decL t) ∧ Below w.heap.size w w' := by
  by_cases h1 : 65536 < t.size
  · have HD := Lib.hid (dec_long h1)
    have hd : decide ((65536 : Int) < (t.size : Int)) = true := by simp; omega
    have hE0 : (w.alloc (.cells #[] 27)).ownsRow w.heap.size 27 5 (.slice (some ⟨w.heap.size, 0, none⟩) 0 0) 0 [] := World.ownsRow_lit w #[] 0 (Nat.le_refl _) (Nat.zero_le _) rfl
    have HE0 := Lib.hid hE0
    have eA : Below w.heap.size w (w.alloc (.cells #[] 27)) := (Below.refl _ _).alloc (Nat.le_refl _) _
    clear hE0
    go_enter Tryd.func20, Tryd.ntmps20
    go_wp2_with fail
    go_ret2
    exact ⟨_, ret_v (by rw [HD.out.2.2]), by rw [HD.out.1]; exact ⟨rfl, HE0.out⟩, eA⟩
  have hd1 : decide ((65536 : Int) < (t.size : Int)) = false := by simp; omega
  obtain ⟨dl, da, dc⟩ := dec_short h1
  have HC := l09Whole_any t w (by omega)
  have HL := Lib.hid (wholeL_len t.data.toList).2
  by_cases h2 : (wholeL t.data.toList).2.2 = 0
  · have HD : Hid (decL t = (wholeL t.data.toList).1 ∧ decC t = 0) := ⟨dl, dc.trans h2⟩
    have H2 := Lib.hid h2
    clear dl da dc h2
    go_enter Tryd.func20, Tryd.ntmps20
    go_wp2_with fail
    refine HC.mono ?_
    rintro e w1 ⟨v, rfl, hr, hb⟩
    rw [H2.out]
    go_wp2_with fail
    go_ret2
    exact ⟨v, ret_v (by rw [HD.out.2]), by rw [HD.out.1]; exact hr, hb⟩
  · have hne : ((wholeL t.data.toList).2.2 != 0) = true := by simpa using h2
    have HD : Hid (decL t = [] ∧ decC t = (wholeL t.data.toList).2.2) := ⟨dl.trans (HL.out h2), dc⟩
    clear dl da dc h2
    go_enter Tryd.func20, Tryd.ntmps20
    go_wp2_with fail
    refine HC.mono ?_
    rintro e w1 ⟨v, rfl, hr, hb⟩
    generalize (wholeL t.data.toList).2.2 = c at *
    have hE0 : (w1.alloc (.cells #[] 27)).ownsRow w.heap.size 27 5 (.slice (some ⟨w1.heap.size, 0, none⟩) 0 0) 0 [] := World.ownsRow_lit w1 #[] 0 hb.size (Nat.zero_le _) rfl
    have HE0 := Lib.hid hE0
    clear hE0 hr
    go_wp2_with fail
    go_ret2
    exact ⟨_, ret_v (by rw [HD.out.2]), by rw [HD.out.1]; exact ⟨rfl, HE0.out⟩, hb.alloc hb.size _⟩

end Go.Proofs.YtciflchaepchiaaDoor.Recs

/- The laws' marks in a slice of records: written, and read again. -/
namespace Go.Proofs.YtciflchaepchiaaDoor.Recs
set_option maxRecDepth 100000
open Go.RowKit Paths

/-- The marks of one record, from x on. -/
def mr (x : Int) : R := ⟨x, x + 1 + 1 + 1, markS (x + 1), markS (x + 1 + 1), (x + 1 + 1 + 1 + 1) % 3 == 0⟩
def markR (x : Int) (n : Nat) : List R := (List.range n).map fun i : Nat => mr (x + 5 * (i : Int))
theorem markR_len (x : Int) (n : Nat) : (markR x n).length = n := by simp [markR]
theorem markR_at {x : Int} {n j : Nat} (h : j < n) : (markR x n)[j]'(by rw [markR_len]; exact h) = mr (x + 5 * j) := by simp [markR]

set_option maxHeartbeats 3200000 in
theorem markRecordS_any (v : Value) (n base : Nat) (M : List R) (x : Int) (w : World) (hrow : RowOf w base v n M) (h0 : 0 ≤ x) (hk : x + 5 * n ≤ 1099511627776) :
    Calls Tryd.prog 22 #[v, .int .i64 x] w fun e w' => e = .returned (.int .i64 (x + 5 * n)) ∧ RowOf w' base v n (markR x n) ∧ w.grownBy w' v.ownBlock := by
  rcases hrow.2.2 with ⟨rfl, rfl⟩ | ⟨g, cap, cur, rfl, hbg, hgg, hnc, hcm, _⟩
  · go_enter Tryd.func22, Tryd.ntmps22
    go_wp2
    refine wp_loop_rounds 1 ?_
    rw [rounds_succ]
    go_wp2
    go_ret
    exact ⟨by simp, ⟨by simp [markR], World.ownsRow_nil _ _ _ _⟩, World.grownBy.refl _ _⟩
  · unfold maxLen at hcm
    clear hgg
    go_enter Tryd.func22, Tryd.ntmps22
    go_wp2
    go_loopw [1, 5] (fun m i wr => ∃ (j : Nat) (N : List R), j ≤ n ∧ i = .int .i64 j ∧ m = .int .i64 (x + 5 * j) ∧ RowOf wr base (.slice (some ⟨g, 0, none⟩) n cap) n N ∧ Hid (N.take j = (markR x n).take j) ∧ w.grownBy wr (some g)) (fun _ i _ => n - (intOf i).toNat)
    case atStart => exact ⟨0, M, by omega, rfl, by simp, hrow, rfl, World.grownBy.refl _ _⟩
    case round =>
      obtain ⟨j, N, hj, rfl, rfl, hr, HN, hgr⟩ := hrel
      by_cases hlt : j < n
      · have hi1 : (j : Int) < (n : Int) := by omega
        have hi0 : (0 : Int) ≤ (j : Int) := by omega
        have hm : j < N.length := by rw [hr.1]; exact hlt
        have HS := Lib.hid (set_take (l := markR x n) hm (by rw [markR_len]; exact hlt) HN.out)
        rw [markR_at hlt] at HS
        generalize hX : x + 5 * (j : Int) = X at *
        have hX0 : 0 ≤ X := by omega
        have hX1 : X + 5 ≤ 1099511627776 := by omega
        obtain ⟨d0, d1, d2, d3, d4⟩ := hr.cells hm
        have hf := hr.frozen
        obtain ⟨a1, b1⟩ := hr.field (i := j) (c := 0) (r := { N[j] with k := X }) (u := .int .i64 X) hm (by omega) rfl
        go_wp2_with fail
        refine (markText_any _ _ (by omega) (by omega)).mono ?_
        rintro e w1 ⟨rfl, hb1⟩
        have r1 := a1.below hb1
        have g1 := grown_trans hgr (grown_trans b1 (grown_below hb1 _))
        have l1 : j < (N.set j { N[j] with k := X }).length := by simpa using hm
        obtain ⟨e0, e1, e2, e3, e4⟩ := r1.cells l1
        have hf1 := r1.frozen
        obtain ⟨a2, b2⟩ := r1.field (i := j) (c := 1) (r := { N[j] with k := X, p := markS (X + 1) }) (u := .string (markS (X + 1))) l1 (by omega) (by simp [R.cs])
        rw [List.set_set] at a2
        clear d0 d1 d2 d3 d4 hf a1 b1
        go_wp2_with fail
        refine (markText_any _ _ (by omega) (by omega)).mono ?_
        rintro e w2 ⟨rfl, hb2⟩
        have r2 := a2.below hb2
        have g2 := grown_trans g1 (grown_trans b2 (grown_below hb2 _))
        have l2 : j < (N.set j { N[j] with k := X, p := markS (X + 1) }).length := by simpa using hm
        clear e0 e1 e2 e3 e4 hf1 a2 b2 r1
        obtain ⟨e0, e1, e2, e3, e4⟩ := r2.cells l2
        have hf2 := r2.frozen
        obtain ⟨a3, b3⟩ := r2.field (i := j) (c := 2) (r := { N[j] with k := X, p := markS (X + 1), b := markS (X + 1 + 1) }) (u := .string (markS (X + 1 + 1))) l2 (by omega) (by simp [R.cs])
        rw [List.set_set] at a3
        obtain ⟨a4, b4⟩ := a3.field (i := j) (c := 3) (r := { N[j] with k := X, p := markS (X + 1), b := markS (X + 1 + 1), m := X + 1 + 1 + 1 }) (u := .int .i64 (X + 1 + 1 + 1)) (by simpa using hm) (by omega) (by simp [R.cs])
        rw [List.set_set] at a4
        obtain ⟨a5, b5⟩ := a4.field (i := j) (c := 4) (r := mr X) (u := .bool ((X + 1 + 1 + 1 + 1) % 3 == 0)) (by simpa using hm) (by omega) (by simp [R.cs, mr])
        rw [List.set_set] at a5
        have HA := Lib.hid a5
        have HG := Lib.hid (grown_trans (grown_trans (grown_trans g2 b3) b4) b5)
        clear a3 a4 a5 b3 b4 b5
        go_wp2_with fail
        exact ⟨⟨j + 1, N.set j (mr X), by omega, by go_num, by subst hX; go_num, HA.out, HS, HG.out⟩, by simp [intOf]; omega⟩
      · obtain rfl : j = n := by omega
        go_wp2
        go_ret
        refine ⟨rfl, ?_, hgr⟩
        have := HN.out
        rw [List.take_of_length_le (by rw [hr.1]; exact Nat.le_refl _), List.take_of_length_le (by rw [markR_len]; exact Nat.le_refl _)] at this
        rw [← this]
        exact hr

set_option maxHeartbeats 3200000 in
theorem heldRecordS_any (v : Value) (n base : Nat) (x : Int) (w : World) (hrow : RowOf w base v n (markR x n)) (h0 : 0 ≤ x) (hk : x + 5 * n ≤ 1099511627776) :
    Calls Tryd.prog 23 #[v, .int .i64 x] w fun e w' => e = .returned (.int .i64 (x + 5 * n)) ∧ Below w.heap.size w w' := by
  rcases hrow.2.2 with ⟨rfl, rfl⟩ | ⟨g, cap, cur, rfl, hbg, hgg, hnc, hcm, _⟩
  · go_enter Tryd.func23, Tryd.ntmps23
    go_wp2
    refine wp_loop_rounds 1 ?_
    rw [rounds_succ]
    go_wp2
    go_ret
    exact ⟨by simp, Below.refl _ _⟩
  · unfold maxLen at hcm
    have hglt : g < w.heap.size := (Array.getElem?_eq_some_iff.1 hgg).1
    clear hgg
    have HC : Hid (∀ j, j < n → RecCells w g (j * 5) (mr (x + 5 * (j : Int)))) := fun j hj => by
      have := hrow.cells (i := j) (by rw [markR_len]; exact hj)
      rw [markR_at hj] at this
      exact this
    clear hrow
    go_enter Tryd.func23, Tryd.ntmps23
    go_wp2
    go_loopw [1, 5] (fun m i wr => ∃ j : Nat, j ≤ n ∧ i = .int .i64 j ∧ m = .int .i64 (x + 5 * j) ∧ Below w.heap.size w wr) (fun _ i _ => n - (intOf i).toNat)
    case atStart => exact ⟨0, by omega, rfl, by simp, Below.refl _ _⟩
    case round =>
      obtain ⟨j, hj, rfl, rfl, hbw⟩ := hrel
      by_cases hlt : j < n
      · have HR := Lib.hid (HC.out j hlt)
        generalize hX : x + 5 * (j : Int) = X at *
        have hX0 : 0 ≤ X := by omega
        have hX1 : X + 5 ≤ 1099511627776 := by omega
        obtain ⟨c0, c1, c2, c3, c4⟩ := HR.out.below hbw hglt
        unfold mr at c0 c1 c2 c3 c4
        have hi1 : (j : Int) < (n : Int) := by omega
        have hi0 : (0 : Int) ≤ (j : Int) := by omega
        have hgr : g < wr.heap.size := Nat.lt_of_lt_of_le hglt hbw.size
        go_wp2_with fail
        go_region_held3 (fun w' => w'.cell? ⟨g, j * 5 + 1, none⟩ = some (.string (markS (X + 1)))) (first | exact c1 | exact (hb1.cell (p := ⟨g, j * 5 + 1, none⟩) hgr).trans c1 | go_keep) (first | (go_at_call 43; refine (markText_any _ _ (by omega) (by omega)).mono ?_; rintro e w1 ⟨rfl, hb1⟩))
        have hbw1 := hbw.drew.trans (hb1.mono hbw.size)
        have hgr1 : g < w1.heap.size := Nat.lt_of_lt_of_le hglt hbw1.size
        clear c0 c1 c2 c3 c4
        obtain ⟨c0, c1, c2, c3, c4⟩ := HR.out.below hbw1 hglt
        unfold mr at c0 c1 c2 c3 c4
        go_wp2_with fail
        go_region_held3 (fun w' => w'.cell? ⟨g, j * 5 + 2, none⟩ = some (.string (markS (X + 1 + 1)))) (first | exact c2 | exact (hb2.cell (p := ⟨g, j * 5 + 2, none⟩) hgr1).trans c2 | go_keep) (first | (go_at_call 43; refine (markText_any _ _ (by omega) (by omega)).mono ?_; rintro e w2 ⟨rfl, hb2⟩))
        have hbw2 := hbw1.drew.trans (hb2.mono hbw1.size)
        clear c0 c1 c2 c3 c4
        obtain ⟨c0, c1, c2, c3, c4⟩ := HR.out.below hbw2 hglt
        unfold mr at c0 c1 c2 c3 c4
        go_wp2_with fail
        exact ⟨⟨j + 1, by omega, by go_num, by subst hX; go_num, hbw2⟩, by simp [intOf]; omega⟩
      · obtain rfl : j = n := by omega
        go_wp2
        go_ret
        exact ⟨rfl, hbw⟩
end Go.Proofs.YtciflchaepchiaaDoor.Recs
