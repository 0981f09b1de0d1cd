/- Parts of several texts of mine in one file (each begins with its own remark). -/
import Derived.Test.YtcnjiphoahoojaaDoorCA1
import Derived.Test.YtcnjiphoahoojaaDoorCA2
import Derived.Test.YtcnjiphoahoojaaDoorCA3
import Derived.Test.YtcnjiphoahoojaaDoorCA4
import Derived.Test.YtcnjiphoahoojaaDoorChecked
import Derived.Test.YtcnjiphoahoojaaDoorShelf
import Derived.BigQuiet
import Derived.Laws.BytesArg
import Derived.Deep.QuietTactic
import Derived.Deep.RegionHeld3
import Derived.Deep.Draws
import Derived.Deep.LoopGhost
import Derived.WalkKit
import Derived.WalkSpells
import Derived.WalkSmall
import Derived.Lib.OthersKept
import Derived.Lib.Hide
import Derived.Lib.Strings
import Derived.Lib.Join
import Derived.WalkLawsBesides
import Derived.Deep.Slices
import Derived.OpenShut
import Derived.ShutString
import Derived.ChangeArms
import Derived.WideShapes
import Derived.Lib.LaidTab
import Derived.StillTailTactics
/- The laws' own marks: markText, and the marks written into a row of strings and read again; eqStringS. -/
namespace Go.Proofs.YtcnjiphoahoojaaDoor.Paths
open Go.RowKit

/-- The digits of k ahead of some bytes (f: at most so many). -/
def digsF : Nat → Nat → List UInt8 → List UInt8
  | 0, _, out => out
  | f + 1, k, out => if k = 0 then out else digsF f (k / 10) (UInt8.ofNat (48 + k % 10) :: out)
def digs (k : Nat) (out : List UInt8) : List UInt8 := digsF k k out
theorem digsF_enough : ∀ (f g k : Nat) (out : List UInt8), k ≤ f → k ≤ g → digsF f k out = digsF g k out
  | 0, 0, _, _, _, _ => rfl
  | 0, g + 1, k, out, h, _ => by obtain rfl : k = 0 := by omega
                                 simp [digsF]
  | f + 1, 0, k, out, _, h => by obtain rfl : k = 0 := by omega
                                 simp [digsF]
  | f + 1, g + 1, k, out, h1, h2 => by
    simp only [digsF]
    split
    · rfl
    · exact digsF_enough f g (k / 10) _ (by omega) (by omega)
theorem digs_zero (out : List UInt8) : digs 0 out = out := rfl
theorem digs_pos {k : Nat} (h : 0 < k) (out : List UInt8) : digs k out = digs (k / 10) (UInt8.ofNat (48 + k % 10) :: out) := by
  obtain ⟨m, rfl⟩ : ∃ m, k = m + 1 := ⟨k - 1, by omega⟩
  unfold digs
  rw [digsF, if_neg (by omega)]
  exact digsF_enough _ _ _ _ (by omega) (by omega)
def markS (k : Int) : ByteArray := if k ≤ 0 then ⟨#[109, 48]⟩ else ⟨(109 :: digs k.toNat []).toArray⟩

def byte1 (x : Int) : ByteArray := ⟨[UInt8.ofNat x.toNat].toArray⟩
theorem byte1_size (x : Int) : (byte1 x).size = 1 := rfl
/-- 'string([]byte{x})' -/
theorem conv_one (x : Int) (w : World) : (convert 97 9 (.slice (some ⟨w.heap.size, 0, none⟩) 1 1)).run Tryd.prog (w.alloc (.cells #[.int .u8 x] 5)) = .ok (.string (byte1 x)) (w.alloc (.cells #[.int .u8 x] 5)) := by
  have := run_convert_bytes_arg (P := Tryd.prog) (w.alloc (.cells #[.int .u8 x] 5)) 97 5 Tryd.underlying97 Tryd.underlying5 w.heap.size 0 1 1 [x] rfl
    (by intro i hi; obtain rfl : i = 0 := by omega
        simp) 9 Tryd.underlying9
  exact this

theorem mark_step {n m : Nat} {O : ByteArray} (h : digs n [] = digs m O.data.toList) (hm : 0 < m) : digs n [] = digs (m / 10) (byte1 (48 + (m : Int) % 10) ++ O).data.toList := by
  rw [h, digs_pos hm]
  have e : (48 + (m : Int) % 10).toNat = 48 + m % 10 := by omega
  have e2 : (byte1 (48 + (m : Int) % 10) ++ O).data.toList = UInt8.ofNat (48 + m % 10) :: O.data.toList := by
    unfold byte1
    rw [e]
    simp
  rw [e2]
theorem mark_end {n : Nat} {O : ByteArray} (h : digs n [] = digs 0 O.data.toList) : (⟨(109 :: digs n []).toArray⟩ : ByteArray) = ⟨#[109]⟩ ++ O := by
  rw [h, digs_zero]
  apply ByteArray.ext
  simp

set_option maxHeartbeats 400000 in
theorem markText_any (k : Int) (w : World) (h0 : 0 ≤ k) (hk : k ≤ 1099511627776) : Calls Tryd.prog 32 #[.int .i64 k] w fun e w' => e = .returned (.string (markS k)) ∧ Below w.heap.size w w' := by
  obtain ⟨n, rfl⟩ := Int.eq_ofNat_of_zero_le h0
  by_cases hz : n = 0
  · subst hz
    go_enter Tryd.func32, Tryd.ntmps32
    go_wp2
    go_ret
    exact ⟨rfl, Below.refl _ _⟩
  · have HM : Hid (markS (n : Int) = ⟨(109 :: digs n []).toArray⟩) := by show _ = _; unfold markS; rw [if_neg (by omega)]; rfl
    have hd : decide ((n : Int) ≤ 0) = false := by simp; omega
    go_enter Tryd.func32, Tryd.ntmps32
    go_wp2
    go_loopw [0, 3] (fun v o wr => ∃ (m : Nat) (O : ByteArray), v = .int .i64 m ∧ o = .string O ∧ O.size + m ≤ n ∧ Hid (digs n [] = digs m O.data.toList) ∧ Below w.heap.size w wr) (fun v _ _ => (intOf v).toNat)
    case atStart => exact ⟨n, ⟨#[]⟩, rfl, rfl, by show 0 + n ≤ n; omega, rfl, Below.refl _ _⟩
    case round =>
      obtain ⟨m, O, rfl, rfl, hO, HD, hbw⟩ := hrel
      by_cases hm : 0 < m
      · have hd2 : decide ((0 : Int) < (m : Int)) = true := by simp; omega
        have HS := Lib.hid (mark_step HD.out hm)
        have hcv := conv_one
        have hb1 := byte1_size (48 + (m : Int) % 10)
        go_wp2
        go_roundw
        case rel => exact ⟨m / 10, _, by go_num, rfl, by simp [byte1_size]; omega, HS, hbw.alloc hbw.size _⟩
        case measure => simp [intOf]; omega
      · obtain rfl : m = 0 := by omega
        have HE := Lib.hid (mark_end HD.out)
        go_wp2
        go_ret
        exact ⟨by rw [HM.out, HE.out]; rfl, hbw⟩

/-- A slice that reads as the strings L, wherever it lies. -/
def Strs (w : World) (v : Value) (L : List (List UInt8)) : Prop :=
  ∃ A cap, v = .slice A L.length cap ∧ L.length ≤ cap ∧ (0 < L.length → ∃ b off, A = some ⟨b, off, none⟩ ∧ b < w.heap.size ∧ ∀ k p, L[k]? = some p → w.cell? ⟨b, off + k, none⟩ = some (strV p))
theorem Strs.own {w : World} {base : Nat} {v : Value} {L : List (List UInt8)} (h : w.ownsRow base 9 1 v L.length (L.map strV)) : Strs w v L := by
  rcases h.2 with ⟨rfl, hn⟩ | ⟨g, cap, cur, rfl, hb, hg, hc, _⟩
  · exact ⟨none, 0, by rw [hn], by omega, fun h => by omega⟩
  · refine ⟨_, cap, rfl, hc, fun _ => ⟨g, 0, rfl, (Array.getElem?_eq_some_iff.1 hg).1, fun k p hk => ?_⟩⟩
    have := h.cells (g := g) rfl k (strV p) (by simp [hk])
    simpa [Addr.add_lit] using this
theorem Strs.below {w w' : World} {v : Value} {L : List (List UInt8)} (h : Strs w v L) (hb : Below w.heap.size w w') : Strs w' v L := by
  obtain ⟨A, cap, rfl, hc, h⟩ := h
  refine ⟨A, cap, rfl, hc, fun hn => ?_⟩
  obtain ⟨b, off, rfl, hlt, hcell⟩ := h hn
  exact ⟨b, off, rfl, Nat.lt_of_lt_of_le hlt hb.size, fun k p hk => (hb.cell (p := ⟨b, off + k, none⟩) hlt).trans (hcell k p hk)⟩

theorem take_snoc_eq {α : Type} [DecidableEq α] {A B : List α} {k : Nat} (ha : k < A.length) (hb : k < B.length) (h : A.take k = B.take k) (he : A[k] = B[k]) : A.take (k + 1) = B.take (k + 1) := by
  rw [List.take_succ_eq_append_getElem ha, List.take_succ_eq_append_getElem hb, h, he]
theorem getElem_of_eq {α : Type} {A B : List α} {k : Nat} (ha : k < A.length) (hb : k < B.length) (h : A = B) : A[k] = B[k] := by subst h; rfl

set_option maxHeartbeats 400000 in
theorem eqStringS_any (v1 v2 : Value) (A B : List (List UInt8)) (w : World) (h1 : Strs w v1 A) (h2 : Strs w v2 B) (hl : A.length ≤ maxLen) : Calls Tryd.prog 10 #[v1, v2] w fun e w' => e = .returned (.bool (decide (A = B))) ∧ ∃ n, w' = w.drewN n := by
  unfold maxLen at hl
  obtain ⟨a1, c1, rfl, hc1, h1⟩ := h1
  obtain ⟨a2, c2, rfl, hc2, h2⟩ := h2
  by_cases hL : A.length = B.length
  · have hne : ((A.length : Int) != (B.length : Int)) = false := by simp [hL]
    have HL := Lib.hid hL
    have H1 := Lib.hid h1
    have H2 := Lib.hid h2
    clear hL h1 h2
    go_enter Tryd.func10, Tryd.ntmps10
    go_wp2
    go_loopw [5] (fun i wr => ∃ k n : Nat, k ≤ A.length ∧ i = .int .i64 k ∧ wr = w.drewN n ∧ Hid (A.take k = B.take k)) (fun i _ => A.length - (intOf i).toNat)
    case atStart => exact ⟨0, 0, by omega, rfl, rfl, rfl⟩
    case round =>
      obtain ⟨k, n, hk, rfl, rfl, HK⟩ := hrel
      by_cases hlt : k < A.length
      · obtain ⟨b1, o1, rfl, hb1, hcell1⟩ := H1.out (by omega)
        have hL2 := HL.out
        have hlt2 : k < B.length := by omega
        obtain ⟨b2, o2, rfl, hb2, hcell2⟩ := H2.out (by omega)
        have hk1 := hcell1 k A[k] (by simp [hlt])
        have hk2 := hcell2 k B[k] (by simp [hlt2])
        unfold strV at hk1 hk2
        clear hcell1 hcell2 hL2 H1 H2
        have hi1 : (k : Int) < (A.length : Int) := by omega
        have hi2 : (k : Int) < (B.length : Int) := by omega
        have hi0 : (0 : Int) ≤ (k : Int) := by omega
        go_wp2
        go_quiet (fail)
        go_wp2
        · have HF : Hid (¬ A = B) := fun e => by
            have h3 : (!A[k] == B[k]) = true := by assumption
            rw [getElem_of_eq hlt hlt2 e] at h3
            simp at h3
          go_ret
          exact ⟨ret_bool (by simp [HF.out]), n + nq, World.drewN_drewN _ _ _⟩
        · have h3 : (!A[k] == B[k]) = false := by assumption
          exact ⟨⟨k + 1, _, by omega, by go_num, rfl, take_snoc_eq hlt hlt2 HK.out (by simpa using h3)⟩, by simp [intOf]; omega⟩
      · have HE : Hid (A = B) := by
          have hL2 := HL.out
          have := HK.out
          rw [List.take_of_length_le (by omega), List.take_of_length_le (by omega)] at this
          exact this
        go_wp2
        go_ret
        exact ⟨ret_bool (by simp [HE.out]), _, rfl⟩
  · have hne : ((A.length : Int) != (B.length : Int)) = true := by simp; omega
    have HE : Hid (¬ A = B) := fun e => hL (by rw [e])
    clear hL
    go_enter Tryd.func10, Tryd.ntmps10
    go_wp2
    go_ret
    exact ⟨ret_bool (by simp [HE.out]), 0, rfl⟩

theorem grown_below {w w' : World} (h : Below w.heap.size w w') (row : Option Nat) : w.grownBy w' row := ⟨h.os, h.tape, h.output, h.size, fun k hk _ => h.block k hk⟩
theorem grown_trans {a b c : World} {row : Option Nat} (h : a.grownBy b row) (k : b.grownBy c row) : a.grownBy c row :=
  ⟨k.os.trans h.os, k.tape.trans h.tape, k.output.trans h.output, Nat.le_trans h.size k.size, fun i hi hne => (k.block i (Nat.lt_of_lt_of_le hi h.size) hne).trans (h.block i hi hne)⟩

/-- n marks from k on. -/
def markRow (k : Int) (n : Nat) : List Value := (List.range n).map fun (i : Nat) => .string (markS (k + (i : Int)))
theorem markRow_at {k : Int} {n j : Nat} (h : j < n) : (markRow k n)[j]? = some (.string (markS (k + j))) := by simp [markRow, h]
theorem markRow_len (k : Int) (n : Nat) : (markRow k n).length = n := by simp [markRow]
theorem markRow_snoc (k : Int) (n : Nat) : markRow k (n + 1) = markRow k n ++ [.string (markS (k + n))] := by simp [markRow, List.range_succ]
theorem mark_set {k : Int} {j : Nat} {xs : List Value} (h : j < xs.length) : (markRow k j ++ xs.drop j).set j (.string (markS (k + j))) = markRow k (j + 1) ++ xs.drop (j + 1) := by
  rw [markRow_snoc, List.set_append_right _ _ (by rw [markRow_len]; exact Nat.le_refl _), markRow_len, Nat.sub_self, List.drop_eq_getElem_cons h, List.set_cons_zero, List.append_assoc]
  rfl

set_option maxHeartbeats 400000 in
theorem markStringS_any (v : Value) (n base : Nat) (xs : List Value) (k : Int) (w : World) (hown : w.ownsRow base 9 1 v n xs) (h0 : 0 ≤ k) (hk : k + n ≤ 1099511627776) :
    Calls Tryd.prog 13 #[v, .int .i64 k] w fun e w' => e = .returned (.int .i64 (k + n)) ∧ w'.ownsRow base 9 1 v n (markRow k n) ∧ w.grownBy w' v.ownBlock := by
  have hxl : xs.length = n := by simpa using hown.1
  have HX := Lib.hid hxl
  clear hxl
  rcases hown.2 with ⟨rfl, rfl⟩ | ⟨g, cap, cur, rfl, hbg, hgg, hnc, hcm, _⟩
  · go_enter Tryd.func13, Tryd.ntmps13
    go_wp2
    refine wp_loop_rounds 1 ?_
    rw [rounds_succ]
    go_wp2
    go_ret
    exact ⟨by simp, World.ownsRow_nil _ _ _ _, World.grownBy.refl _ _⟩
  · unfold maxLen at hcm
    clear hgg
    go_enter Tryd.func13, Tryd.ntmps13
    go_wp2
    go_loopw [1, 5] (fun m i wr => ∃ j : Nat, j ≤ n ∧ i = .int .i64 j ∧ m = .int .i64 (k + j) ∧ wr.ownsRow base 9 1 (.slice (some ⟨g, 0, none⟩) n cap) n (markRow k j ++ xs.drop j) ∧ w.grownBy wr (some g)) (fun _ i _ => n - (intOf i).toNat)
    case atStart => exact ⟨0, by omega, rfl, by simp, by simpa [markRow] using hown, World.grownBy.refl _ _⟩
    case round =>
      obtain ⟨j, hj, rfl, rfl, hownj, hgr⟩ := hrel
      by_cases hlt : j < n
      · go_wp2_with fail
        refine (markText_any _ _ (by omega) (by omega)).mono ?_
        rintro e w1 ⟨rfl, hb1⟩
        have hown1 := own_below hownj hb1
        have hx := HX.out
        obtain ⟨u, hu⟩ : ∃ u, (markRow k j ++ xs.drop j)[j]? = some u := ⟨_, List.getElem?_eq_getElem (by rw [List.length_append, markRow_len, List.length_drop]; omega)⟩
        have hc := (hown1.cellAt j (by omega)).trans hu
        have hf := hown1.frozenAt j
        have HS := Lib.hid (hown1.stored j (.string (markS (k + j))))
        rw [mark_set (by omega)] at HS
        clear hx hu
        go_wp2
        go_roundw
        case rel => exact ⟨j + 1, by omega, by go_num, by go_num, HS.out.1, grown_trans (grown_trans hgr (grown_below hb1 _)) HS.out.2⟩
        case measure => simp [intOf]; omega
      · obtain rfl : j = n := by omega
        go_wp2
        go_ret
        refine ⟨rfl, ?_, hgr⟩
        rw [List.drop_of_length_le (by rw [HX.out]; exact Nat.le_refl _), List.append_nil] at hownj
        exact hownj

set_option maxHeartbeats 800000 in
theorem heldStringS_any (v : Value) (n base : Nat) (k : Int) (w : World) (hown : w.ownsRow base 9 1 v n (markRow k n)) (h0 : 0 ≤ k) (hk : k + n ≤ 1099511627776) :
    Calls Tryd.prog 14 #[v, .int .i64 k] w fun e w' => e = .returned (.int .i64 (k + n)) ∧ Below w.heap.size w w' := by
  rcases hown.2 with ⟨rfl, rfl⟩ | ⟨g, cap, cur, rfl, hbg, hgg, hnc, hcm, _⟩
  · go_enter Tryd.func14, Tryd.ntmps14
    go_wp2
    refine wp_loop_rounds 1 ?_
    rw [rounds_succ]
    go_wp2
    go_ret
    exact ⟨by simp, Below.refl _ _⟩
  · unfold maxLen at hcm
    have hglt : g < w.heap.size := (Array.getElem?_eq_some_iff.1 hgg).1
    clear hgg
    have HC : Hid (∀ j, j < n → w.cell? ⟨g, j, none⟩ = some (.string (markS (k + (j : Int))))) := fun j hj => (hown.cellAt j (by omega)).trans (markRow_at hj)
    clear hown
    go_enter Tryd.func14, Tryd.ntmps14
    go_wp2
    go_loopw [1, 5] (fun m i wr => ∃ j : Nat, j ≤ n ∧ i = .int .i64 j ∧ m = .int .i64 (k + j) ∧ Below w.heap.size w wr) (fun _ i _ => n - (intOf i).toNat)
    case atStart => exact ⟨0, by omega, rfl, by simp, Below.refl _ _⟩
    case round =>
      obtain ⟨j, hj, rfl, rfl, hbw⟩ := hrel
      by_cases hlt : j < n
      · have hc : wr.cell? ⟨g, j, none⟩ = some (.string (markS (k + j))) := (hbw.cell (p := ⟨g, j, none⟩) hglt).trans (HC.out j hlt)
        have hi1 : (j : Int) < (n : Int) := by omega
        have hi0 : (0 : Int) ≤ (j : Int) := by omega
        have hgr : g < wr.heap.size := Nat.lt_of_lt_of_le hglt hbw.size
        go_wp2
        go_region_held3 (fun w' => w'.cell? ⟨g, j, none⟩ = some (.string (markS (k + j)))) (first | exact hc | exact (hb1.cell (p := ⟨g, j, none⟩) hgr).trans hc | go_keep) (first | (go_at_call 32; refine (markText_any _ _ (by omega) (by omega)).mono ?_; rintro e w1 ⟨rfl, hb1⟩))
        go_wp2
        exact ⟨⟨j + 1, by omega, by go_num, by go_num, hbw.drew.trans (hb1.mono hbw.size)⟩, by simp [intOf]; omega⟩
      · obtain rfl : j = n := by omega
        go_wp2
        go_ret
        exact ⟨rfl, hbw⟩

end Go.Proofs.YtcnjiphoahoojaaDoor.Paths

/- Paths: ParentOf and JoinPath, of the program and of its model. -/
namespace Go.Proofs.YtcnjiphoahoojaaDoor.Paths
open Go.RowKit

theorem Strs.take {w : World} {A : Option Addr} {cap : Nat} {L : List (List UInt8)} {k : Nat} (h : Strs w (.slice A L.length cap) L) (hk : k ≤ L.length) : Strs w (.slice A k cap) (L.take k) := by
  obtain ⟨A', cap', e, hc, h⟩ := h
  cases e
  refine ⟨A, cap, by rw [List.length_take, Nat.min_eq_left hk], by rw [List.length_take]; omega, fun hn => ?_⟩
  rw [List.length_take] at hn
  obtain ⟨b, off, e, hb, hcell⟩ := h (by omega)
  refine ⟨b, off, e, hb, fun j p hj => hcell j p ?_⟩
  rw [List.getElem?_take] at hj
  split at hj
  · exact hj
  · cases hj

set_option maxHeartbeats 400000 in
theorem l01Parent_any (s : ByteArray) (w : World) (hs : s.size ≤ maxLen) : Calls Tryd.prog 64 #[.string s] w fun e w' => e = .returned (strV (parentL s.data.toList)) ∧ w = w' := by
  unfold maxLen at hs
  go_enter Tryd.func64, Tryd.ntmps64
  go_wp2
  go_loop [3] (fun i => ∃ k : Nat, k ≤ s.size ∧ i = .int .i64 ((k : Int) - 1) ∧ Hid (Clear s.data.toList k)) (fun i => (intOf i + 1).toNat)
  case atStart => exact ⟨s.size, by omega, rfl, Clear.start s⟩
  case round =>
    obtain ⟨k, hk, rfl, HC⟩ := hrel
    cases k with
    | zero =>
      have HN := Lib.hid (Clear.none HC.out)
      go_wp2
      go_ret
      exact ⟨by rw [HN.out]; rfl, rfl⟩
    | succ k =>
      have e1 : (((k + 1 : Nat) : Int) - 1) = (k : Int) := by omega
      rw [e1]
      clear e1
      have hlt : k < s.size := by omega
      rcases Bool.eq_false_or_eq_true ((s[k].toNat : Int) == 47) with he | he
      · have HE : Hid (parentL s.data.toList = s.data.toList.take k) := HC.out.hit hlt (by simp at he; exact UInt8.toNat_inj.1 (by show _ = 47; omega))
        go_wp2
        go_ret
        exact ⟨by rw [HE.out, ← strV_take]; rfl, rfl⟩
      · have HD := Lib.hid (HC.out.down hlt (fun e => by rw [e] at he; exact absurd he (by decide)))
        go_wp2
        exact ⟨⟨k, by omega, rfl, HD⟩, by simp [intOf]⟩

end Go.Proofs.YtcnjiphoahoojaaDoor.Paths

/- Paths: JoinPath, of the program and of its model. -/
namespace Go.Proofs.YtcnjiphoahoojaaDoor.Paths
open Go.RowKit

/-- Which of the ways JoinPath goes: 0: too long · 1: no path, or no part · 2: too many parts · 3: from the root · 4: from a path. -/
def joinWay (d p : ByteArray) : Nat :=
  if 65536 < d.size ∨ 65536 < p.size then 0
  else if (d.size ≠ 0 ∧ pathB d.data.toList = false) ∨ partB p.data.toList = false then 1
  else if d.size = 0 then 3
  else if (cutAt 47 d.data.toList).length = 4 then 2 else 4
def joinCode (d p : ByteArray) : Int := match joinWay d p with | 0 => 2 | 1 => 10 | 2 => 6 | _ => 0
def joinRes (d p : ByteArray) : List UInt8 := match joinWay d p with | 3 => p.data.toList | 4 => d.data.toList ++ 47 :: p.data.toList | _ => []
def JoinPost (d p : ByteArray) (w : World) (e : Ending) (w' : World) : Prop := e = .returned (.tuple #[strV (joinRes d p), .int .i64 (joinCode d p)]) ∧ Below w.heap.size w w'

theorem JoinPost.long {d p : ByteArray} {w w' : World} (h : joinWay d p = 0) (hb : Below w.heap.size w w') : JoinPost d p w (.returned (.tuple #[.string ⟨#[]⟩, .int .i64 2])) w' := ⟨by unfold joinRes joinCode; rw [h]; rfl, hb⟩
theorem JoinPost.many {d p : ByteArray} {w w' : World} (h : joinWay d p = 2) (hb : Below w.heap.size w w') : JoinPost d p w (.returned (.tuple #[.string ⟨#[]⟩, .int .i64 6])) w' := ⟨by unfold joinRes joinCode; rw [h]; rfl, hb⟩
theorem JoinPost.root {d p : ByteArray} {w w' : World} (h : joinWay d p = 3) (hb : Below w.heap.size w w') : JoinPost d p w (.returned (.tuple #[strV p.data.toList, .int .i64 0])) w' := ⟨by unfold joinRes joinCode; rw [h]; rfl, hb⟩
end Go.Proofs.YtcnjiphoahoojaaDoor.Paths

/- Paths: PathLess and IsBelow, of the program and of its model. -/
namespace Go.Proofs.YtcnjiphoahoojaaDoor.Paths
open Go.RowKit

def cmpS (x y : List UInt8) : Int := if Op.bytesLess x y then -1 else if x = y then 0 else 1

theorem isNaN_any (x : List UInt8) (w : World) : Calls Tryd.prog 105 #[.string ⟨x.toArray⟩] w fun e w' => e = .returned (.bool false) ∧ w = w' := by
  go_enter Tryd.func105, Tryd.ntmps105
  go_wp2
  go_ret
  exact ⟨rfl, rfl⟩

theorem compare_any (x y : List UInt8) (w : World) : Calls Tryd.prog 97 #[.string ⟨x.toArray⟩, .string ⟨y.toArray⟩] w fun e w' => e = .returned (.int .i64 (cmpS x y)) ∧ w = w' := by
  rcases Bool.eq_false_or_eq_true (Op.bytesLess x y) with h | h
  · have HC : Hid (cmpS x y = -1) := by show _ = _; unfold cmpS; rw [h]; rfl
    go_enter Tryd.func97, Tryd.ntmps97
    go_wp2_with (first | (go_at_call 105; refine (isNaN_any _ _).mono ?_; rintro e w' ⟨rfl, rfl⟩))
    go_ret
    exact ⟨ret_int HC.out.symm, rfl⟩
  · rcases Bool.eq_false_or_eq_true (x == y) with he | he
    · have HC : Hid (cmpS x y = 0) := by show _ = _; unfold cmpS; simp [h]; simpa using he
      go_enter Tryd.func97, Tryd.ntmps97
      go_wp2_with (first | (go_at_call 105; refine (isNaN_any _ _).mono ?_; rintro e w' ⟨rfl, rfl⟩))
      go_ret
      exact ⟨ret_int HC.out.symm, rfl⟩
    · have HC : Hid (cmpS x y = 1) := by show _ = _; unfold cmpS; simp [h]; simpa using he
      go_enter Tryd.func97, Tryd.ntmps97
      go_wp2_with (first | (go_at_call 105; refine (isNaN_any _ _).mono ?_; rintro e w' ⟨rfl, rfl⟩))
      go_ret
      exact ⟨ret_int HC.out.symm, rfl⟩

theorem cmp_step {A B : List (List UInt8)} {k : Nat} (ha : k < A.length) (hb : k < B.length) (h : cmpS A[k] B[k] = 0) : cmpP (A.drop k) (B.drop k) = cmpP (A.drop (k + 1)) (B.drop (k + 1)) := by
  rw [cmpP_drop ha hb]
  unfold cmpS at h
  split at h
  · cases h
  · rename_i hn
    split at h
    · rename_i he
      rw [if_neg hn, if_pos he]
    · cases h
theorem cmp_stop {A B : List (List UInt8)} {k : Nat} (ha : k < A.length) (hb : k < B.length) (h : cmpS A[k] B[k] ≠ 0) : cmpP (A.drop k) (B.drop k) = cmpS A[k] B[k] := by
  rw [cmpP_drop ha hb]
  unfold cmpS at h ⊢
  split
  · rfl
  · rename_i hn
    split
    · rename_i he
      rw [if_neg hn, if_pos he] at h
      exact absurd rfl h
    · rfl

set_option maxHeartbeats 400000 in
theorem slicesCompare_any (v1 v2 : Value) (A B : List (List UInt8)) (w : World) (h1 : Strs w v1 A) (h2 : Strs w v2 B) (hl : A.length ≤ 1000) (hl2 : B.length ≤ 1000) : Calls Tryd.prog 82 #[v1, v2] w fun e w' => e = .returned (.int .i64 (cmpP A B)) ∧ w = w' := by
  obtain ⟨a1, c1, rfl, hc1, h1⟩ := h1
  obtain ⟨a2, c2, rfl, hc2, h2⟩ := h2
  have H1 := Lib.hid h1
  have H2 := Lib.hid h2
  clear h1 h2
  go_enter Tryd.func82, Tryd.ntmps82
  go_wp2
  go_loop [11] (fun i => ∃ k : Nat, k ≤ A.length ∧ k ≤ B.length ∧ i = .int .i64 k ∧ Hid (cmpP A B = cmpP (A.drop k) (B.drop k))) (fun i => A.length - (intOf i).toNat)
  case atStart => exact ⟨0, by omega, by omega, rfl, rfl⟩
  case round =>
    obtain ⟨k, hk, hkb, rfl, HK⟩ := hrel
    by_cases hlt : k < A.length
    · obtain ⟨b1, o1, rfl, hb1, hcell1⟩ := H1.out (by omega)
      have hk1 := hcell1 k A[k] (by simp [hlt])
      unfold strV at hk1
      clear hcell1 H1
      have hi1 : (k : Int) < (A.length : Int) := by omega
      have hi0 : (0 : Int) ≤ (k : Int) := by omega
      by_cases hlt2 : k < B.length
      · obtain ⟨b2, o2, rfl, hb2, hcell2⟩ := H2.out (by omega)
        have hk2 := hcell2 k B[k] (by simp [hlt2])
        unfold strV at hk2
        clear hcell2 H2
        have hi2 : (k : Int) < (B.length : Int) := by omega
        by_cases h0 : cmpS A[k] B[k] = 0
        · have HS := Lib.hid (cmp_step hlt hlt2 h0)
          go_wp2_with (first | (go_at_call 97; refine (compare_any _ _ _).mono ?_; rintro e w' ⟨rfl, rfl⟩))
          exact ⟨⟨k + 1, by omega, by omega, by go_num, by show _ = _; rw [HK.out, HS.out]⟩, by simp [intOf]; omega⟩
        · have HS := Lib.hid (cmp_stop hlt hlt2 h0)
          have hne : (cmpS A[k] B[k] != 0) = true := by simpa using h0
          clear h0
          go_wp2_with (first | (go_at_call 97; refine (compare_any _ _ _).mono ?_; rintro e w' ⟨rfl, rfl⟩))
          go_ret
          exact ⟨ret_int (by rw [HK.out, HS.out]), rfl⟩
      · have HS := Lib.hid (cmpP_nilR (B := B) hlt (by omega))
        go_wp2
        go_ret
        exact ⟨ret_int (by rw [HK.out, HS.out]), rfl⟩
    · have HS := Lib.hid (cmpP_nilL (A := A) (B := B) (k := k) (by omega) hkb)
      by_cases hAB : A.length < B.length
      · rw [if_pos hAB] at HS
        go_wp2
        go_ret
        exact ⟨ret_int (by rw [HK.out, HS.out]), rfl⟩
      · rw [if_neg hAB] at HS
        go_wp2
        go_ret
        exact ⟨ret_int (by rw [HK.out, HS.out]), rfl⟩

set_option maxHeartbeats 800000 in
theorem l01Less_any (s t : ByteArray) (w : World) (hs : s.size ≤ 65536) (ht : t.size ≤ 65536) : Calls Tryd.prog 40 #[.string s, .string t] w fun e w' => e = .returned (.bool (lessP (cutAt 47 s.data.toList) (cutAt 47 t.data.toList))) ∧ Below w.heap.size w w' := by
  go_enter Tryd.func40, Tryd.ntmps40
  go_wp2_with fail
  refine (l00Cut_any s 47 47 rfl _ (by omega)).mono ?_
  rintro e w1 ⟨v1, rfl, hb1, ho1⟩
  go_wp2_with fail
  refine (l00Cut_any t 47 47 rfl _ (by omega)).mono ?_
  rintro e w2 ⟨v2, rfl, hb2, ho2⟩
  have s1 := Strs.own (own_below ho1 hb2)
  have s2 := Strs.own ho2
  have hl1 := cutAt_length_le 47 s.data.toList
  have hl2 := cutAt_length_le 47 t.data.toList
  rw [← Lib.size_eq] at hl1 hl2
  have hb12 := hb1.trans (hb2.mono hb1.size)
  clear ho1 ho2 hb1 hb2
  generalize hA0 : cutAt 47 s.data.toList = A at *
  generalize hB0 : cutAt 47 t.data.toList = B at *
  have HAB : Hid (lessP (cutAt 47 s.data.toList) (cutAt 47 t.data.toList) = lessP A B) := by show _ = _; rw [hA0, hB0]
  clear hA0 hB0
  obtain ⟨a1, c1, rfl, hc1, h1⟩ := s1
  obtain ⟨a2, c2, rfl, hc2, h2⟩ := s2
  have H1 := Lib.hid h1
  have H2 := Lib.hid h2
  clear h1 h2
  go_wp2
  go_loopw [7] (fun i wr => ∃ k n : Nat, k ≤ A.length ∧ k ≤ B.length ∧ i = .int .i64 k ∧ wr = w2.drewN n ∧ Hid (lessP A B = lessP (A.drop k) (B.drop k))) (fun i _ => A.length - (intOf i).toNat)
  case atStart => exact ⟨0, 0, by omega, by omega, rfl, rfl, rfl⟩
  case round =>
    obtain ⟨k, n, hk, hkb, rfl, rfl, HK⟩ := hrel
    by_cases hlt : k < A.length ∧ k < B.length
    · obtain ⟨hlt1, hlt2⟩ := hlt
      obtain ⟨b1, o1, rfl, hb1, hcell1⟩ := H1.out (by omega)
      obtain ⟨b2, o2, rfl, hb2, hcell2⟩ := H2.out (by omega)
      have hk1 := hcell1 k A[k] (by simp [hlt1])
      have hk2 := hcell2 k B[k] (by simp [hlt2])
      unfold strV at hk1 hk2
      clear hcell1 hcell2 H1 H2
      have hi1 : (k : Int) < (A.length : Int) := by omega
      have hi2 : (k : Int) < (B.length : Int) := by omega
      have hi0 : (0 : Int) ≤ (k : Int) := by omega
      have HD := Lib.hid (lessP_drop hlt1 hlt2)
      rcases Bool.eq_false_or_eq_true (A[k] == B[k]) with he | he
      · have HS : Hid (lessP A B = lessP (A.drop (k + 1)) (B.drop (k + 1))) := by show _ = _; rw [HK.out, HD.out, if_pos (by simpa using he)]
        go_wp2
        go_quiet (fail)
        go_wp2
        exact ⟨⟨k + 1, _, by omega, by omega, by go_num, rfl, HS⟩, by simp [intOf]; omega⟩
      · have HS : Hid (lessP A B = Op.bytesLess A[k] B[k]) := by show _ = _; rw [HK.out, HD.out, if_neg (by simpa using he)]
        go_wp2
        go_quiet (fail)
        go_wp2
        go_quiet (fail)
        go_wp2
        go_ret
        exact ⟨ret_bool (by rw [HAB.out, HS.out]), by exact ⟨hb12.os, hb12.tape, hb12.output, hb12.size, hb12.block⟩⟩
    · have HS := Lib.hid (lessP_end hlt hk hkb)
      by_cases hA : k < A.length
      · have hB : ¬ k < B.length := by omega
        go_wp2
        go_ret
        exact ⟨ret_bool (by rw [HAB.out, HK.out, HS.out]), by exact ⟨hb12.os, hb12.tape, hb12.output, hb12.size, hb12.block⟩⟩
      · go_wp2
        go_ret
        exact ⟨ret_bool (by rw [HAB.out, HK.out, HS.out]), by exact ⟨hb12.os, hb12.tape, hb12.output, hb12.size, hb12.block⟩⟩

def lessB (s t : ByteArray) : Bool := pathB s.data.toList && pathB t.data.toList && lessP (cutAt 47 s.data.toList) (cutAt 47 t.data.toList)
theorem lessB_no1 {s t : ByteArray} (h : pathB s.data.toList = false) : lessB s t = false := by unfold lessB; rw [h]; rfl
theorem lessB_no2 {s t : ByteArray} (h : pathB t.data.toList = false) : lessB s t = false := by unfold lessB; rw [h]; simp
theorem lessB_yes {s t : ByteArray} (h : pathB s.data.toList = true) (k : pathB t.data.toList = true) : lessB s t = lessP (cutAt 47 s.data.toList) (cutAt 47 t.data.toList) := by unfold lessB; rw [h, k]; rfl

set_option maxHeartbeats 800000 in
theorem pathLess_impl (s t : ByteArray) (w : World) (hs : s.size ≤ maxLen) (ht : t.size ≤ maxLen) : Calls Tryd.prog 72 #[.string s, .string t] w fun e w' => e = .returned (.bool (lessB s t)) ∧ Below w.heap.size w w' := by
  have hq := fun (w : World) (a : Option Addr) (n c n' c' : Nat) => run_neq_slice_nil_any (P := Tryd.prog) w 24 9 a n c n' c' Tryd.underlying24
  go_enter Tryd.func72, Tryd.ntmps72
  go_wp2_with fail
  refine (splitPath_any s _ hs).mono ?_
  rintro e w1 ⟨v1, rfl, hp1⟩
  go_wp2_with fail
  refine (splitPath_any t _ ht).mono ?_
  rintro e w2 ⟨v2, rfl, hp2⟩
  obtain ⟨A1, cap1, rfl, hA1⟩ := split_nil hp1
  obtain ⟨A2, cap2, rfl, hA2⟩ := split_nil hp2
  obtain ⟨hb1, ho1, _, _⟩ := hp1
  obtain ⟨hb2, ho2, _, _⟩ := hp2
  have hb12 := hb1.trans (hb2.mono hb1.size)
  rcases Bool.eq_false_or_eq_true (pathB s.data.toList) with h1 | h1
  case inr =>
    have HL := Lib.hid (lessB_no1 (t := t) h1)
    rw [h1] at hA1
    clear ho1 ho2
    go_wp2_with fail
    go_ret
    exact ⟨ret_bool HL.out.symm, hb12⟩
  rcases Bool.eq_false_or_eq_true (pathB t.data.toList) with h2 | h2
  case inr =>
    have HL := Lib.hid (lessB_no2 (s := s) h2)
    rw [h1] at hA1
    rw [h2] at hA2
    clear ho1 ho2
    go_wp2_with fail
    go_ret
    exact ⟨ret_bool HL.out.symm, hb12⟩
  have HL := Lib.hid (lessB_yes h1 h2)
  rw [h1] at hA1
  rw [h2] at hA2
  have l1 := (pathB_parts h1).1
  have l2 := (pathB_parts h2).1
  have s1 := Lib.hid (Strs.own (own_below ho1 hb2))
  have s2 := Lib.hid (Strs.own ho2)
  rw [partsOf_yes h1] at *
  rw [partsOf_yes h2] at *
  clear ho1 ho2
  go_wp2_with fail
  refine (slicesCompare_any _ _ _ _ _ s1.out s2.out (by omega) (by omega)).mono ?_
  rintro e w3 ⟨rfl, rfl⟩
  go_wp2_with fail
  go_ret
  exact ⟨ret_bool (by rw [HL.out]; exact less_cmp _ _), hb12⟩

end Go.Proofs.YtcnjiphoahoojaaDoor.Paths

/- The combination of two layers, plain: what it holds; it is a layer but for its length; it has the same effect on every tree as applying one after the other. -/
namespace Go.Proofs.YtcnjiphoahoojaaDoor.Recs
open Go.RowKit Paths

/-- The upper record, over the lower one of its path. -/
def overR (x y : R) : R := if y.k = 3 ∧ stops x = true then { y with o := true } else y
/-- Two sorted lists in one: of the lower one what the upper one (u) does not cut off. -/
def twoL (u : List R) : List R → List R → List R
  | [], b => b
  | x :: a, [] => if cutsL u x.p then twoL u a [] else x :: twoL u a []
  | x :: a, y :: b =>
    if lessR x y then (if cutsL u x.p then twoL u a (y :: b) else x :: twoL u a (y :: b))
    else if lessR y x then y :: twoL u (x :: a) b
    else overR x y :: twoL u a b
termination_by a b => a.length + b.length
end Go.Proofs.YtcnjiphoahoojaaDoor.Recs

/- The combination of two layers, plain: its effect on every tree is that of applying one after the other. -/
namespace Go.Proofs.YtcnjiphoahoojaaDoor.Recs
open Go.RowKit Paths

def two (a b : List R) : List R := twoL b a b
section
variable {a b : List R} (ha : IsLayer a) (hb : IsLayer b)
include ha hb
end
end Go.Proofs.YtcnjiphoahoojaaDoor.Recs

/- The canonical form is told by the effect: two canonical layers that have the same effect on every tree are one; so combining is associative. -/
namespace Go.Proofs.YtcnjiphoahoojaaDoor.Recs
open Go.RowKit Paths

/-- A canonical layer, of whatever length below a great bound. -/
structure Canon (l : List R) : Prop where
  layer : IsLayer l
  canon : canonL l = l
  fine : ∀ x ∈ l, x.fault = 0

section
variable {a b : List R} (ha : Canon a) (hb : Canon b) (hlen : a.length + b.length < 4096) (he : ∀ t, IsTree t → applyL a t = applyL b t)
include ha hb he
include hlen
end
end Go.Proofs.YtcnjiphoahoojaaDoor.Recs

/- Combining layers, plain: the combination is canonical; combining is associative; the combination of a stack has the effect of applying its layers in order, and no other canonical layer has it. -/
namespace Go.Proofs.YtcnjiphoahoojaaDoor.Recs
open Go.RowKit Paths

/-- A layer of valid records. -/
structure Fine (l : List R) : Prop where
  layer : IsLayer l
  fine : ∀ x ∈ l, x.fault = 0
end Go.Proofs.YtcnjiphoahoojaaDoor.Recs
