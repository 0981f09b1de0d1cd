/- Parts of several texts of mine in one file (each begins with its own remark). -/
import Derived.Test.YtciflchaepchiaaDoorFA2
import Derived.Test.YtciflchaepchiaaDoorFA3
import Derived.Test.YtciflchaepchiaaDoorFA4
import Derived.Test.YtciflchaepchiaaDoorFA5
import Derived.Test.YtciflchaepchiaaDoorFA6
import Derived.Test.YtciflchaepchiaaDoorFA7
import Derived.Test.YtciflchaepchiaaDoorChecked
import Derived.Test.YtciflchaepchiaaDoorShelf
import Derived.Test.YtciflchaepchiaaDoorProg
import Derived.Test.YtciflchaepchiaaDoorRows
import Derived.Deep.Cut
import Derived.Deep.RegionHeld3
import Derived.Laws.BytesArg
import Derived.Lib.ConvBytes
import Derived.Deep.Slices
import Derived.OpenShut
import Derived.ShutString
import Derived.ChangeArms
import Derived.WideShapes
import Derived.Lib.LaidTab
import Derived.BigQuiet
import Derived.Deep.QuietTactic
import Derived.StillTailTactics
import Derived.Deep.Draws
import Derived.Deep.LoopGhost
import Derived.WalkKit
import Derived.WalkSpells
import Derived.WalkSmall
import Derived.Lib.OthersKept
import Derived.Lib.Hide
import Derived.Lib.Strings
import Derived.Lib.Join
import Derived.WalkLawsBesides
import Derived.Below
import Derived.Shelf.Strings.Builder1
import Derived.Stop.LaidErr
import Derived.Laws.OwnMore
import Derived.BigRegion
import Derived.LaidEql
import Derived.Stop.Asserts
import Derived.Stop.LaidTwo
import Derived.ChangeVars
import Derived.Deep.DeepHandedRow
/- A reading of a text: the next bytes, the next number. No condition. -/
namespace Go.Proofs.YtciflchaepchiaaDoor.Recs
set_option maxRecDepth 100000
open Go.RowKit Paths

/-- A reading in block g: what is left, and whether more was asked for than was left. -/
def Rd (w : World) (g : Nat) (s : ByteArray) (sh : Bool) : Prop := w.heap[g]? = some (.cells #[.string s, .bool sh] 67 (0, 0))
theorem Rd.lt {w : World} {g : Nat} {s : ByteArray} {sh : Bool} (h : Rd w g s sh) : g < w.heap.size := (Array.getElem?_eq_some_iff.1 h).1
theorem Rd.below {w w' : World} {g : Nat} {s : ByteArray} {sh : Bool} (h : Rd w g s sh) (hb : Below w.heap.size w w') : Rd w' g s sh := (hb.block _ h.lt).trans h
theorem grown_of_below {w w' : World} {r : Option Nat} (h : Below w.heap.size w w') : w.grownBy w' r := ⟨h.os, h.tape, h.output, h.size, fun j hj _ => h.block j hj⟩
theorem grown_set {w : World} {g o : Nat} {v : Value} : w.grownBy (w.setCell ⟨g, o, none⟩ v) (some g) := ⟨rfl, rfl, rfl, by simp, fun j _ hj => heap_setCell_other w ⟨g, o, none⟩ j _ (fun e => hj (by simp [e]))⟩

theorem ext_take (s : ByteArray) (a b : Nat) : (s.extract a b).data.toList = (s.data.toList.drop a).take (b - a) := by
  rw [Lib.extract_data]
theorem ext_drop (s : ByteArray) (a : Nat) : (s.extract a s.size).data.toList = s.data.toList.drop a := by
  rw [ext_take, List.take_of_length_le]
  rw [List.length_drop, ← Lib.size_eq]
  exact Nat.le_refl _

theorem clone_any (s : ByteArray) (w : World) (hs : s.size ≤ 1048576) : Calls Tryd.prog 63 #[.string s] w fun e w' => e = .returned (.string s) ∧ Below w.heap.size w w' := by
  go_enter Tryd.func63, Tryd.ntmps63
  go_wp2_with fail
  refine (Tryd.stringslite_Clone s w (by omega)).mono ?_
  rintro e w1 ⟨rfl, hb1⟩
  go_wp2_with fail
  go_ret
  exact ⟨rfl, hb1⟩

set_option maxHeartbeats 800000 in
theorem text_any (g n : Nat) (s : ByteArray) (sh : Bool) (w : World) (h : Rd w g s sh) (hn : n ≤ 1000) :
    Calls Tryd.prog 49 #[.pointer (some ⟨g, 0, none⟩), .int .i64 n] w fun e w' => ∃ T Q : ByteArray, e = .returned (.string T) ∧ T.data.toList = tkL n s.data.toList ∧ Q.data.toList = rsL n s.data.toList ∧ Q.size ≤ s.size ∧ Rd w' g Q (shL n s.data.toList sh) ∧ w.grownBy w' (some g) := by
  have c0 : w.cell? ⟨g, 0, none⟩ = some (.string s) := cell_of_row w g 0 _ _ _ h
  have c1 : w.cell? ⟨g, 1, none⟩ = some (.bool sh) := cell_of_row w g 1 _ _ _ h
  have f0 : w.frozen? ⟨g, 0, none⟩ = false := frozen_of_row w g 0 _ _ h
  have f1 : w.frozen? ⟨g, 1, none⟩ = false := frozen_of_row w g 1 _ _ h
  have HR := Lib.hid h
  have hlt := h.lt
  have hsz : s.data.toList.length = s.size := (Lib.size_eq s).symm
  clear h
  by_cases hc : s.size < n
  · have hd : decide (s.size < n) = true := decide_eq_true hc
    have H1 : Hid (tkL n s.data.toList = [] ∧ rsL n s.data.toList = s.data.toList ∧ shL n s.data.toList sh = true) := by
      unfold tkL rsL shL
      rw [if_pos (by omega), if_pos (by omega), if_pos (by omega)]
      exact ⟨rfl, rfl, rfl⟩
    clear hsz hc
    go_enter Tryd.func49, Tryd.ntmps49
    go_wp2_with fail
    go_ret
    exact ⟨⟨#[]⟩, s, rfl, H1.out.1.symm, H1.out.2.1.symm, Nat.le_refl _, by rw [H1.out.2.2]; exact heap_setCell_same w g 1 _ _ (.bool true) HR.out, grown_set⟩
  · have hd : decide (s.size < n) = false := decide_eq_false hc
    have hi : (n : Int) ≤ (s.size : Int) := by omega
    have hi0 : (0 : Int) ≤ (n : Int) := by omega
    have H1 : Hid (tkL n s.data.toList = s.data.toList.take n ∧ rsL n s.data.toList = s.data.toList.drop n ∧ shL n s.data.toList sh = sh) := by
      unfold tkL rsL shL
      rw [if_neg (by omega), if_neg (by omega), if_neg (by omega)]
      exact ⟨rfl, rfl, rfl⟩
    clear hsz
    go_enter Tryd.func49, Tryd.ntmps49
    go_wp2_with fail
    refine (clone_any _ w (by simp; omega)).mono ?_
    rintro e w1 ⟨rfl, hb1⟩
    have HR1 := HR.out.below hb1
    have d0 : w1.cell? ⟨g, 0, none⟩ = some (.string s) := cell_of_row w1 g 0 _ _ _ HR1
    have e0 : w1.frozen? ⟨g, 0, none⟩ = false := frozen_of_row w1 g 0 _ _ HR1
    have HR2 := Lib.hid HR1
    have HG : Hid (w.grownBy w1 (some g)) := grown_of_below hb1
    clear HR1 hb1
    go_wp2_with fail
    go_ret
    exact ⟨s.extract 0 n, s.extract n s.size, rfl, by rw [H1.out.1, ext_take]; simp, by rw [H1.out.2.1, ext_drop], by simp, by rw [H1.out.2.2]; exact heap_setCell_same w1 g 0 _ _ (.string (s.extract n s.size)) HR2.out, grown_trans HG.out grown_set⟩

set_option maxHeartbeats 1600000 in
theorem number_any (g n : Nat) (s : ByteArray) (sh : Bool) (w : World) (h : Rd w g s sh) (hn : n ≤ 2) :
    Calls Tryd.prog 48 #[.pointer (some ⟨g, 0, none⟩), .int .i64 n] w fun e w' => e = .returned (.int .i64 (nuL (tkL n s.data.toList) : Int)) ∧ ∃ Q : ByteArray, Q.data.toList = rsL n s.data.toList ∧ Q.size ≤ s.size ∧ Rd w' g Q (shL n s.data.toList sh) ∧ w.grownBy w' (some g) := by
  have HT := text_any g n s sh w h (by omega)
  have htl : (tkL n s.data.toList).length ≤ 2 := by
    unfold tkL
    split
    · simp
    · rw [List.length_take]; omega
  have hgl := h.lt
  clear h
  go_enter Tryd.func48, Tryd.ntmps48
  go_wp2_with fail
  refine HT.mono ?_
  rintro e w1 ⟨T, Q, rfl, hT, hQ, hQs, hrd, hg⟩
  have kc := fun (w : World) => Lib.run_convert_string_bytes (P := Tryd.prog) w 9 63 5 T Tryd.underlying9 Tryd.underlying63 Tryd.underlying5
  have hB0 : Below w1.heap.size w1 (Lib.bytesWorld w1 5 T) := bytes_below w1 5 T
  have HC : Hid (∀ j (h : j < T.size), (Lib.bytesWorld w1 5 T).cell? ⟨w1.heap.size, j, none⟩ = some (.int .u8 T[j].toNat)) := fun j h => bytes_cell w1 5 T h
  have HFIN : Hid (Rd (Lib.bytesWorld w1 5 T) g Q (shL n s.data.toList sh) ∧ w.grownBy (Lib.bytesWorld w1 5 T) (some g)) := ⟨hrd.below hB0, grown_trans hg (grown_of_below hB0)⟩
  have hTs : T.size ≤ 2 := by rw [size_of_list hT]; exact htl
  generalize hcap : grownCap w1 T.size 0 5 = cap at *
  have HTL := Lib.hid hT
  have HQ := Lib.hid hQ
  clear hcap hrd hg hB0 hT hQ
  go_wp2_with fail
  generalize Lib.bytesWorld w1 5 T = W at *
  go_loop [5, 13] (fun n i => ∃ k : Nat, k ≤ T.size ∧ i = .int .i64 k ∧ n = .int .i64 (nuL (T.data.toList.take k) : Int)) (fun _ i => T.size - (intOf i).toNat)
  case atStart => exact ⟨0, by omega, rfl, rfl⟩
  case round =>
    obtain ⟨k, hk, rfl, rfl⟩ := hrel
    by_cases hlt : k < T.size
    · have hnu := nu_small (T.data.toList.take k) (by rw [List.length_take]; omega)
      have HN := Lib.hid (nu_step (l := T.data.toList) (k := k) (by rw [← Lib.size_eq]; exact hlt))
      have cc := HC.out k hlt
      have hb := T[k].toNat_lt
      have HK : Hid ((T.data.toList[k]'(by rw [← Lib.size_eq]; exact hlt)).toNat = T[k].toNat) := rfl
      generalize T[k].toNat = q at *
      generalize nuL (T.data.toList.take k) = S at *
      have hi1 : (k : Int) < (T.size : Int) := by omega
      have hi0 : (0 : Int) ≤ (k : Int) := by omega
      have hq0 : (0 : Int) ≤ (q : Int) := by omega
      have hq1 : (q : Int) < 256 := by omega
      have hs0 : (0 : Int) ≤ (S : Int) := by omega
      have hs1 : (S : Int) < 256 := by omega
      have HJ : Hid (bits .or .i64 ((S : Int) * 256) (q : Int) = (S : Int) * 256 + (q : Int)) := bits_join .i64 16 (by decide) (fun n h0 h1 => IntWalk.i64_in _ (by omega)) 8 _ _ (by omega) (by omega) (by omega) hq0 (by omega) (by omega)
      go_wp2_with fail
      refine ⟨⟨k + 1, by omega, by go_num, ?_⟩, by simp [intOf]; omega⟩
      rw [HJ.out, HN.out, HK.out]
      go_num
    · have HE : Hid (T.data.toList.take k = tkL n s.data.toList) := by show _ = _; rw [List.take_of_length_le (by rw [← Lib.size_eq]; omega), HTL.out]
      go_wp2_with fail
      go_ret
      exact ⟨ret_int (congrArg (fun l => (nuL l : Int)) HE.out), Q, HQ.out, hQs, HFIN.out.1, HFIN.out.2⟩
end Go.Proofs.YtciflchaepchiaaDoor.Recs
