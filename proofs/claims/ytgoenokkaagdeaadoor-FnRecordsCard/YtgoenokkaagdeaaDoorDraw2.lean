/- The model's source of choices: drawn words, parts and paths. -/
import Derived.Test.YtgoenokkaagdeaaDoorDraw
import Derived.Test.YtgoenokkaagdeaaDoorPaths4
import Derived.Test.YtgoenokkaagdeaaDoorPlainD
import Derived.Test.YtgoenokkaagdeaaDoorMarks
namespace Go.Proofs.YtgoenokkaagdeaaDoor.Draw
open Go.RowKit
open Paths

theorem strV_eq2 (l : List UInt8) : strV l = .string ⟨l.toArray⟩ := rfl
/-- Some strings in a block of their own. -/
def Lits (w : World) (b : Nat) (L : List (List UInt8)) : Prop := b < w.heap.size ∧ ∀ (k : Nat) p, L[k]? = some p → w.cell? ⟨b, k, none⟩ = some (strV p)
theorem Lits.new (w : World) (L : List (List UInt8)) : Lits (w.alloc (.cells (L.map strV).toArray 9)) w.heap.size L := by
  refine ⟨by simp, fun k p hk => ?_⟩
  rw [cell_of_row _ _ k _ _ _ (heap_alloc_new w _)]
  simp [hk]

set_option maxHeartbeats 400000 in
theorem pick_any (w : World) (B g m b cap : Nat) (L : List (List UInt8)) (h : Src w B g m) (hm : m + 1 ≤ 1000000) (hL : 0 < L.length) (hL2 : L.length ≤ 256) (hb : Lits w b L) (hne : b ≠ g) :
    Calls Tryd.prog 39 #[.pointer (some ⟨g, 0, none⟩), .slice (some ⟨b, 0, none⟩) L.length cap] w fun e w' => ∃ p, p ∈ L ∧ e = .returned (strV p) ∧ Went w w' B g (m + 1) := by
  have H := Lib.hid h
  have HB := Lib.hid hb
  have hz : ((L.length : Int) == 0) = false := beq_eq_false_iff_ne.2 (by omega)
  clear h hb
  go_enter Tryd.func39, Tryd.ntmps39
  go_wp2_with fail
  refine (next_small w B g m _ H.out hm (by omega)).mono ?_
  rintro e w1 ⟨r, hr, rfl, hw⟩
  have hlt : r < L.length := by omega
  have hc : w1.cell? ⟨b, r, none⟩ = some (strV L[r]) := (World.cell?_of_block (hw.2.block b HB.out.1 (fun e => hne (Option.some.inj e)))).trans (HB.out.2 r L[r] (by simp [hlt]))
  have hi0 : (0 : Int) ≤ (r : Int) := by omega
  have hi1 : (r : Int) < (L.length : Int) := by omega
  unfold strV at hc
  go_wp2_with fail
  go_ret
  exact ⟨L[r], by simp, rfl, hw⟩

def fiveParts : List (List UInt8) := [[97], [98], [99], [97, 46, 98], [120]]
theorem five_part {p : List UInt8} (h : p ∈ fiveParts) : partB p = true := by
  have : fiveParts.all partB = true := by decide
  exact List.all_eq_true.1 this p h

theorem part_any (w : World) (B g m : Nat) (h : Src w B g m) (hm : m + 1 ≤ 1000000) :
    Calls Tryd.prog 41 #[.pointer (some ⟨g, 0, none⟩)] w fun e w' => ∃ p, partB p = true ∧ e = .returned (strV p) ∧ Went w w' B g (m + 1) := by
  have H := Lib.hid h
  have hlt := h.lt
  clear h
  go_enter Tryd.func41, Tryd.ntmps41
  go_wp2_with fail
  have hb1 := (Below.refl w.heap.size w).alloc (Nat.le_refl _) (.cells (fiveParts.map strV).toArray 9)
  refine (pick_any _ B g m w.heap.size 5 fiveParts (H.out.below hb1) hm (by decide) (by decide) (Lits.new w fiveParts) (by omega)).mono ?_
  rintro e w1 ⟨p, hp, rfl, hw⟩
  have hpb := five_part hp
  have hw2 : Went w w1 B g (m + 1) := ((Went.refl H.out).below hb1).trans hw
  go_wp2_with fail
  go_ret
  exact ⟨p, hpb, rfl, hw2⟩

theorem join_str (l q : List UInt8) : (⟨(l ++ 47 :: q).toArray⟩ : ByteArray) = ⟨l.toArray⟩ ++ (⟨#[47]⟩ ++ ⟨q.toArray⟩) := by
  apply ByteArray.ext
  simp

set_option maxHeartbeats 400000 in
theorem path_any (w : World) (B g m : Nat) (h : Src w B g m) (hm : m + 4 ≤ 1000000) :
    Calls Tryd.prog 30 #[.pointer (some ⟨g, 0, none⟩)] w fun e w' => ∃ l, pathB l = true ∧ e = .returned (strV l) ∧ Went w w' B g (m + 4) := by
  have H := Lib.hid h
  clear h
  go_enter Tryd.func30, Tryd.ntmps30
  go_wp2_with fail
  refine (part_any w B g m H.out (by omega)).mono ?_
  rintro e w1 ⟨p, hp, rfl, hw1⟩
  go_wp2_with fail
  refine (next_small w1 B g (m + 1) _ hw1.1 (by omega) (by omega)).mono ?_
  rintro e w2 ⟨r, hr, rfl, hw2⟩
  have hr2 : r ≤ 2 := by omega
  have HW2 := Lib.hid (hw1.trans hw2)
  have HP := Lib.hid hp
  clear hw1 hw2 hr hp
  go_wp2_with fail
  go_loopw [3, 4] (fun t i wr => ∃ (l : List UInt8) (j : Nat), t = .string ⟨l.toArray⟩ ∧ i = .int .i64 j ∧ j ≤ r ∧ Hid (pathB l = true ∧ (cutAt 47 l).length + j ≤ 3 ∧ Went w wr B g (m + 4 - j))) (fun _ i _ => (intOf i).toNat)
  case atStart => exact ⟨p, r, rfl, rfl, Nat.le_refl _, pathB_part HP.out, by rw [cut_last HP.out]; simp; omega, HW2.out.more (by omega) (by omega)⟩
  case round =>
    obtain ⟨l, j, rfl, rfl, hj, HR⟩ := hrel
    cases j with
    | zero =>
      go_wp2_with fail
      go_ret
      exact ⟨l, HR.out.1, rfl, HR.out.2.2⟩
    | succ j =>
      have hd : decide ((0 : Int) < ((j + 1 : Nat) : Int)) = true := by simp
      have hll := pathB_len HR.out.1
      have h47 : (⟨#[47]⟩ : ByteArray).size = 1 := rfl
      have hls : (⟨l.toArray⟩ : ByteArray).size = l.length := rfl
      go_wp2_with fail
      refine (part_any wr B g (m + 4 - (j + 1)) HR.out.2.2.1 (by omega)).mono ?_
      rintro e w3 ⟨q, hq, rfl, hw3⟩
      have hql := (partB_len hq).2
      have hqs : (⟨q.toArray⟩ : ByteArray).size = q.length := rfl
      have HJ := Lib.hid (pathB_join HR.out.1 hq (by have := HR.out.2.1; omega))
      have HC := Lib.hid (cut_join (d := l) hq)
      have HW3 := Lib.hid (HR.out.2.2.trans hw3)
      have HL := HR.out.2.1
      clear hq hw3
      rw [strV_eq2]
      go_wp2_with fail
      go_roundw
      case rel => exact ⟨l ++ 47 :: q, j, by rw [join_str], by go_num, by omega, HJ.out, by rw [HC.out]; simp; omega, HW3.out.more (by omega) (by omega)⟩
      case measure => simp [intOf]

end Go.Proofs.YtgoenokkaagdeaaDoor.Draw
