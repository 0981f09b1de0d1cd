/- Parts of several texts of mine in one file (each begins with its own remark). -/
import Derived.Test.YtibekkfbpmloiabGreatDoorHA1
import Derived.Test.YtibekkfbpmloiabGreatDoorHA2
import Derived.Test.YtibekkfbpmloiabGreatDoorHA4
import Derived.Test.YtibekkfbpmloiabGreatDoorHA6
import Derived.Test.YtibekkfbpmloiabGreatDoorChecked
import Derived.WalkKit
import Derived.WalkSpells
import Derived.WalkSmall
import Derived.WalkLawsBesides
import Derived.Lib.Hide
import Derived.BigQuiet
import Derived.BigRegion
import Derived.RegionTactic
import Derived.StillTailTactics
import Derived.Deep.QuietTactic
import Derived.Deep.RegionHeld3
import Derived.Deep.Draws
import Derived.Deep.LoopGhost
import Derived.Lib.OthersKept
import Derived.Lib.Strings
import Derived.Lib.Join
import Derived.Laws.BytesArg
import Derived.Deep.RegionWith
import Derived.Laws.AppendOwnNone
/- The model's source of choices: what its methods answer, whatever bytes it is made of. -/
namespace Go.Proofs.YtibekkfbpmloiabGreatDoor.Draw
open Go.RowKit

/-- A slice of bytes that is only read. -/
def Byts (w : World) (B : Nat) (A : Option Addr) (n : Nat) : Prop :=
  n ≤ 1048577 ∧ (0 < n → ∃ b off, A = some ⟨b, off, none⟩ ∧ b < B ∧ ∀ k, k < n → ∃ x : Nat, x ≤ 255 ∧ w.cell? ⟨b, off + k, none⟩ = some (.int .u8 x))
theorem Byts.below {w w' : World} {B : Nat} {A : Option Addr} {n : Nat} (h : Byts w B A n) (hb : Below B w w') : Byts w' B A n := by
  obtain ⟨h1, h⟩ := h
  refine ⟨h1, fun hn => ?_⟩
  obtain ⟨b, off, rfl, hlt, hc⟩ := h hn
  refine ⟨b, off, rfl, hlt, fun k hk => ?_⟩
  obtain ⟨x, hx, hcell⟩ := hc k hk
  exact ⟨x, hx, (hb.cell (p := ⟨b, off + k, none⟩) hlt).trans hcell⟩

/-- A source in block g (from B on nothing is older than it): at most m choices have been made. -/
def Src (w : World) (B g m : Nat) : Prop :=
  B ≤ g ∧ m ≤ 1000000 ∧ ∃ (A : Option Addr) (n cap k s : Nat), Byts w B A n ∧ n ≤ cap ∧ k ≤ m ∧ s < 2147483648 ∧
    w.heap[g]? = some (.cells #[.slice A n cap, .int .i64 k, .int .i64 s] 135 (0, 0))

theorem Src.below {w w' : World} {B g m : Nat} (h : Src w B g m) (hb : Below w.heap.size w w') : Src w' B g m := by
  obtain ⟨h1, h2, A, n, cap, k, s, hB, a, b, c, hg⟩ := h
  have hlt := (Array.getElem?_eq_some_iff.1 hg).1
  exact ⟨h1, h2, A, n, cap, k, s, hB.below (hb.mono (by omega)), a, b, c, by rw [hb.block g hlt]; exact hg⟩
theorem Src.lt {w : World} {B g m : Nat} (h : Src w B g m) : g < w.heap.size := by
  obtain ⟨_, _, _, _, _, _, _, _, _, _, _, hg⟩ := h
  exact (Array.getElem?_eq_some_iff.1 hg).1
theorem Src.more {w : World} {B g m m' : Nat} (h : Src w B g m) (hm : m ≤ m') (h' : m' ≤ 1000000) : Src w B g m' := by
  obtain ⟨h1, h2, A, n, cap, k, s, hB, a, b, c, hg⟩ := h
  exact ⟨h1, h', A, n, cap, k, s, hB, a, by omega, c, hg⟩

/-- What a method of a source leaves: the source has moved on by at most j; of what was there nothing else has turned. -/
def Went (w w' : World) (B g m : Nat) : Prop := Src w' B g m ∧ w.grownBy w' (some g)

theorem Byts.grown {w w' : World} {B g : Nat} {A : Option Addr} {n : Nat} (h : Byts w B A n) (hg : w.grownBy w' (some g)) (hB : B ≤ g) (hlt : g < w.heap.size) : Byts w' B A n := by
  obtain ⟨h1, h⟩ := h
  refine ⟨h1, fun hn => ?_⟩
  obtain ⟨b, off, rfl, hb, hc⟩ := h hn
  refine ⟨b, off, rfl, hb, fun k hk => ?_⟩
  obtain ⟨x, hx, hcell⟩ := hc k hk
  exact ⟨x, hx, (World.cell?_of_block (hg.block b (by omega) (fun e => by have := Option.some.inj e; omega))).trans hcell⟩
theorem went_mk {w W' : World} {B g m n cap : Nat} {A : Option Addr} {k' s' : Int} (hB : Byts w B A n) (hBg : B ≤ g) (hlt : g < w.heap.size) (hn : n ≤ cap) (hm : m ≤ 1000000) (gr : w.grownBy W' (some g))
    (hg : W'.heap[g]? = some (.cells #[.slice A n cap, .int .i64 k', .int .i64 s'] 135 (0, 0))) (hk : 0 ≤ k' ∧ k' ≤ m) (hs : 0 ≤ s' ∧ s' < 2147483648) : Went w W' B g m := by
  obtain ⟨k, rfl⟩ := Int.eq_ofNat_of_zero_le hk.1
  obtain ⟨s, rfl⟩ := Int.eq_ofNat_of_zero_le hs.1
  exact ⟨⟨hBg, hm, A, n, cap, k, s, hB.grown gr hBg hlt, hn, by omega, by omega, hg⟩, gr⟩
/-- The seed is stored: what is left. -/
theorem went_seed {w W1 : World} {B g m n cap q : Nat} {A : Option Addr} {k k' s s' : Int} (hB : Byts w B A n) (hBg : B ≤ g) (hlt : g < w.heap.size) (hn : n ≤ cap) (hm : m ≤ 1000000) (gr : w.grownBy W1 (some g))
    (hg : W1.heap[g]? = some (.cells (#[.slice A n cap, .int .i64 k, .int .i64 s].setIfInBounds 1 (.int .i64 k')) 135 (0, 0))) (hk : 0 ≤ k' ∧ k' ≤ m) (hs : 0 ≤ s' ∧ s' < 2147483648) :
    Went w ((W1.drewN q).setCell ⟨g, 2, none⟩ (.int .i64 s')) B g m := by
  refine went_mk (s' := s') hB hBg hlt hn hm ⟨gr.os, gr.tape, gr.output, by simpa using gr.size, fun j hj hne => ?_⟩ ?_ hk hs
  · exact (heap_setCell_other W1 ⟨g, 2, none⟩ j _ (fun e => hne (by simp [e]))).trans (gr.block j hj hne)
  · exact heap_setCell_same W1 g 2 _ _ (.int .i64 s') hg
theorem went_no {w W1 : World} {B g m n cap q : Nat} {A : Option Addr} {k k' s : Int} (hB : Byts w B A n) (hBg : B ≤ g) (hlt : g < w.heap.size) (hn : n ≤ cap) (hm : m ≤ 1000000) (gr : w.grownBy W1 (some g))
    (hg : W1.heap[g]? = some (.cells (#[.slice A n cap, .int .i64 k, .int .i64 s].setIfInBounds 1 (.int .i64 k')) 135 (0, 0))) (hk : 0 ≤ k' ∧ k' ≤ m) (hs : 0 ≤ s ∧ s < 2147483648) :
    Went w (W1.drewN q) B g m :=
  went_mk (s' := s) hB hBg hlt hn hm ⟨gr.os, gr.tape, gr.output, gr.size, gr.block⟩ hg hk hs
theorem Went.drewN {w w' : World} {B g m : Nat} (h : Went w w' B g m) (q : Nat) : Went w (w'.drewN q) B g m :=
  ⟨h.1, ⟨h.2.os, h.2.tape, h.2.output, h.2.size, h.2.block⟩⟩
theorem ret_nat {a : Int} (h : 0 ≤ a) : Ending.returned (.int .i64 a) = .returned (.int .i64 (a.toNat : Int)) := by rw [Int.toNat_of_nonneg h]

set_option maxRecDepth 100000 in
set_option maxHeartbeats 1000000 in
theorem byte_any (w : World) (B g m : Nat) (h : Src w B g m) (hm : m + 1 ≤ 1000000) :
    Calls Tryz.prog 176 #[.pointer (some ⟨g, 0, none⟩)] w fun e w' => ∃ r : Nat, r ≤ 255 ∧ e = .returned (.int .i64 r) ∧ Went w w' B g (m + 1) := by
  obtain ⟨h1, h2, A, n, cap, k, s, hB, hn, hk, hs, hg⟩ := h
  have hn2 := hB.1
  have glt := (Array.getElem?_eq_some_iff.1 hg).1
  have c1 : w.cell? ⟨g, 1, none⟩ = some (.int .i64 k) := cell_of_row w g 1 _ _ _ hg
  have f1 : w.frozen? ⟨g, 1, none⟩ = false := frozen_of_row w g 1 _ _ hg
  have hg1 := heap_setCell_same w g 1 _ _ (.int .i64 ((k : Int) + 1)) hg
  have gr1 : w.grownBy (w.setCell ⟨g, 1, none⟩ (.int .i64 ((k : Int) + 1))) (some g) := ⟨rfl, rfl, rfl, by simp, fun j _ hj => heap_setCell_other w ⟨g, 1, none⟩ j _ (fun e => hj (by simp [e]))⟩
  have HG := Lib.hid hg
  clear hg
  go_enter Tryz.func176, Tryz.ntmps176
  go_wp2
  generalize w.setCell ⟨g, 1, none⟩ (.int .i64 ((k : Int) + 1)) = W1 at *
  clear c1 f1 HG
  have c0 : W1.cell? ⟨g, 0, none⟩ = some (.slice A n cap) := cell_of_row W1 g 0 _ _ _ hg1
  have c1 : W1.cell? ⟨g, 1, none⟩ = some (.int .i64 ((k : Int) + 1)) := cell_of_row W1 g 1 _ _ _ hg1
  have c2 : W1.cell? ⟨g, 2, none⟩ = some (.int .i64 s) := cell_of_row W1 g 2 _ _ _ hg1
  have f2 : W1.frozen? ⟨g, 2, none⟩ = false := frozen_of_row W1 g 2 _ _ hg1
  have HG1 := Lib.hid hg1
  clear hg1
  by_cases hlt : k < n
  · obtain ⟨b, off, rfl, hb, hcell⟩ := hB.2 (by omega)
    obtain ⟨x, hx, hcx⟩ := hcell k hlt
    have hcx1 : W1.cell? ⟨b, off + k, none⟩ = some (.int .u8 x) := (World.cell?_of_block (gr1.block b (by have := h1; omega) (fun e => by have := Option.some.inj e; omega))).trans hcx
    have hle : (k : Int) + 1 ≤ (n : Int) := by omega
    have hk0 : (0 : Int) ≤ (k : Int) := by omega
    have hkn : (k : Int) < (n : Int) := by omega
    clear hcell
    go_quiet (fail)
    go_wp2
    have hx1 : (0 : Int) ≤ (x : Int) := by omega
    have hx2 : (x : Int) ≤ 255 := by omega
    have d0 : (W1.drewN nq).cell? ⟨g, 0, none⟩ = some (.slice (some ⟨b, off, none⟩) n cap) := c0
    have d1 : (W1.drewN nq).cell? ⟨g, 1, none⟩ = some (.int .i64 ((k : Int) + 1)) := c1
    have d2 : (W1.drewN nq).cell? ⟨g, 2, none⟩ = some (.int .i64 s) := c2
    have d3 : (W1.drewN nq).frozen? ⟨g, 2, none⟩ = false := f2
    have d4 : (W1.drewN nq).cell? ⟨b, off + k, none⟩ = some (.int .u8 x) := hcx1
    have hne : b ≠ g := by omega
    have HW : Hid (∀ s' : Int, 0 ≤ s' ∧ s' < 2147483648 → ∀ q, Went w (((W1.drewN nq).setCell ⟨g, 2, none⟩ (.int .i64 s')).drewN q) B g (m + 1)) := fun s' hs' q => (went_seed (q := nq) hB h1 glt hn hm gr1 HG1.out ⟨by omega, by omega⟩ hs').drewN q
    generalize W1.drewN nq = W2 at *
    clear c0 c1 c2 f2 hcx1 hcx gr1 HG1
    go_region
    go_wp2
    have e0 : (W2.setCell ⟨g, 2, none⟩ (.int .i64 (((s : Int) * 31 + x + 7) % 2147483648))).cell? ⟨g, 0, none⟩ = some (.slice (some ⟨b, off, none⟩) n cap) := (World.cell?_setCell_other W2 _ _ _ (by simp)).trans d0
    have e1 : (W2.setCell ⟨g, 2, none⟩ (.int .i64 (((s : Int) * 31 + x + 7) % 2147483648))).cell? ⟨g, 1, none⟩ = some (.int .i64 ((k : Int) + 1)) := (World.cell?_setCell_other W2 _ _ _ (by simp)).trans d1
    have e4 : (W2.setCell ⟨g, 2, none⟩ (.int .i64 (((s : Int) * 31 + x + 7) % 2147483648))).cell? ⟨b, off + k, none⟩ = some (.int .u8 x) := (World.cell?_setCell_other W2 _ _ _ (by simp)).trans d4
    have HW3 := Lib.hid (HW.out (((s : Int) * 31 + x + 7) % 2147483648) ⟨by omega, by omega⟩)
    generalize W2.setCell ⟨g, 2, none⟩ (.int .i64 (((s : Int) * 31 + x + 7) % 2147483648)) = W3 at *
    clear HW d0 d1 d2 d3 d4
    go_quiet (fail)
    go_wp2
    go_ret
    exact ⟨x, hx, rfl, (HW3.out 1).drewN nq⟩
  · go_quiet (fail)
    go_wp2
    · go_ret
      exact ⟨0, by omega, rfl, went_no hB h1 glt hn hm gr1 HG1.out ⟨by omega, by omega⟩ ⟨by omega, by omega⟩⟩
    · go_ret
      exact ⟨((s * 1103515245 + 12345) % 2147483648 / 65536 % 256 : Int).toNat, by omega, ret_nat (by omega), went_seed hB h1 glt hn hm gr1 HG1.out ⟨by omega, by omega⟩ ⟨by omega, by omega⟩⟩

theorem Went.trans {a b c : World} {B g m m' : Nat} (h : Went a b B g m) (k : Went b c B g m') : Went a c B g m' :=
  ⟨k.1, ⟨k.2.os.trans h.2.os, k.2.tape.trans h.2.tape, k.2.output.trans h.2.output, Nat.le_trans h.2.size k.2.size, fun i hi hne => (k.2.block i (Nat.lt_of_lt_of_le hi h.2.size) hne).trans (h.2.block i hi hne)⟩⟩
theorem Went.refl {w : World} {B g m : Nat} (h : Src w B g m) : Went w w B g m := ⟨h, World.grownBy.refl _ _⟩
theorem Went.below {a b c : World} {B g m : Nat} (h : Went a b B g m) (k : Below b.heap.size b c) : Went a c B g m :=
  h.trans ⟨h.1.below k, ⟨k.os, k.tape, k.output, k.size, fun i hi _ => k.block i hi⟩⟩
theorem Went.more {a b : World} {B g m m' : Nat} (h : Went a b B g m) (hm : m ≤ m') (h' : m' ≤ 1000000) : Went a b B g m' := ⟨h.1.more hm h', h.2⟩
theorem Went.belowB {a b : World} {B g m : Nat} (h : Went a b B g m) (hB : B ≤ a.heap.size) : Below B a b :=
  ⟨h.2.os, h.2.tape, h.2.output, h.2.size, fun k hk => h.2.block k (by omega) (fun e => by have := Option.some.inj e; have := h.1.1; omega)⟩

set_option maxHeartbeats 400000 in
/-- A choice among n, n at most 256: at most one byte. -/
theorem next_small (w : World) (B g m : Nat) (n : Int) (h : Src w B g m) (hm : m + 1 ≤ 1000000) (hn : n ≤ 256) :
    Calls Tryz.prog 117 #[.pointer (some ⟨g, 0, none⟩), .int .i64 n] w fun e w' => ∃ r : Nat, ((r : Int) < n ∨ r = 0) ∧ e = .returned (.int .i64 r) ∧ Went w w' B g (m + 1) := by
  by_cases h1 : n ≤ 1
  · go_enter Tryz.func117, Tryz.ntmps117
    go_wp2_with fail
    go_ret
    exact ⟨0, .inr rfl, rfl, (Went.refl h).more (by omega) hm⟩
  · have H := Lib.hid h
    clear h
    go_enter Tryz.func117, Tryz.ntmps117
    go_wp2_with fail
    refine (byte_any w B g m H.out hm).mono ?_
    rintro e w1 ⟨r, hr, rfl, hw⟩
    have hr0 : (0 : Int) ≤ (r : Int) := by omega
    have hn0 : (0 : Int) < n := by omega
    have hm1 := Int.emod_nonneg (r : Int) (show n ≠ 0 by omega)
    have hm2 := Int.emod_lt_of_pos (r : Int) hn0
    go_wp2_with fail
    go_ret
    exact ⟨((r : Int) % n).toNat, .inl (by omega), ret_nat hm1, hw⟩

end Go.Proofs.YtibekkfbpmloiabGreatDoor.Draw

/- The model's source of choices: drawn words, parts and paths. -/
namespace Go.Proofs.YtibekkfbpmloiabGreatDoor.Draw
open Go.RowKit
open Paths

theorem strV_eq2 (l : List UInt8) : strV l = .string ⟨l.toArray⟩ := rfl
/-- Some strings in a block of their own. -/
def Lits (w : World) (b : Nat) (L : List (List UInt8)) : Prop := b < w.heap.size ∧ ∀ (k : Nat) p, L[k]? = some p → w.cell? ⟨b, k, none⟩ = some (strV p)
theorem Lits.new (w : World) (L : List (List UInt8)) : Lits (w.alloc (.cells (L.map strV).toArray 9)) w.heap.size L := by
  refine ⟨by simp, fun k p hk => ?_⟩
  rw [cell_of_row _ _ k _ _ _ (heap_alloc_new w _)]
  simp [hk]

set_option maxHeartbeats 400000 in
theorem pick_any (w : World) (B g m b cap : Nat) (L : List (List UInt8)) (h : Src w B g m) (hm : m + 1 ≤ 1000000) (hL : 0 < L.length) (hL2 : L.length ≤ 256) (hb : Lits w b L) (hne : b ≠ g) :
    Calls Tryz.prog 175 #[.pointer (some ⟨g, 0, none⟩), .slice (some ⟨b, 0, none⟩) L.length cap] w fun e w' => ∃ p, p ∈ L ∧ e = .returned (strV p) ∧ Went w w' B g (m + 1) := by
  have H := Lib.hid h
  have HB := Lib.hid hb
  have hz : ((L.length : Int) == 0) = false := beq_eq_false_iff_ne.2 (by omega)
  clear h hb
  go_enter Tryz.func175, Tryz.ntmps175
  go_wp2_with fail
  refine (next_small w B g m _ H.out hm (by omega)).mono ?_
  rintro e w1 ⟨r, hr, rfl, hw⟩
  have hlt : r < L.length := by omega
  have hc : w1.cell? ⟨b, r, none⟩ = some (strV L[r]) := (World.cell?_of_block (hw.2.block b HB.out.1 (fun e => hne (Option.some.inj e)))).trans (HB.out.2 r L[r] (by simp [hlt]))
  have hi0 : (0 : Int) ≤ (r : Int) := by omega
  have hi1 : (r : Int) < (L.length : Int) := by omega
  unfold strV at hc
  go_wp2_with fail
  go_ret
  exact ⟨L[r], by simp, rfl, hw⟩

def fiveParts : List (List UInt8) := [[97], [98], [99], [97, 46, 98], [120]]
theorem five_part {p : List UInt8} (h : p ∈ fiveParts) : partB p = true := by
  have : fiveParts.all partB = true := by decide
  exact List.all_eq_true.1 this p h

theorem part_any (w : World) (B g m : Nat) (h : Src w B g m) (hm : m + 1 ≤ 1000000) :
    Calls Tryz.prog 179 #[.pointer (some ⟨g, 0, none⟩)] w fun e w' => ∃ p, partB p = true ∧ e = .returned (strV p) ∧ Went w w' B g (m + 1) := by
  have H := Lib.hid h
  have hlt := h.lt
  clear h
  go_enter Tryz.func179, Tryz.ntmps179
  go_wp2_with fail
  have hb1 := (Below.refl w.heap.size w).alloc (Nat.le_refl _) (.cells (fiveParts.map strV).toArray 9)
  refine (pick_any _ B g m w.heap.size 5 fiveParts (H.out.below hb1) hm (by decide) (by decide) (Lits.new w fiveParts) (by omega)).mono ?_
  rintro e w1 ⟨p, hp, rfl, hw⟩
  have hpb := five_part hp
  have hw2 : Went w w1 B g (m + 1) := ((Went.refl H.out).below hb1).trans hw
  go_wp2_with fail
  go_ret
  exact ⟨p, hpb, rfl, hw2⟩

theorem join_str (l q : List UInt8) : (⟨(l ++ 47 :: q).toArray⟩ : ByteArray) = ⟨l.toArray⟩ ++ (⟨#[47]⟩ ++ ⟨q.toArray⟩) := by
  apply ByteArray.ext
  simp

set_option maxHeartbeats 400000 in
theorem path_any (w : World) (B g m : Nat) (h : Src w B g m) (hm : m + 4 ≤ 1000000) :
    Calls Tryz.prog 120 #[.pointer (some ⟨g, 0, none⟩)] w fun e w' => ∃ l, pathB l = true ∧ e = .returned (strV l) ∧ Went w w' B g (m + 4) := by
  have H := Lib.hid h
  clear h
  go_enter Tryz.func120, Tryz.ntmps120
  go_wp2_with fail
  refine (part_any w B g m H.out (by omega)).mono ?_
  rintro e w1 ⟨p, hp, rfl, hw1⟩
  go_wp2_with fail
  refine (next_small w1 B g (m + 1) _ hw1.1 (by omega) (by omega)).mono ?_
  rintro e w2 ⟨r, hr, rfl, hw2⟩
  have hr2 : r ≤ 2 := by omega
  have HW2 := Lib.hid (hw1.trans hw2)
  have HP := Lib.hid hp
  clear hw1 hw2 hr hp
  go_wp2_with fail
  go_loopw [3, 4] (fun t i wr => ∃ (l : List UInt8) (j : Nat), t = .string ⟨l.toArray⟩ ∧ i = .int .i64 j ∧ j ≤ r ∧ Hid (pathB l = true ∧ (cutAt 47 l).length + j ≤ 3 ∧ Went w wr B g (m + 4 - j))) (fun _ i _ => (intOf i).toNat)
  case atStart => exact ⟨p, r, rfl, rfl, Nat.le_refl _, pathB_part HP.out, by rw [cut_last HP.out]; simp; omega, HW2.out.more (by omega) (by omega)⟩
  case round =>
    obtain ⟨l, j, rfl, rfl, hj, HR⟩ := hrel
    cases j with
    | zero =>
      go_wp2_with fail
      go_ret
      exact ⟨l, HR.out.1, rfl, HR.out.2.2⟩
    | succ j =>
      have hd : decide ((0 : Int) < ((j + 1 : Nat) : Int)) = true := by simp
      have hll := pathB_len HR.out.1
      have h47 : (⟨#[47]⟩ : ByteArray).size = 1 := rfl
      have hls : (⟨l.toArray⟩ : ByteArray).size = l.length := rfl
      go_wp2_with fail
      refine (part_any wr B g (m + 4 - (j + 1)) HR.out.2.2.1 (by omega)).mono ?_
      rintro e w3 ⟨q, hq, rfl, hw3⟩
      have hql := (partB_len hq).2
      have hqs : (⟨q.toArray⟩ : ByteArray).size = q.length := rfl
      have HJ := Lib.hid (pathB_join HR.out.1 hq (by have := HR.out.2.1; omega))
      have HC := Lib.hid (cut_join (d := l) hq)
      have HW3 := Lib.hid (HR.out.2.2.trans hw3)
      have HL := HR.out.2.1
      clear hq hw3
      rw [strV_eq2]
      go_wp2_with fail
      go_roundw
      case rel => exact ⟨l ++ 47 :: q, j, by rw [join_str], by go_num, by omega, HJ.out, by rw [HC.out]; simp; omega, HW3.out.more (by omega) (by omega)⟩
      case measure => simp [intOf]

end Go.Proofs.YtibekkfbpmloiabGreatDoor.Draw

/- The model's source of choices: strings that may be no paths; a source out of bytes; drawn paths. -/
namespace Go.Proofs.YtibekkfbpmloiabGreatDoor.Draw
open Go.RowKit
open Paths

theorem source_any (w : World) (A : Option Addr) (n cap : Nat) (hB : Byts w w.heap.size A n) (hn : n ≤ cap) :
    Calls Tryz.prog 63 #[.slice A n cap] w fun e w' => e = .returned (.pointer (some ⟨w.heap.size, 0, none⟩)) ∧ Src w' w.heap.size w.heap.size 0 ∧ Below w.heap.size w w' := by
  have HB := Lib.hid hB
  have hn1 := hB.1
  clear hB
  go_enter Tryz.func63, Tryz.ntmps63
  go_wp2
  go_ret
  refine ⟨rfl, ⟨Nat.le_refl _, by omega, A, n, cap, 0, n % 1000, HB.out.below ((Below.refl _ _).alloc (Nat.le_refl _) _), hn, Nat.le_refl _, by omega, ?_⟩, (Below.refl _ _).alloc (Nat.le_refl _) _⟩
  exact heap_alloc_new w _

set_option maxHeartbeats 400000 in
theorem sameTexts_any (v1 v2 : Value) (A B : List (List UInt8)) (w : World) (h1 : Strs w v1 A) (h2 : Strs w v2 B) (hl : A.length ≤ maxLen) : Calls Tryz.prog 18 #[v1, v2] w fun e w' => e = .returned (.bool (decide (A = B))) ∧ ∃ n, w' = w.drewN n := by
  unfold maxLen at hl
  obtain ⟨a1, c1, rfl, hc1, h1⟩ := h1
  obtain ⟨a2, c2, rfl, hc2, h2⟩ := h2
  by_cases hL : A.length = B.length
  · have hne : ((A.length : Int) != (B.length : Int)) = false := by simp [hL]
    have HL := Lib.hid hL
    have H1 := Lib.hid h1
    have H2 := Lib.hid h2
    clear hL h1 h2
    go_enter Tryz.func18, Tryz.ntmps18
    go_wp2
    go_loopw [5] (fun i wr => ∃ k n : Nat, k ≤ A.length ∧ i = .int .i64 k ∧ wr = w.drewN n ∧ Hid (A.take k = B.take k)) (fun i _ => A.length - (intOf i).toNat)
    case atStart => exact ⟨0, 0, by omega, rfl, rfl, rfl⟩
    case round =>
      obtain ⟨k, n, hk, rfl, rfl, HK⟩ := hrel
      by_cases hlt : k < A.length
      · obtain ⟨b1, o1, rfl, hb1, hcell1⟩ := H1.out (by omega)
        have hL2 := HL.out
        have hlt2 : k < B.length := by omega
        obtain ⟨b2, o2, rfl, hb2, hcell2⟩ := H2.out (by omega)
        have hk1 := hcell1 k A[k] (by simp [hlt])
        have hk2 := hcell2 k B[k] (by simp [hlt2])
        unfold strV at hk1 hk2
        clear hcell1 hcell2 hL2 H1 H2
        have hi1 : (k : Int) < (A.length : Int) := by omega
        have hi2 : (k : Int) < (B.length : Int) := by omega
        have hi0 : (0 : Int) ≤ (k : Int) := by omega
        go_wp2
        go_quiet (fail)
        go_wp2
        · have HF : Hid (¬ A = B) := fun e => by
            have h3 : (!A[k] == B[k]) = true := by assumption
            rw [getElem_of_eq hlt hlt2 e] at h3
            simp at h3
          go_ret
          exact ⟨ret_bool (by simp [HF.out]), n + nq, World.drewN_drewN _ _ _⟩
        · have h3 : (!A[k] == B[k]) = false := by assumption
          exact ⟨⟨k + 1, _, by omega, by go_num, rfl, take_snoc_eq hlt hlt2 HK.out (by simpa using h3)⟩, by simp [intOf]; omega⟩
      · have HE : Hid (A = B) := by
          have hL2 := HL.out
          have := HK.out
          rw [List.take_of_length_le (by omega), List.take_of_length_le (by omega)] at this
          exact this
        go_wp2
        go_ret
        exact ⟨ret_bool (by simp [HE.out]), _, rfl⟩
  · have hne : ((A.length : Int) != (B.length : Int)) = true := by simp; omega
    have HE : Hid (¬ A = B) := fun e => hL (by rw [e])
    clear hL
    go_enter Tryz.func18, Tryz.ntmps18
    go_wp2
    go_ret
    exact ⟨ret_bool (by simp [HE.out]), 0, rfl⟩

/-- The cells of a slice of bytes. -/
theorem Byts.cells {w : World} {B : Nat} {A : Option Addr} {n : Nat} (h : Byts w B A n) : ∃ news : List Value, news.length = n ∧ (∀ ad, A = some ad → ∀ j u, news[j]? = some u → w.cell? (ad.add j) = some u) ∧ ∀ u ∈ news, ∃ x : Nat, x ≤ 255 ∧ u = .int .u8 x := by
  obtain ⟨_, h⟩ := h
  rcases Nat.eq_zero_or_pos n with rfl | hp
  · exact ⟨[], rfl, fun _ _ j u hu => by simp at hu, fun u hu => by cases hu⟩
  · obtain ⟨b, off, rfl, hb, hc⟩ := h hp
    have hall : ∀ m, m ≤ n → ∃ news : List Value, news.length = m ∧ (∀ j u, news[j]? = some u → w.cell? ⟨b, off + j, none⟩ = some u) ∧ ∀ u ∈ news, ∃ x : Nat, x ≤ 255 ∧ u = .int .u8 x := by
      intro m
      induction m with
      | zero => exact fun _ => ⟨[], rfl, fun j u hu => by simp at hu, fun u hu => by cases hu⟩
      | succ m ih =>
        intro hm
        obtain ⟨news, hl, h1, h2⟩ := ih (by omega)
        obtain ⟨x, hx, hcx⟩ := hc m (by omega)
        refine ⟨news ++ [.int .u8 x], by simp [hl], fun j u hu => ?_, fun u hu => ?_⟩
        · rcases Nat.lt_trichotomy j m with hj | hj | hj
          · rw [List.getElem?_append_left (by omega)] at hu
            exact h1 j u hu
          · subst hj
            rw [List.getElem?_append_right (by omega), hl] at hu
            simp at hu
            subst hu
            exact hcx
          · rw [List.getElem?_eq_none (by simp; omega)] at hu
            cases hu
        · rcases List.mem_append.1 hu with hu | hu
          · exact h2 u hu
          · simp at hu; exact ⟨x, hx, hu⟩
    obtain ⟨news, hl, h1, h2⟩ := hall n (Nat.le_refl _)
    refine ⟨news, hl, fun ad had j u hu => ?_, h2⟩
    cases had
    rw [Addr.add_lit]
    exact h1 j u hu
end Go.Proofs.YtibekkfbpmloiabGreatDoor.Draw
