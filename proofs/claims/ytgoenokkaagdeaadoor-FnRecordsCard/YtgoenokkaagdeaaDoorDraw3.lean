/- The model's source of choices: strings that may be no paths; a source out of bytes; drawn paths. -/
import Derived.Test.YtgoenokkaagdeaaDoorDraw2
import Derived.Deep.RegionWith
import Derived.Laws.AppendOwnNone
namespace Go.Proofs.YtgoenokkaagdeaaDoor.Draw
open Go.RowKit
open Paths

def oddPaths : List (List UInt8) := [[], [47], [97, 47], [47, 97], [97, 47, 47, 98], [46], [46, 46], [97, 47, 46, 46], [97, 32, 98], [128], [97, 47, 98, 47, 99, 47, 100], [97, 47, 98, 47, 99, 47, 100, 47, 101], [108, 111, 110, 103, 110, 97, 109, 101], [108, 111, 110, 103, 110, 97, 109, 101, 49], [46, 46, 46], [97, 0]]
def oddSigns : List (List UInt8) := [[47], [46], [32], [126], [127]]
theorem odd_len {p : List UInt8} (h : p ∈ oddPaths) : p.length ≤ 9 := by
  have : oddPaths.all (fun p => decide (p.length ≤ 9)) = true := by decide
  simpa using List.all_eq_true.1 this p h
theorem sign_len {p : List UInt8} (h : p ∈ oddSigns) : p.length ≤ 1 := by
  have : oddSigns.all (fun p => decide (p.length ≤ 1)) = true := by decide
  simpa using List.all_eq_true.1 this p h

set_option maxHeartbeats 800000 in
theorem anyPath_any (w : World) (B g m : Nat) (h : Src w B g m) (hm : m + 7 ≤ 1000000) :
    Calls Tryd.prog 31 #[.pointer (some ⟨g, 0, none⟩)] w fun e w' => ∃ l : List UInt8, l.length ≤ 100 ∧ e = .returned (strV l) ∧ Went w w' B g (m + 7) := by
  have H := Lib.hid h
  have hglt := h.lt
  clear h
  go_enter Tryd.func31, Tryd.ntmps31
  go_wp2_with fail
  refine (next_small w B g m _ H.out (by omega) (by omega)).mono ?_
  rintro e w1 ⟨r, hr, rfl, hw1⟩
  have HW1 := Lib.hid hw1
  have hz1 := hw1.2.size
  clear hw1
  by_cases r0 : r = 0
  · have e0 : ((r : Int) == 0) = true := by simp [r0]
    clear r0
    go_wp2_with fail
    have hb1 := (Below.refl w1.heap.size w1).alloc (Nat.le_refl _) (.cells (oddPaths.map strV).toArray 9)
    refine (pick_any _ B g (m + 1) w1.heap.size 16 oddPaths (HW1.out.1.below hb1) (by omega) (by decide) (by decide) (Lits.new w1 oddPaths) (by omega)).mono ?_
    rintro e w2 ⟨p, hp, rfl, hw2⟩
    have hpl := odd_len hp
    have HW2 := Lib.hid ((HW1.out.below hb1).trans hw2)
    clear hb1 hw2 hp
    go_wp2_with fail
    go_ret
    exact ⟨p, by omega, rfl, HW2.out.more (by omega) (by omega)⟩
  have e0 : ((r : Int) == 0) = false := beq_eq_false_iff_ne.2 (by omega)
  by_cases r1 : r = 1
  · have e1 : ((r : Int) == 1) = true := by simp [r1]
    clear r1 r0
    go_wp2_with fail
    refine (path_any w1 B g (m + 1) HW1.out.1 (by omega)).mono ?_
    rintro e w2 ⟨l, hl, rfl, hw2⟩
    have hll := pathB_len hl
    have HW2 := Lib.hid (HW1.out.trans hw2)
    have hz2 := hw2.2.size
    have hls : (⟨l.toArray⟩ : ByteArray).size = l.length := rfl
    clear hw2 hl
    rw [strV_eq2]
    go_wp2_with fail
    refine (next_small w2 B g (m + 1 + 4) _ HW2.out.1 (by omega) (by omega)).mono ?_
    rintro e w3 ⟨k, hk, rfl, hw3⟩
    have HW3 := Lib.hid (HW2.out.trans hw3)
    have hz3 := hw3.2.size
    have hkl : k ≤ l.length := by omega
    clear hw3 hk
    have hk0 : (0 : Int) ≤ (k : Int) := by omega
    have hk1 : (k : Int) ≤ (l.length : Int) := by omega
    have hb3 := (Below.refl w3.heap.size w3).alloc (Nat.le_refl _) (.cells (oddSigns.map strV).toArray 9)
    go_wp2_with fail
    have HCP : Hid (Calls Tryd.prog 39 #[.pointer (some ⟨g, 0, none⟩), .slice (some ⟨w3.heap.size, 0, none⟩) 5 5] (w3.alloc (.cells #[.string ⟨#[47]⟩, .string ⟨#[46]⟩, .string ⟨#[32]⟩, .string ⟨#[126]⟩, .string ⟨#[127]⟩] 9)).drew fun e w' => ∃ p : List UInt8, p.length ≤ 1 ∧ e = .returned (.string ⟨p.toArray⟩) ∧ Went w w' B g (m + 1 + 4 + 1 + 1)) := by
      refine (pick_any (w3.alloc (.cells (oddSigns.map strV).toArray 9)).drew B g (m + 1 + 4 + 1) w3.heap.size 5 oddSigns (HW3.out.1.below hb3.drew) (by omega) (by decide) (by decide) (by exact Lits.new w3 oddSigns) (by omega)).mono ?_
      rintro e w4 ⟨p, hp, rfl, hw4⟩
      exact ⟨p, sign_len hp, rfl, (HW3.out.below hb3).trans ⟨hw4.1, ⟨hw4.2.os, hw4.2.tape, hw4.2.output, hw4.2.size, hw4.2.block⟩⟩⟩
    go_region_with (go_at_call 39; refine HCP.out.mono ?_; rintro e w4 ⟨p, hpl, rfl, hw4⟩)
    go_wp2
    go_ret
    refine ⟨((⟨l.toArray⟩ : ByteArray).extract 0 k ++ ⟨p.toArray⟩ ++ (⟨l.toArray⟩ : ByteArray).extract k l.length).data.toList, ?_, by rw [strV_data]; rfl, hw4.more (by omega) (by omega)⟩
    have hps : (⟨p.toArray⟩ : ByteArray).size = p.length := rfl
    rw [← Lib.size_eq]
    simp [hls, hps]
    omega
  · have e1 : ((r : Int) == 1) = false := beq_eq_false_iff_ne.2 (by omega)
    clear r1 r0
    go_wp2_with fail
    refine (path_any w1 B g (m + 1) HW1.out.1 (by omega)).mono ?_
    rintro e w2 ⟨l, hl, rfl, hw2⟩
    have hll := pathB_len hl
    have HW2 := Lib.hid (HW1.out.trans hw2)
    clear hw2 hl
    go_wp2_with fail
    go_ret
    exact ⟨l, by omega, rfl, HW2.out.more (by omega) (by omega)⟩

theorem source_any (w : World) (A : Option Addr) (n cap : Nat) (hB : Byts w w.heap.size A n) (hn : n ≤ cap) :
    Calls Tryd.prog 28 #[.slice A n cap] w fun e w' => e = .returned (.pointer (some ⟨w.heap.size, 0, none⟩)) ∧ Src w' w.heap.size w.heap.size 0 ∧ Below w.heap.size w w' := by
  have HB := Lib.hid hB
  have hn1 := hB.1
  clear hB
  go_enter Tryd.func28, Tryd.ntmps28
  go_wp2
  go_ret
  refine ⟨rfl, ⟨Nat.le_refl _, by omega, A, n, cap, 0, n % 1000, HB.out.below ((Below.refl _ _).alloc (Nat.le_refl _) _), hn, Nat.le_refl _, by omega, ?_⟩, (Below.refl _ _).alloc (Nat.le_refl _) _⟩
  exact heap_alloc_new w _

theorem byteInfo : (Tryd.prog.info? 5).map (fun i => (i.zero, i.size, i.bytes)) = some (some (.int .u8 0), 1, 1) := by kernel_rfl

theorem anyPathDrawn_any (w : World) (A : Option Addr) (n cap : Nat) (hB : Byts w w.heap.size A n) (hn : n ≤ cap) :
    Calls Tryd.prog 11 #[.slice A n cap] w fun e w' => ∃ l : List UInt8, l.length ≤ 100 ∧ e = .returned (strV l) ∧ Below w.heap.size w w' := by
  have HB := Lib.hid hB
  clear hB
  go_enter Tryd.func11, Tryd.ntmps11
  go_wp2_with fail
  refine (source_any w A n cap HB.out hn).mono ?_
  rintro e w1 ⟨rfl, hs1, hb1⟩
  have HS1 := Lib.hid hs1
  clear hs1
  go_wp2_with fail
  refine (anyPath_any w1 w.heap.size w.heap.size 0 HS1.out (by omega)).mono ?_
  rintro e w2 ⟨l, hl, rfl, hw2⟩
  have HL := Lib.hid hl
  have HB2 := Lib.hid (hb1.trans (hw2.belowB hb1.size))
  clear hl hw2
  go_wp2_with fail
  go_ret
  exact ⟨l, HL.out, rfl, HB2.out⟩

/-- The cells of a slice of bytes. -/
theorem Byts.cells {w : World} {B : Nat} {A : Option Addr} {n : Nat} (h : Byts w B A n) : ∃ news : List Value, news.length = n ∧ (∀ ad, A = some ad → ∀ j u, news[j]? = some u → w.cell? (ad.add j) = some u) ∧ ∀ u ∈ news, ∃ x : Nat, x ≤ 255 ∧ u = .int .u8 x := by
  obtain ⟨_, h⟩ := h
  rcases Nat.eq_zero_or_pos n with rfl | hp
  · exact ⟨[], rfl, fun _ _ j u hu => by simp at hu, fun u hu => by cases hu⟩
  · obtain ⟨b, off, rfl, hb, hc⟩ := h hp
    have hall : ∀ m, m ≤ n → ∃ news : List Value, news.length = m ∧ (∀ j u, news[j]? = some u → w.cell? ⟨b, off + j, none⟩ = some u) ∧ ∀ u ∈ news, ∃ x : Nat, x ≤ 255 ∧ u = .int .u8 x := by
      intro m
      induction m with
      | zero => exact fun _ => ⟨[], rfl, fun j u hu => by simp at hu, fun u hu => by cases hu⟩
      | succ m ih =>
        intro hm
        obtain ⟨news, hl, h1, h2⟩ := ih (by omega)
        obtain ⟨x, hx, hcx⟩ := hc m (by omega)
        refine ⟨news ++ [.int .u8 x], by simp [hl], fun j u hu => ?_, fun u hu => ?_⟩
        · rcases Nat.lt_trichotomy j m with hj | hj | hj
          · rw [List.getElem?_append_left (by omega)] at hu
            exact h1 j u hu
          · subst hj
            rw [List.getElem?_append_right (by omega), hl] at hu
            simp at hu
            subst hu
            exact hcx
          · rw [List.getElem?_eq_none (by simp; omega)] at hu
            cases hu
        · rcases List.mem_append.1 hu with hu | hu
          · exact h2 u hu
          · simp at hu; exact ⟨x, hx, hu⟩
    obtain ⟨news, hl, h1, h2⟩ := hall n (Nat.le_refl _)
    refine ⟨news, hl, fun ad had j u hu => ?_, h2⟩
    cases had
    rw [Addr.add_lit]
    exact h1 j u hu
theorem byts_own {w : World} {base : Nat} {v : Value} {n : Nat} {xs : List Value} (h : w.ownsRow base 5 1 v n xs) (hx : ∀ u ∈ xs, ∃ x : Nat, x ≤ 255 ∧ u = .int .u8 x) (hn : n ≤ 1048577) : ∃ A cap, v = .slice A n cap ∧ n ≤ cap ∧ Byts w w.heap.size A n := by
  have hl : xs.length = n := by simpa using h.1
  rcases h.2 with ⟨rfl, rfl⟩ | ⟨g, cap, cur, rfl, hb, hg, hc, _⟩
  · exact ⟨none, 0, rfl, Nat.le_refl _, hn, fun h => by omega⟩
  · refine ⟨_, cap, rfl, hc, hn, fun _ => ⟨g, 0, rfl, (Array.getElem?_eq_some_iff.1 hg).1, fun k hk => ?_⟩⟩
    obtain ⟨x, hx1, hx2⟩ := hx xs[k] (by simp)
    refine ⟨x, hx1, ?_⟩
    have := h.cells (g := g) rfl k xs[k] (by simp [hl, hk])
    rw [hx2] at this
    simpa [Addr.add_lit] using this

end Go.Proofs.YtgoenokkaagdeaaDoor.Draw
