/- The model's source of choices: strings that may be no paths; a source out of bytes; drawn paths. -/
import Derived.Test.YtpklkajpohkhkaaDraw2
import Derived.Deep.RegionWith
import Derived.Laws.AppendOwnNone
namespace Go.Proofs.Ytpklkajpohkhkaa.Draw
open Go.RowKit
open Paths

def oddPaths : List (List UInt8) := [[], [47], [97, 47], [47, 97], [97, 47, 47, 98], [46], [46, 46], [97, 47, 46, 46], [97, 32, 98], [128], [97, 47, 98, 47, 99, 47, 100], [97, 47, 98, 47, 99, 47, 100, 47, 101], [108, 111, 110, 103, 110, 97, 109, 101], [108, 111, 110, 103, 110, 97, 109, 101, 49], [46, 46, 46], [97, 0]]
def oddSigns : List (List UInt8) := [[47], [46], [32], [126], [127]]
theorem odd_len {p : List UInt8} (h : p ∈ oddPaths) : p.length ≤ 9 := by
  have : oddPaths.all (fun p => decide (p.length ≤ 9)) = true := by decide
  simpa using List.all_eq_true.1 this p h
theorem sign_len {p : List UInt8} (h : p ∈ oddSigns) : p.length ≤ 1 := by
  have : oddSigns.all (fun p => decide (p.length ≤ 1)) = true := by decide
  simpa using List.all_eq_true.1 this p h

set_option maxHeartbeats 800000 in
theorem anyPath_any (w : World) (B g m : Nat) (h : Src w B g m) (hm : m + 7 ≤ 1000000) :
    Calls Try.prog 48 #[.pointer (some ⟨g, 0, none⟩)] w fun e w' => ∃ l : List UInt8, l.length ≤ 100 ∧ e = .returned (strV l) ∧ Went w w' B g (m + 7) := by
  have H := Lib.hid h
  have hglt := h.lt
  clear h
  go_enter Try.func48, Try.ntmps48
  go_wp2_with fail
  refine (next_small w B g m _ H.out (by omega) (by omega)).mono ?_
  rintro e w1 ⟨r, hr, rfl, hw1⟩
  have HW1 := Lib.hid hw1
  have hz1 := hw1.2.size
  clear hw1
  by_cases r0 : r = 0
  · have e0 : ((r : Int) == 0) = true := by simp [r0]
    clear r0
    go_wp2_with fail
    have hb1 := (Below.refl w1.heap.size w1).alloc (Nat.le_refl _) (.cells (oddPaths.map strV).toArray 9)
    refine (pick_any _ B g (m + 1) w1.heap.size 16 oddPaths (HW1.out.1.below hb1) (by omega) (by decide) (by decide) (Lits.new w1 oddPaths) (by omega)).mono ?_
    rintro e w2 ⟨p, hp, rfl, hw2⟩
    have hpl := odd_len hp
    have HW2 := Lib.hid ((HW1.out.below hb1).trans hw2)
    clear hb1 hw2 hp
    go_wp2_with fail
    go_ret
    exact ⟨p, by omega, rfl, HW2.out.more (by omega) (by omega)⟩
  have e0 : ((r : Int) == 0) = false := beq_eq_false_iff_ne.2 (by omega)
  by_cases r1 : r = 1
  · have e1 : ((r : Int) == 1) = true := by simp [r1]
    clear r1 r0
    go_wp2_with fail
    refine (path_any w1 B g (m + 1) HW1.out.1 (by omega)).mono ?_
    rintro e w2 ⟨l, hl, rfl, hw2⟩
    have hll := pathB_len hl
    have HW2 := Lib.hid (HW1.out.trans hw2)
    have hz2 := hw2.2.size
    have hls : (⟨l.toArray⟩ : ByteArray).size = l.length := rfl
    clear hw2 hl
    rw [strV_eq]
    go_wp2_with fail
    refine (next_small w2 B g (m + 1 + 4) _ HW2.out.1 (by omega) (by omega)).mono ?_
    rintro e w3 ⟨k, hk, rfl, hw3⟩
    have HW3 := Lib.hid (HW2.out.trans hw3)
    have hz3 := hw3.2.size
    have hkl : k ≤ l.length := by omega
    clear hw3 hk
    have hk0 : (0 : Int) ≤ (k : Int) := by omega
    have hk1 : (k : Int) ≤ (l.length : Int) := by omega
    have hb3 := (Below.refl w3.heap.size w3).alloc (Nat.le_refl _) (.cells (oddSigns.map strV).toArray 9)
    go_wp2_with fail
    have HCP : Hid (Calls Try.prog 61 #[.pointer (some ⟨g, 0, none⟩), .slice (some ⟨w3.heap.size, 0, none⟩) 5 5] (w3.alloc (.cells #[.string ⟨#[47]⟩, .string ⟨#[46]⟩, .string ⟨#[32]⟩, .string ⟨#[126]⟩, .string ⟨#[127]⟩] 9)).drew fun e w' => ∃ p : List UInt8, p.length ≤ 1 ∧ e = .returned (.string ⟨p.toArray⟩) ∧ Went w w' B g (m + 1 + 4 + 1 + 1)) := by
      refine (pick_any (w3.alloc (.cells (oddSigns.map strV).toArray 9)).drew B g (m + 1 + 4 + 1) w3.heap.size 5 oddSigns (HW3.out.1.below hb3.drew) (by omega) (by decide) (by decide) (by exact Lits.new w3 oddSigns) (by omega)).mono ?_
      rintro e w4 ⟨p, hp, rfl, hw4⟩
      exact ⟨p, sign_len hp, rfl, (HW3.out.below hb3).trans ⟨hw4.1, ⟨hw4.2.os, hw4.2.tape, hw4.2.output, hw4.2.size, hw4.2.block⟩⟩⟩
    go_region_with (go_at_call 61; refine HCP.out.mono ?_; rintro e w4 ⟨p, hpl, rfl, hw4⟩)
    go_wp2
    go_ret
    refine ⟨((⟨l.toArray⟩ : ByteArray).extract 0 k ++ ⟨p.toArray⟩ ++ (⟨l.toArray⟩ : ByteArray).extract k l.length).data.toList, ?_, by rw [strV_data]; rfl, hw4.more (by omega) (by omega)⟩
    have hps : (⟨p.toArray⟩ : ByteArray).size = p.length := rfl
    rw [← Lib.size_eq]
    simp [hls, hps]
    omega
  · have e1 : ((r : Int) == 1) = false := beq_eq_false_iff_ne.2 (by omega)
    clear r1 r0
    go_wp2_with fail
    refine (path_any w1 B g (m + 1) HW1.out.1 (by omega)).mono ?_
    rintro e w2 ⟨l, hl, rfl, hw2⟩
    have hll := pathB_len hl
    have HW2 := Lib.hid (HW1.out.trans hw2)
    clear hw2 hl
    go_wp2_with fail
    go_ret
    exact ⟨l, by omega, rfl, HW2.out.more (by omega) (by omega)⟩

theorem source_any (w : World) (A : Option Addr) (n cap : Nat) (hB : Byts w w.heap.size A n) (hn : n ≤ cap) :
    Calls Try.prog 35 #[.slice A n cap] w fun e w' => e = .returned (.pointer (some ⟨w.heap.size, 0, none⟩)) ∧ Src w' w.heap.size w.heap.size 0 ∧ Below w.heap.size w w' := by
  have HB := Lib.hid hB
  have hn1 := hB.1
  clear hB
  go_enter Try.func35, Try.ntmps35
  go_wp2
  go_ret
  refine ⟨rfl, ⟨Nat.le_refl _, by omega, A, n, cap, 0, n % 1000, HB.out.below ((Below.refl _ _).alloc (Nat.le_refl _) _), hn, Nat.le_refl _, by omega, ?_⟩, (Below.refl _ _).alloc (Nat.le_refl _) _⟩
  exact heap_alloc_new w _

set_option maxHeartbeats 400000 in
theorem sameTexts_any (v1 v2 : Value) (A B : List (List UInt8)) (w : World) (h1 : Strs w v1 A) (h2 : Strs w v2 B) (hl : A.length ≤ maxLen) : Calls Try.prog 17 #[v1, v2] w fun e w' => e = .returned (.bool (decide (A = B))) ∧ ∃ n, w' = w.drewN n := by
  unfold maxLen at hl
  obtain ⟨a1, c1, rfl, hc1, h1⟩ := h1
  obtain ⟨a2, c2, rfl, hc2, h2⟩ := h2
  by_cases hL : A.length = B.length
  · have hne : ((A.length : Int) != (B.length : Int)) = false := by simp [hL]
    have HL := Lib.hid hL
    have H1 := Lib.hid h1
    have H2 := Lib.hid h2
    clear hL h1 h2
    go_enter Try.func17, Try.ntmps17
    go_wp2
    go_loopw [5] (fun i wr => ∃ k n : Nat, k ≤ A.length ∧ i = .int .i64 k ∧ wr = w.drewN n ∧ Hid (A.take k = B.take k)) (fun i _ => A.length - (intOf i).toNat)
    case atStart => exact ⟨0, 0, by omega, rfl, rfl, rfl⟩
    case round =>
      obtain ⟨k, n, hk, rfl, rfl, HK⟩ := hrel
      by_cases hlt : k < A.length
      · obtain ⟨b1, o1, rfl, hb1, hcell1⟩ := H1.out (by omega)
        have hL2 := HL.out
        have hlt2 : k < B.length := by omega
        obtain ⟨b2, o2, rfl, hb2, hcell2⟩ := H2.out (by omega)
        have hk1 := hcell1 k A[k] (by simp [hlt])
        have hk2 := hcell2 k B[k] (by simp [hlt2])
        unfold strV at hk1 hk2
        clear hcell1 hcell2 hL2 H1 H2
        have hi1 : (k : Int) < (A.length : Int) := by omega
        have hi2 : (k : Int) < (B.length : Int) := by omega
        have hi0 : (0 : Int) ≤ (k : Int) := by omega
        go_wp2
        go_quiet (fail)
        go_wp2
        · have HF : Hid (¬ A = B) := fun e => by
            have h3 : (!A[k] == B[k]) = true := by assumption
            rw [getElem_of_eq hlt hlt2 e] at h3
            simp at h3
          go_ret
          exact ⟨ret_bool (by simp [HF.out]), n + nq, World.drewN_drewN _ _ _⟩
        · have h3 : (!A[k] == B[k]) = false := by assumption
          exact ⟨⟨k + 1, _, by omega, by go_num, rfl, take_snoc_eq hlt hlt2 HK.out (by simpa using h3)⟩, by simp [intOf]; omega⟩
      · have HE : Hid (A = B) := by
          have hL2 := HL.out
          have := HK.out
          rw [List.take_of_length_le (by omega), List.take_of_length_le (by omega)] at this
          exact this
        go_wp2
        go_ret
        exact ⟨ret_bool (by simp [HE.out]), _, rfl⟩
  · have hne : ((A.length : Int) != (B.length : Int)) = true := by simp; omega
    have HE : Hid (¬ A = B) := fun e => hL (by rw [e])
    clear hL
    go_enter Try.func17, Try.ntmps17
    go_wp2
    go_ret
    exact ⟨ret_bool (by simp [HE.out]), 0, rfl⟩


theorem byteInfo : (Try.prog.info? 5).map (fun i => (i.zero, i.size, i.bytes)) = some (some (.int .u8 0), 1, 1) := by kernel_rfl

theorem pathDrawn_any (w : World) (A : Option Addr) (n cap : Nat) (hB : Byts w w.heap.size A n) (hn : n ≤ cap) :
    Calls Try.prog 12 #[.slice A n cap] w fun e w' => ∃ l, pathB l = true ∧ e = .returned (strV l) ∧ Below w.heap.size w w' := by
  have HB := Lib.hid hB
  clear hB
  go_enter Try.func12, Try.ntmps12
  go_wp2_with fail
  refine (source_any w A n cap HB.out hn).mono ?_
  rintro e w1 ⟨rfl, hs1, hb1⟩
  have HS1 := Lib.hid hs1
  clear hs1
  go_wp2_with fail
  refine (path_any w1 w.heap.size w.heap.size 0 HS1.out (by omega)).mono ?_
  rintro e w2 ⟨l, hl, rfl, hw2⟩
  have HL := Lib.hid hl
  have HB2 := Lib.hid (hb1.trans (hw2.belowB hb1.size))
  clear hl hw2
  go_wp2_with fail
  go_ret
  exact ⟨l, HL.out, rfl, HB2.out⟩

theorem anyPathDrawn_any (w : World) (A : Option Addr) (n cap : Nat) (hB : Byts w w.heap.size A n) (hn : n ≤ cap) :
    Calls Try.prog 25 #[.slice A n cap] w fun e w' => ∃ l : List UInt8, l.length ≤ 100 ∧ e = .returned (strV l) ∧ Below w.heap.size w w' := by
  have HB := Lib.hid hB
  clear hB
  go_enter Try.func25, Try.ntmps25
  go_wp2_with fail
  refine (source_any w A n cap HB.out hn).mono ?_
  rintro e w1 ⟨rfl, hs1, hb1⟩
  have HS1 := Lib.hid hs1
  clear hs1
  go_wp2_with fail
  refine (anyPath_any w1 w.heap.size w.heap.size 0 HS1.out (by omega)).mono ?_
  rintro e w2 ⟨l, hl, rfl, hw2⟩
  have HL := Lib.hid hl
  have HB2 := Lib.hid (hb1.trans (hw2.belowB hb1.size))
  clear hl hw2
  go_wp2_with fail
  go_ret
  exact ⟨l, HL.out, rfl, HB2.out⟩

/-- The cells of a slice of bytes. -/
theorem Byts.cells {w : World} {B : Nat} {A : Option Addr} {n : Nat} (h : Byts w B A n) : ∃ news : List Value, news.length = n ∧ (∀ ad, A = some ad → ∀ j u, news[j]? = some u → w.cell? (ad.add j) = some u) ∧ ∀ u ∈ news, ∃ x : Nat, x ≤ 255 ∧ u = .int .u8 x := by
  obtain ⟨_, h⟩ := h
  rcases Nat.eq_zero_or_pos n with rfl | hp
  · exact ⟨[], rfl, fun _ _ j u hu => by simp at hu, fun u hu => by cases hu⟩
  · obtain ⟨b, off, rfl, hb, hc⟩ := h hp
    have hall : ∀ m, m ≤ n → ∃ news : List Value, news.length = m ∧ (∀ j u, news[j]? = some u → w.cell? ⟨b, off + j, none⟩ = some u) ∧ ∀ u ∈ news, ∃ x : Nat, x ≤ 255 ∧ u = .int .u8 x := by
      intro m
      induction m with
      | zero => exact fun _ => ⟨[], rfl, fun j u hu => by simp at hu, fun u hu => by cases hu⟩
      | succ m ih =>
        intro hm
        obtain ⟨news, hl, h1, h2⟩ := ih (by omega)
        obtain ⟨x, hx, hcx⟩ := hc m (by omega)
        refine ⟨news ++ [.int .u8 x], by simp [hl], fun j u hu => ?_, fun u hu => ?_⟩
        · rcases Nat.lt_trichotomy j m with hj | hj | hj
          · rw [List.getElem?_append_left (by omega)] at hu
            exact h1 j u hu
          · subst hj
            rw [List.getElem?_append_right (by omega), hl] at hu
            simp at hu
            subst hu
            exact hcx
          · rw [List.getElem?_eq_none (by simp; omega)] at hu
            cases hu
        · rcases List.mem_append.1 hu with hu | hu
          · exact h2 u hu
          · simp at hu; exact ⟨x, hx, hu⟩
    obtain ⟨news, hl, h1, h2⟩ := hall n (Nat.le_refl _)
    refine ⟨news, hl, fun ad had j u hu => ?_, h2⟩
    cases had
    rw [Addr.add_lit]
    exact h1 j u hu
theorem byts_own {w : World} {base : Nat} {v : Value} {n : Nat} {xs : List Value} (h : w.ownsRow base 5 1 v n xs) (hx : ∀ u ∈ xs, ∃ x : Nat, x ≤ 255 ∧ u = .int .u8 x) (hn : n ≤ 1048577) : ∃ A cap, v = .slice A n cap ∧ n ≤ cap ∧ Byts w w.heap.size A n := by
  have hl : xs.length = n := by simpa using h.1
  rcases h.2 with ⟨rfl, rfl⟩ | ⟨g, cap, cur, rfl, hb, hg, hc, _⟩
  · exact ⟨none, 0, rfl, Nat.le_refl _, hn, fun h => by omega⟩
  · refine ⟨_, cap, rfl, hc, hn, fun _ => ⟨g, 0, rfl, (Array.getElem?_eq_some_iff.1 hg).1, fun k hk => ?_⟩⟩
    obtain ⟨x, hx1, hx2⟩ := hx xs[k] (by simp)
    refine ⟨x, hx1, ?_⟩
    have := h.cells (g := g) rfl k xs[k] (by simp [hl, hk])
    rw [hx2] at this
    simpa [Addr.add_lit] using this

set_option maxHeartbeats 400000 in
theorem mix_any (w : World) (i : Int) (A : Option Addr) (n cap : Nat) (hB : Byts w w.heap.size A n) (hn : n ≤ 1048576) (hnc : n ≤ cap) (hi : 0 ≤ i ∧ i ≤ 255) (hA : A = none → n = 0 ∧ cap = 0) :
    Calls Try.prog 24 #[.int .i64 i, .slice A n cap] w fun e w' => ∃ A' n' cap', e = .returned (.slice A' n' cap') ∧ n' ≤ cap' ∧ Byts w' w'.heap.size A' n' ∧ Below w.heap.size w w' := by
  obtain ⟨i0, hi0, hz0, hz1, hz2⟩ := info_parts byteInfo
  obtain ⟨news, hl, hcell, hval⟩ := hB.cells
  have HB := Lib.hid hB
  have hone : ∀ u ∈ news, u.oneCell' = true := fun u hu => by obtain ⟨x, _, rfl⟩ := hval u hu; rfl
  obtain ⟨hi1, hi2⟩ := hi
  clear hB
  cases A with
  | none =>
    obtain ⟨rfl, rfl⟩ := hA rfl
    have ho := World.ownsRow_lit (e := 5) (size := 1) (base := w.heap.size) w #[.int .u8 i] 1 (Nat.le_refl _) (by simp [maxLen]) rfl
    obtain ⟨A', cap', e, hcap, hby⟩ := byts_own ho (by
      intro u hu
      simp at hu
      exact ⟨i.toNat, by omega, by rw [hu, Int.toNat_of_nonneg hi1]⟩) (by omega)
    cases e
    have HBY := Lib.hid hby
    have HO := Lib.hid ho
    clear hval hl hcell hone hA hby ho
    go_enter Try.func24, Try.ntmps24
    go_wp2_with (first
      | (at_builtin; refine wpList_append_own_none rfl _ _ 22 rfl w.heap.size 5 i0 1 Try.underlying22 hi0 _ _ _ rfl HO.out rfl ?_))
    go_ret
    exact ⟨_, 1, 1, rfl, hcap, HBY.out, (Below.refl _ _).alloc (Nat.le_refl _) _⟩
  | some ad =>
    have HV := Lib.hid hval
    have HL := Lib.hid hl
    have HC := Lib.hid (hcell ad rfl)
    have HO := Lib.hid hone
    clear hval hl hcell hone hA
    go_enter Try.func24, Try.ntmps24
    go_wp2_with (first
      | (at_builtin; refine wpList_append_own _ rfl _ _ 22 rfl w.heap.size 5 i0 (.int .u8 0) 1 1 Try.underlying22 hi0 hz0 hz1 hz2 rfl (by decide) _ _ _ rfl (World.ownsRow_lit w #[.int .u8 i] 1 (Nat.le_refl _) (by simp [maxLen]) rfl) ad n cap news rfl ?c1 ?c2 HO.out (by unfold maxLen; omega) (by omega) (by simp) ?_))
    case c1 => rw [HL.out]; simp
    case c2 =>
      intro j u hu
      have hc := HC.out j u hu
      exact (World.cell?_alloc_lt w _ _ (World.block_lt_of_cell? w _ hc)).trans hc
    intro v' w3 hown' hgrow3 hnil3
    obtain ⟨A', cap', rfl, hcap, hby⟩ := byts_own hown' (by
      intro u hu
      rcases List.mem_cons.1 hu with hu | hu
      · exact ⟨i.toNat, by omega, by rw [hu, Int.toNat_of_nonneg hi1]⟩
      · exact HV.out u hu) (by omega)
    have hg3 : (w.alloc (.cells #[.int .u8 i] 5)).grownBy w3 (some w.heap.size) := hgrow3
    have hb3 : Below w.heap.size w w3 := ((Below.refl _ _).alloc (Nat.le_refl _) _).grown hg3 (by simp) (fun q hq => by cases hq; exact Nat.le_refl _)
    have HBY := Lib.hid hby
    clear hgrow3 hnil3 hown' hg3 hby
    go_wp2
    go_ret
    exact ⟨A', _, cap', rfl, hcap, HBY.out, hb3⟩

end Go.Proofs.Ytpklkajpohkhkaa.Draw
