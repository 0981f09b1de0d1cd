/- For all two slices of bytes, FnPaths answers true: of the paths drawn out of them, each is its parent and one part, the order is strict and total, and what is below a path follows it at once. No condition. -/
import Derived.Test.YtpklkajpohkhkaaRows
import Derived.Test.YtpklkajpohkhkaaPathFacts
import Derived.WalkKit
import Derived.ProofKit
import Derived.OpenShut
import Derived.ShutString
import Derived.ChangeOld
import Derived.Below
namespace Go.Proofs.Ytpklkajpohkhkaa.LawPaths
open Go.ChangeShapes Go.WideShapes Go.ChangeAt Go.RowKit
open Go.ChangeMaps (open_string shut_string)
open Paths Draw
set_option linter.unusedVariables false

/-- What is known of a slice of integers that came in. -/
def IsRow (k : IntKind) (w : World) (a : Option Addr) (len cap : Nat) (zs : List Int) : Prop :=
  (a = none ∧ len = 0 ∧ cap = 0 ∧ zs = []) ∨
  ∃ x, a = some x ∧ len ≤ cap ∧ cap ≤ maxLen ∧ zs.length = cap ∧ (∀ i, i < zs.length → w.cell? (x.add i) = some (.int k (zs.getD i 0))) ∧ ∀ n ∈ zs, (Lit.int k n).wf = true
theorem IsRow.byts {w : World} {a : Option Addr} {len cap : Nat} {zs : List Int} (h : IsRow .u8 w a len cap zs) (hl : len ≤ 1048576) : Byts w w.heap.size a len ∧ len ≤ cap ∧ (a = none → len = 0 ∧ cap = 0) := by
  rcases h with ⟨rfl, rfl, rfl, rfl⟩ | ⟨x, rfl, h1, h2, h3, h4, h5⟩
  · exact ⟨⟨by omega, fun h => by omega⟩, Nat.le_refl _, fun _ => ⟨rfl, rfl⟩⟩
  · refine ⟨⟨by omega, fun hn => ?_⟩, h1, fun h => by cases h⟩
    have hc := h4 0 (by omega)
    obtain ⟨b, off, spot⟩ := x
    have hspot : spot = none := by simpa [Addr.add] using World.cell?_spot hc
    subst hspot
    refine ⟨b, off, rfl, World.block_lt_of_cell? w _ (by simpa [Addr.add_lit] using hc), fun k hk => ?_⟩
    have hck := h4 k (by omega)
    have hw := h5 (zs.getD k 0) (by simp [List.getD, show k < zs.length by omega])
    have hb : 0 ≤ zs.getD k 0 ∧ zs.getD k 0 ≤ 255 := bounds_u8 hw
    refine ⟨(zs.getD k 0).toNat, by omega, ?_⟩
    rw [Int.toNat_of_nonneg hb.1]
    simpa [Addr.add_lit] using hck

theorem later {w w' : World} {A : Option Addr} {n : Nat} (h : Byts w w.heap.size A n) (hb : Below w.heap.size w w') : Byts w' w'.heap.size A n := by
  have h2 := h.below hb
  refine ⟨h2.1, fun hn => ?_⟩
  obtain ⟨b, off, e, hlt, hc⟩ := h2.2 hn
  exact ⟨b, off, e, Nat.lt_of_lt_of_le hlt hb.size, hc⟩

set_option maxRecDepth 100000 in
set_option maxHeartbeats 4000000 in
theorem walk_small (a0 : Option Addr) (len0 cap0 : Nat) (a1 : Option Addr) (len1 cap1 : Nat) (w : World) (B0 : Byts w w.heap.size a0 len0) (c0 : len0 ≤ cap0) (h0 : len0 ≤ 1048576) (B1 : Byts w w.heap.size a1 len1) (c1 : len1 ≤ cap1) (h1 : len1 ≤ 1048576) (n1 : a1 = none → len1 = 0 ∧ cap1 = 0) :
    Calls Try.prog 3 #[.slice a0 len0 cap0, .slice a1 len1 cap1] w fun e w' => e = .returned (.bool true) ∧ Below w.heap.size w w' := by
  have HB0 := Lib.hid B0
  have HB1 := Lib.hid B1
  have HN1 := Lib.hid n1
  have hd0 : decide ((1048576 : Int) < (len0 : Int)) = false := by simp; omega
  have hd1 : decide ((1048576 : Int) < (len1 : Int)) = false := by simp; omega
  clear B0 B1 n1
  go_enter Try.func3, Try.ntmps3
  go_wp2_with fail
  refine (pathDrawn_s w a0 len0 cap0 HB0.out c0).mono ?_
  rintro e w1 ⟨sa, ha, rfl, hb⟩
  have HA := Lib.hid ha
  have hsa := path_size ha
  have hask := path_ask ha
  have hbself := below_self ha
  have hbup := below_up ha
  have hbpar := below_parent ha
  have hps := parB_size ha
  obtain ⟨hj0, hjr⟩ := join_back ha
  have HJR := Lib.hid hjr
  have hBB := Lib.hid (HB1.out.below hb)
  go_wp2_with fail
  refine (pathDrawn_s w1 a1 len1 cap1 (by exact ⟨hBB.out.1, fun h => by obtain ⟨b, off, e, hlt, hc⟩ := hBB.out.2 h; exact ⟨b, off, e, Nat.lt_of_lt_of_le hlt hb.size, hc⟩⟩) c1).mono ?_
  rintro e w2 ⟨sb, hsb, rfl, hb2⟩
  have HSB := Lib.hid hsb
  have hsbs := path_size hsb
  replace hb := hb.trans (hb2.mono hb.size)
  clear hb2 hBB hsb hjr
  -- PartsOf, ParentOf
  go_wp2_with fail
  refine (partsOf_impl sa _ (by unfold maxLen; omega)).mono ?_
  rintro e w3 ⟨v3, rfl, hb3, ho3⟩
  replace hb := hb.trans (hb3.mono hb.size)
  rw [hask]
  go_wp2_with fail
  refine (partsOf_spec sa _).mono ?_
  rintro e w4 ⟨v4, rfl, hb4, ho4⟩
  replace hb := hb.trans (hb4.mono hb.size)
  have ho34 := Lib.hid (own_below ho3 hb4)
  rw [hask]
  go_wp2_with fail
  refine (parentOf_impl sa _ (by unfold maxLen; omega)).mono ?_
  rintro e w5 ⟨rfl, hb5⟩
  replace hb := hb.trans (hb5.mono hb.size)
  have ho35 := Lib.hid (own_below ho34.out hb5)
  have ho45 := Lib.hid (own_below ho4 hb5)
  clear ho3 ho4 hb3 hb4 hb5 ho34
  rw [hask, show strV (parS sa) = .string (parB sa) from rfl]
  go_wp2_with fail
  refine (parentOf_spec sa _ (by unfold maxLen; omega)).mono ?_
  rintro e w6 ⟨rfl, hb6⟩
  replace hb := hb.trans (hb6.mono hb.size)
  have ho36 := Lib.hid (own_below ho35.out hb6)
  have ho46 := Lib.hid (own_below ho45.out hb6)
  clear ho35 ho45 hb6
  rw [hask, show strV (parS sa) = .string (parB sa) from rfl]
  have hp4 := parts_len4 sa.data.toList
  go_wp2_with fail
  refine (sameTexts_any v3 v4 _ _ _ (Strs.own ho36.out) (Strs.own ho46.out) (by unfold maxLen; omega)).mono ?_
  rintro e w7 ⟨rfl, n7, rfl⟩
  go_wp2_with fail
  refine (pathOK_impl sa _ (by unfold maxLen; omega)).mono ?_
  rintro e w7 ⟨rfl, hb7⟩
  rw [ha]
  have hb7' : Below w6.heap.size w6 w7 := ⟨hb7.os, hb7.tape, hb7.output, hb7.size, hb7.block⟩
  replace hb := hb.trans (hb7'.mono hb.size)
  have ho47 := own_below ho46.out hb7'
  clear hb7 ho46 ho36
  rw [partsOf_yes ha] at ho47
  have hcp := cutAt_pos 47 sa.data.toList
  have hc4 := (pathB_parts ha).1
  have hlast : (cutAt 47 sa.data.toList)[(cutAt 47 sa.data.toList).length - 1]? = some (lastB sa).data.toList := by
    rw [lastB_data, List.getLast_eq_getElem]
    simp
  obtain ⟨g4, cap4, rfl, hcap4, _, hg4, hcell4⟩ := own_slice ho47 (by omega)
  have hcl := hcell4 _ (strV (lastB sa).data.toList) (by rw [List.getElem?_map, hlast]; rfl)
  rw [strV_data] at hcl
  clear hcell4 ho47 hlast
  generalize hL : (cutAt 47 sa.data.toList).length = N at *
  clear hL
  have hi0 : (0 : Int) ≤ (N : Int) - 1 := by omega
  have hi1 : (N : Int) - 1 < (N : Int) := by omega
  have hi2 : ((N : Int) - 1).toNat = N - 1 := by omega
  go_wp2_with fail
  refine (joinPath_impl (parB sa) (lastB sa) _ (by unfold maxLen; omega)).mono ?_
  rintro e w8 ⟨rfl, hb8⟩
  replace hb := hb.trans (hb8.mono hb.size)
  rw [hj0, HJR.out, strV_data]
  clear hcl hb8 hb7' hi0 hi1 hi2
  go_wp2_with fail
  refine (isBelow_impl sa (parB sa) _ (by unfold maxLen; omega) (by unfold maxLen; omega)).mono ?_
  rintro e w9 ⟨rfl, hb9⟩
  replace hb := hb.trans (hb9.mono hb.size)
  rw [hbpar]
  clear hb9
  go_wp2_with fail
  refine (isBelow_impl sa sa _ (by unfold maxLen; omega) (by unfold maxLen; omega)).mono ?_
  rintro e w10 ⟨rfl, hb9⟩
  replace hb := hb.trans (hb9.mono hb.size)
  rw [hbself]
  clear hb9
  go_wp2_with fail
  refine (isBelow_impl (parB sa) sa _ (by unfold maxLen; omega) (by unfold maxLen; omega)).mono ?_
  rintro e w11 ⟨rfl, hb9⟩
  replace hb := hb.trans (hb9.mono hb.size)
  rw [hbup]
  clear hb9
  go_wp2_with fail
  refine (pathLess_impl sa sb _ (by unfold maxLen; omega) (by unfold maxLen; omega)).mono ?_
  rintro e w12 ⟨rfl, hb9⟩
  replace hb := hb.trans (hb9.mono hb.size)
  clear hb9
  go_wp2_with fail
  refine (pathLess_spec sa sb _).mono ?_
  rintro e w13 ⟨rfl, hb9⟩
  replace hb := hb.trans (hb9.mono hb.size)
  clear hb9
  go_wp2_with fail
  refine (isBelow_impl sa sb _ (by unfold maxLen; omega) (by unfold maxLen; omega)).mono ?_
  rintro e w14 ⟨rfl, hb9⟩
  replace hb := hb.trans (hb9.mono hb.size)
  clear hb9
  go_wp2_with fail
  refine (isBelow_spec sa sb _).mono ?_
  rintro e w15 ⟨rfl, hb9⟩
  replace hb := hb.trans (hb9.mono hb.size)
  clear hb9
  rcases Bool.eq_false_or_eq_true (lessB sa sb) with hx0 | hx0
  · have hy := less_asymm HA.out HSB.out hx0
    go_wp2_with fail
    refine (pathLess_impl sa sb _ (by unfold maxLen; omega) (by unfold maxLen; omega)).mono ?_
    rintro e wz ⟨rfl, hb9⟩
    replace hb := hb.trans (hb9.mono hb.size)
    rw [hx0]
    clear hb9
    go_wp2_with fail
    refine (pathLess_impl sb sa _ (by unfold maxLen; omega) (by unfold maxLen; omega)).mono ?_
    rintro e wz ⟨rfl, hb9⟩
    replace hb := hb.trans (hb9.mono hb.size)
    rw [hy]
    clear hb9
    go_wp2_with fail
    refine (pathLess_impl sa sb _ (by unfold maxLen; omega) (by unfold maxLen; omega)).mono ?_
    rintro e wz ⟨rfl, hb9⟩
    replace hb := hb.trans (hb9.mono hb.size)
    rw [hx0]
    clear hb9
    by_cases hz0 : (parB sa).size = 0
    · have he := isEmpty_true hz0
      clear hz0
      go_wp2_with fail
      refine (mix_any _ 3 a1 len1 cap1 (later HB1.out hb) h1 c1 (by omega) HN1.out).mono ?_
      rintro e wm ⟨A', n', cap', rfl, hc', hby, hb9⟩
      replace hb := hb.trans (hb9.mono hb.size)
      have HBY := Lib.hid hby
      clear hb9 hby
      go_wp2_with fail
      refine (pathDrawn_s _ A' n' cap' HBY.out hc').mono ?_
      rintro e wn ⟨sx, hx, rfl, hb9⟩
      replace hb := hb.trans (hb9.mono hb.size)
      have HX := Lib.hid hx
      have hsx := path_size hx
      clear hb9 HBY hx
      rcases Bool.eq_false_or_eq_true (isBelowB sx sb) with hu | hu
      · go_wp2_with fail
        refine (isBelow_spec sx sb _).mono ?_
        rintro e wz ⟨rfl, hb9⟩
        replace hb := hb.trans (hb9.mono hb.size)
        rw [hu]
        clear hb9
        go_wp2_with fail
        refine (pathLess_spec sb sa _).mono ?_
        rintro e wz ⟨rfl, hb9⟩
        replace hb := hb.trans (hb9.mono hb.size)
        rw [hy]
        clear hb9
        go_wp2_with fail
        refine (anyPathDrawn_s _ a1 len1 cap1 (later HB1.out hb) c1).mono ?_
        rintro e wt ⟨st, hst, rfl, hb9⟩
        replace hb := hb.trans (hb9.mono hb.size)
        clear hb9
        go_wp2_with fail
        refine (parentOf_impl st _ (by unfold maxLen; omega)).mono ?_
        rintro e wu ⟨rfl, hb9⟩
        replace hb := hb.trans (hb9.mono hb.size)
        rw [strV_eq]
        clear hb9
        go_wp2_with fail
        refine (parentOf_spec st _ (by unfold maxLen; omega)).mono ?_
        rintro e wv ⟨rfl, hb9⟩
        replace hb := hb.trans (hb9.mono hb.size)
        rw [strV_eq]
        clear hb9
        go_wp2_with fail
        refine (pathOK_impl st _ (by unfold maxLen; omega)).mono ?_
        rintro e wz ⟨rfl, hb9⟩
        replace hb := hb.trans (hb9.mono hb.size)
        clear hb9
        go_wp2_with fail
        refine (pathOK_spec st _).mono ?_
        rintro e wz ⟨rfl, hb9⟩
        replace hb := hb.trans (hb9.mono hb.size)
        clear hb9
        go_wp2_with fail
        refine (partOK_impl st _).mono ?_
        rintro e wz ⟨rfl, hb9⟩
        replace hb := hb.trans (hb9.mono hb.size)
        clear hb9
        go_wp2_with fail
        refine (partOK_spec st _).mono ?_
        rintro e wy ⟨rfl, rfl⟩
        go_wp2_with fail
        go_ret
        exact ⟨rfl, hb⟩
      · go_wp2_with fail
        refine (isBelow_spec sx sb _).mono ?_
        rintro e wz ⟨rfl, hb9⟩
        replace hb := hb.trans (hb9.mono hb.size)
        rw [hu]
        clear hb9
        go_wp2_with fail
        refine (anyPathDrawn_s _ a1 len1 cap1 (later HB1.out hb) c1).mono ?_
        rintro e wt ⟨st, hst, rfl, hb9⟩
        replace hb := hb.trans (hb9.mono hb.size)
        clear hb9
        go_wp2_with fail
        refine (parentOf_impl st _ (by unfold maxLen; omega)).mono ?_
        rintro e wu ⟨rfl, hb9⟩
        replace hb := hb.trans (hb9.mono hb.size)
        rw [strV_eq]
        clear hb9
        go_wp2_with fail
        refine (parentOf_spec st _ (by unfold maxLen; omega)).mono ?_
        rintro e wv ⟨rfl, hb9⟩
        replace hb := hb.trans (hb9.mono hb.size)
        rw [strV_eq]
        clear hb9
        go_wp2_with fail
        refine (pathOK_impl st _ (by unfold maxLen; omega)).mono ?_
        rintro e wz ⟨rfl, hb9⟩
        replace hb := hb.trans (hb9.mono hb.size)
        clear hb9
        go_wp2_with fail
        refine (pathOK_spec st _).mono ?_
        rintro e wz ⟨rfl, hb9⟩
        replace hb := hb.trans (hb9.mono hb.size)
        clear hb9
        go_wp2_with fail
        refine (partOK_impl st _).mono ?_
        rintro e wz ⟨rfl, hb9⟩
        replace hb := hb.trans (hb9.mono hb.size)
        clear hb9
        go_wp2_with fail
        refine (partOK_spec st _).mono ?_
        rintro e wy ⟨rfl, rfl⟩
        go_wp2_with fail
        go_ret
        exact ⟨rfl, hb⟩
    · have hlp := less_parent HA.out hz0
      have he := isEmpty_false (show 0 < (parB sa).size by omega)
      clear hz0
      go_wp2_with fail
      refine (pathLess_impl (parB sa) sa _ (by unfold maxLen; omega) (by unfold maxLen; omega)).mono ?_
      rintro e wz ⟨rfl, hb9⟩
      replace hb := hb.trans (hb9.mono hb.size)
      rw [hlp]
      clear hb9
      go_wp2_with fail
      refine (mix_any _ 3 a1 len1 cap1 (later HB1.out hb) h1 c1 (by omega) HN1.out).mono ?_
      rintro e wm ⟨A', n', cap', rfl, hc', hby, hb9⟩
      replace hb := hb.trans (hb9.mono hb.size)
      have HBY := Lib.hid hby
      clear hb9 hby
      go_wp2_with fail
      refine (pathDrawn_s _ A' n' cap' HBY.out hc').mono ?_
      rintro e wn ⟨sx, hx, rfl, hb9⟩
      replace hb := hb.trans (hb9.mono hb.size)
      have HX := Lib.hid hx
      have hsx := path_size hx
      clear hb9 HBY hx
      rcases Bool.eq_false_or_eq_true (isBelowB sx sb) with hu | hu
      · go_wp2_with fail
        refine (isBelow_spec sx sb _).mono ?_
        rintro e wz ⟨rfl, hb9⟩
        replace hb := hb.trans (hb9.mono hb.size)
        rw [hu]
        clear hb9
        go_wp2_with fail
        refine (pathLess_spec sb sa _).mono ?_
        rintro e wz ⟨rfl, hb9⟩
        replace hb := hb.trans (hb9.mono hb.size)
        rw [hy]
        clear hb9
        go_wp2_with fail
        refine (anyPathDrawn_s _ a1 len1 cap1 (later HB1.out hb) c1).mono ?_
        rintro e wt ⟨st, hst, rfl, hb9⟩
        replace hb := hb.trans (hb9.mono hb.size)
        clear hb9
        go_wp2_with fail
        refine (parentOf_impl st _ (by unfold maxLen; omega)).mono ?_
        rintro e wu ⟨rfl, hb9⟩
        replace hb := hb.trans (hb9.mono hb.size)
        rw [strV_eq]
        clear hb9
        go_wp2_with fail
        refine (parentOf_spec st _ (by unfold maxLen; omega)).mono ?_
        rintro e wv ⟨rfl, hb9⟩
        replace hb := hb.trans (hb9.mono hb.size)
        rw [strV_eq]
        clear hb9
        go_wp2_with fail
        refine (pathOK_impl st _ (by unfold maxLen; omega)).mono ?_
        rintro e wz ⟨rfl, hb9⟩
        replace hb := hb.trans (hb9.mono hb.size)
        clear hb9
        go_wp2_with fail
        refine (pathOK_spec st _).mono ?_
        rintro e wz ⟨rfl, hb9⟩
        replace hb := hb.trans (hb9.mono hb.size)
        clear hb9
        go_wp2_with fail
        refine (partOK_impl st _).mono ?_
        rintro e wz ⟨rfl, hb9⟩
        replace hb := hb.trans (hb9.mono hb.size)
        clear hb9
        go_wp2_with fail
        refine (partOK_spec st _).mono ?_
        rintro e wy ⟨rfl, rfl⟩
        go_wp2_with fail
        go_ret
        exact ⟨rfl, hb⟩
      · go_wp2_with fail
        refine (isBelow_spec sx sb _).mono ?_
        rintro e wz ⟨rfl, hb9⟩
        replace hb := hb.trans (hb9.mono hb.size)
        rw [hu]
        clear hb9
        go_wp2_with fail
        refine (anyPathDrawn_s _ a1 len1 cap1 (later HB1.out hb) c1).mono ?_
        rintro e wt ⟨st, hst, rfl, hb9⟩
        replace hb := hb.trans (hb9.mono hb.size)
        clear hb9
        go_wp2_with fail
        refine (parentOf_impl st _ (by unfold maxLen; omega)).mono ?_
        rintro e wu ⟨rfl, hb9⟩
        replace hb := hb.trans (hb9.mono hb.size)
        rw [strV_eq]
        clear hb9
        go_wp2_with fail
        refine (parentOf_spec st _ (by unfold maxLen; omega)).mono ?_
        rintro e wv ⟨rfl, hb9⟩
        replace hb := hb.trans (hb9.mono hb.size)
        rw [strV_eq]
        clear hb9
        go_wp2_with fail
        refine (pathOK_impl st _ (by unfold maxLen; omega)).mono ?_
        rintro e wz ⟨rfl, hb9⟩
        replace hb := hb.trans (hb9.mono hb.size)
        clear hb9
        go_wp2_with fail
        refine (pathOK_spec st _).mono ?_
        rintro e wz ⟨rfl, hb9⟩
        replace hb := hb.trans (hb9.mono hb.size)
        clear hb9
        go_wp2_with fail
        refine (partOK_impl st _).mono ?_
        rintro e wz ⟨rfl, hb9⟩
        replace hb := hb.trans (hb9.mono hb.size)
        clear hb9
        go_wp2_with fail
        refine (partOK_spec st _).mono ?_
        rintro e wy ⟨rfl, rfl⟩
        go_wp2_with fail
        go_ret
        exact ⟨rfl, hb⟩
  · rcases Bool.eq_false_or_eq_true (lessB sb sa) with hy | hy
    · go_wp2_with fail
      refine (pathLess_impl sa sb _ (by unfold maxLen; omega) (by unfold maxLen; omega)).mono ?_
      rintro e wz ⟨rfl, hb9⟩
      replace hb := hb.trans (hb9.mono hb.size)
      rw [hx0]
      clear hb9
      go_wp2_with fail
      refine (pathLess_impl sa sb _ (by unfold maxLen; omega) (by unfold maxLen; omega)).mono ?_
      rintro e wz ⟨rfl, hb9⟩
      replace hb := hb.trans (hb9.mono hb.size)
      rw [hx0]
      clear hb9
      go_wp2_with fail
      refine (pathLess_impl sb sa _ (by unfold maxLen; omega) (by unfold maxLen; omega)).mono ?_
      rintro e wz ⟨rfl, hb9⟩
      replace hb := hb.trans (hb9.mono hb.size)
      rw [hy]
      clear hb9
      by_cases hz0 : (parB sa).size = 0
      · have he := isEmpty_true hz0
        clear hz0
        go_wp2_with fail
        refine (mix_any _ 3 a1 len1 cap1 (later HB1.out hb) h1 c1 (by omega) HN1.out).mono ?_
        rintro e wm ⟨A', n', cap', rfl, hc', hby, hb9⟩
        replace hb := hb.trans (hb9.mono hb.size)
        have HBY := Lib.hid hby
        clear hb9 hby
        go_wp2_with fail
        refine (pathDrawn_s _ A' n' cap' HBY.out hc').mono ?_
        rintro e wn ⟨sx, hx, rfl, hb9⟩
        replace hb := hb.trans (hb9.mono hb.size)
        have HX := Lib.hid hx
        have hsx := path_size hx
        clear hb9 HBY hx
        rcases Bool.eq_false_or_eq_true (isBelowB sx sb) with hu | hu
        · go_wp2_with fail
          refine (isBelow_spec sx sb _).mono ?_
          rintro e wz ⟨rfl, hb9⟩
          replace hb := hb.trans (hb9.mono hb.size)
          rw [hu]
          clear hb9
          go_wp2_with fail
          refine (pathLess_spec sb sa _).mono ?_
          rintro e wz ⟨rfl, hb9⟩
          replace hb := hb.trans (hb9.mono hb.size)
          rw [hy]
          clear hb9
          rcases Bool.eq_false_or_eq_true (lessB sa sx) with hz | hz
          · go_wp2_with fail
            refine (pathLess_spec sa sx _).mono ?_
            rintro e wz ⟨rfl, hb9⟩
            replace hb := hb.trans (hb9.mono hb.size)
            rw [hz]
            clear hb9
            have hbt := less_between HA.out HSB.out HX.out hu hy hz
            go_wp2_with fail
            refine (isBelow_impl sa sb _ (by unfold maxLen; omega) (by unfold maxLen; omega)).mono ?_
            rintro e wz ⟨rfl, hb9⟩
            replace hb := hb.trans (hb9.mono hb.size)
            rw [hbt]
            clear hb9
            go_wp2_with fail
            refine (anyPathDrawn_s _ a1 len1 cap1 (later HB1.out hb) c1).mono ?_
            rintro e wt ⟨st, hst, rfl, hb9⟩
            replace hb := hb.trans (hb9.mono hb.size)
            clear hb9
            go_wp2_with fail
            refine (parentOf_impl st _ (by unfold maxLen; omega)).mono ?_
            rintro e wu ⟨rfl, hb9⟩
            replace hb := hb.trans (hb9.mono hb.size)
            rw [strV_eq]
            clear hb9
            go_wp2_with fail
            refine (parentOf_spec st _ (by unfold maxLen; omega)).mono ?_
            rintro e wv ⟨rfl, hb9⟩
            replace hb := hb.trans (hb9.mono hb.size)
            rw [strV_eq]
            clear hb9
            go_wp2_with fail
            refine (pathOK_impl st _ (by unfold maxLen; omega)).mono ?_
            rintro e wz ⟨rfl, hb9⟩
            replace hb := hb.trans (hb9.mono hb.size)
            clear hb9
            go_wp2_with fail
            refine (pathOK_spec st _).mono ?_
            rintro e wz ⟨rfl, hb9⟩
            replace hb := hb.trans (hb9.mono hb.size)
            clear hb9
            go_wp2_with fail
            refine (partOK_impl st _).mono ?_
            rintro e wz ⟨rfl, hb9⟩
            replace hb := hb.trans (hb9.mono hb.size)
            clear hb9
            go_wp2_with fail
            refine (partOK_spec st _).mono ?_
            rintro e wy ⟨rfl, rfl⟩
            go_wp2_with fail
            go_ret
            exact ⟨rfl, hb⟩
          · go_wp2_with fail
            refine (pathLess_spec sa sx _).mono ?_
            rintro e wz ⟨rfl, hb9⟩
            replace hb := hb.trans (hb9.mono hb.size)
            rw [hz]
            clear hb9
            go_wp2_with fail
            refine (anyPathDrawn_s _ a1 len1 cap1 (later HB1.out hb) c1).mono ?_
            rintro e wt ⟨st, hst, rfl, hb9⟩
            replace hb := hb.trans (hb9.mono hb.size)
            clear hb9
            go_wp2_with fail
            refine (parentOf_impl st _ (by unfold maxLen; omega)).mono ?_
            rintro e wu ⟨rfl, hb9⟩
            replace hb := hb.trans (hb9.mono hb.size)
            rw [strV_eq]
            clear hb9
            go_wp2_with fail
            refine (parentOf_spec st _ (by unfold maxLen; omega)).mono ?_
            rintro e wv ⟨rfl, hb9⟩
            replace hb := hb.trans (hb9.mono hb.size)
            rw [strV_eq]
            clear hb9
            go_wp2_with fail
            refine (pathOK_impl st _ (by unfold maxLen; omega)).mono ?_
            rintro e wz ⟨rfl, hb9⟩
            replace hb := hb.trans (hb9.mono hb.size)
            clear hb9
            go_wp2_with fail
            refine (pathOK_spec st _).mono ?_
            rintro e wz ⟨rfl, hb9⟩
            replace hb := hb.trans (hb9.mono hb.size)
            clear hb9
            go_wp2_with fail
            refine (partOK_impl st _).mono ?_
            rintro e wz ⟨rfl, hb9⟩
            replace hb := hb.trans (hb9.mono hb.size)
            clear hb9
            go_wp2_with fail
            refine (partOK_spec st _).mono ?_
            rintro e wy ⟨rfl, rfl⟩
            go_wp2_with fail
            go_ret
            exact ⟨rfl, hb⟩
        · go_wp2_with fail
          refine (isBelow_spec sx sb _).mono ?_
          rintro e wz ⟨rfl, hb9⟩
          replace hb := hb.trans (hb9.mono hb.size)
          rw [hu]
          clear hb9
          go_wp2_with fail
          refine (anyPathDrawn_s _ a1 len1 cap1 (later HB1.out hb) c1).mono ?_
          rintro e wt ⟨st, hst, rfl, hb9⟩
          replace hb := hb.trans (hb9.mono hb.size)
          clear hb9
          go_wp2_with fail
          refine (parentOf_impl st _ (by unfold maxLen; omega)).mono ?_
          rintro e wu ⟨rfl, hb9⟩
          replace hb := hb.trans (hb9.mono hb.size)
          rw [strV_eq]
          clear hb9
          go_wp2_with fail
          refine (parentOf_spec st _ (by unfold maxLen; omega)).mono ?_
          rintro e wv ⟨rfl, hb9⟩
          replace hb := hb.trans (hb9.mono hb.size)
          rw [strV_eq]
          clear hb9
          go_wp2_with fail
          refine (pathOK_impl st _ (by unfold maxLen; omega)).mono ?_
          rintro e wz ⟨rfl, hb9⟩
          replace hb := hb.trans (hb9.mono hb.size)
          clear hb9
          go_wp2_with fail
          refine (pathOK_spec st _).mono ?_
          rintro e wz ⟨rfl, hb9⟩
          replace hb := hb.trans (hb9.mono hb.size)
          clear hb9
          go_wp2_with fail
          refine (partOK_impl st _).mono ?_
          rintro e wz ⟨rfl, hb9⟩
          replace hb := hb.trans (hb9.mono hb.size)
          clear hb9
          go_wp2_with fail
          refine (partOK_spec st _).mono ?_
          rintro e wy ⟨rfl, rfl⟩
          go_wp2_with fail
          go_ret
          exact ⟨rfl, hb⟩
      · have hlp := less_parent HA.out hz0
        have he := isEmpty_false (show 0 < (parB sa).size by omega)
        clear hz0
        go_wp2_with fail
        refine (pathLess_impl (parB sa) sa _ (by unfold maxLen; omega) (by unfold maxLen; omega)).mono ?_
        rintro e wz ⟨rfl, hb9⟩
        replace hb := hb.trans (hb9.mono hb.size)
        rw [hlp]
        clear hb9
        go_wp2_with fail
        refine (mix_any _ 3 a1 len1 cap1 (later HB1.out hb) h1 c1 (by omega) HN1.out).mono ?_
        rintro e wm ⟨A', n', cap', rfl, hc', hby, hb9⟩
        replace hb := hb.trans (hb9.mono hb.size)
        have HBY := Lib.hid hby
        clear hb9 hby
        go_wp2_with fail
        refine (pathDrawn_s _ A' n' cap' HBY.out hc').mono ?_
        rintro e wn ⟨sx, hx, rfl, hb9⟩
        replace hb := hb.trans (hb9.mono hb.size)
        have HX := Lib.hid hx
        have hsx := path_size hx
        clear hb9 HBY hx
        rcases Bool.eq_false_or_eq_true (isBelowB sx sb) with hu | hu
        · go_wp2_with fail
          refine (isBelow_spec sx sb _).mono ?_
          rintro e wz ⟨rfl, hb9⟩
          replace hb := hb.trans (hb9.mono hb.size)
          rw [hu]
          clear hb9
          go_wp2_with fail
          refine (pathLess_spec sb sa _).mono ?_
          rintro e wz ⟨rfl, hb9⟩
          replace hb := hb.trans (hb9.mono hb.size)
          rw [hy]
          clear hb9
          rcases Bool.eq_false_or_eq_true (lessB sa sx) with hz | hz
          · go_wp2_with fail
            refine (pathLess_spec sa sx _).mono ?_
            rintro e wz ⟨rfl, hb9⟩
            replace hb := hb.trans (hb9.mono hb.size)
            rw [hz]
            clear hb9
            have hbt := less_between HA.out HSB.out HX.out hu hy hz
            go_wp2_with fail
            refine (isBelow_impl sa sb _ (by unfold maxLen; omega) (by unfold maxLen; omega)).mono ?_
            rintro e wz ⟨rfl, hb9⟩
            replace hb := hb.trans (hb9.mono hb.size)
            rw [hbt]
            clear hb9
            go_wp2_with fail
            refine (anyPathDrawn_s _ a1 len1 cap1 (later HB1.out hb) c1).mono ?_
            rintro e wt ⟨st, hst, rfl, hb9⟩
            replace hb := hb.trans (hb9.mono hb.size)
            clear hb9
            go_wp2_with fail
            refine (parentOf_impl st _ (by unfold maxLen; omega)).mono ?_
            rintro e wu ⟨rfl, hb9⟩
            replace hb := hb.trans (hb9.mono hb.size)
            rw [strV_eq]
            clear hb9
            go_wp2_with fail
            refine (parentOf_spec st _ (by unfold maxLen; omega)).mono ?_
            rintro e wv ⟨rfl, hb9⟩
            replace hb := hb.trans (hb9.mono hb.size)
            rw [strV_eq]
            clear hb9
            go_wp2_with fail
            refine (pathOK_impl st _ (by unfold maxLen; omega)).mono ?_
            rintro e wz ⟨rfl, hb9⟩
            replace hb := hb.trans (hb9.mono hb.size)
            clear hb9
            go_wp2_with fail
            refine (pathOK_spec st _).mono ?_
            rintro e wz ⟨rfl, hb9⟩
            replace hb := hb.trans (hb9.mono hb.size)
            clear hb9
            go_wp2_with fail
            refine (partOK_impl st _).mono ?_
            rintro e wz ⟨rfl, hb9⟩
            replace hb := hb.trans (hb9.mono hb.size)
            clear hb9
            go_wp2_with fail
            refine (partOK_spec st _).mono ?_
            rintro e wy ⟨rfl, rfl⟩
            go_wp2_with fail
            go_ret
            exact ⟨rfl, hb⟩
          · go_wp2_with fail
            refine (pathLess_spec sa sx _).mono ?_
            rintro e wz ⟨rfl, hb9⟩
            replace hb := hb.trans (hb9.mono hb.size)
            rw [hz]
            clear hb9
            go_wp2_with fail
            refine (anyPathDrawn_s _ a1 len1 cap1 (later HB1.out hb) c1).mono ?_
            rintro e wt ⟨st, hst, rfl, hb9⟩
            replace hb := hb.trans (hb9.mono hb.size)
            clear hb9
            go_wp2_with fail
            refine (parentOf_impl st _ (by unfold maxLen; omega)).mono ?_
            rintro e wu ⟨rfl, hb9⟩
            replace hb := hb.trans (hb9.mono hb.size)
            rw [strV_eq]
            clear hb9
            go_wp2_with fail
            refine (parentOf_spec st _ (by unfold maxLen; omega)).mono ?_
            rintro e wv ⟨rfl, hb9⟩
            replace hb := hb.trans (hb9.mono hb.size)
            rw [strV_eq]
            clear hb9
            go_wp2_with fail
            refine (pathOK_impl st _ (by unfold maxLen; omega)).mono ?_
            rintro e wz ⟨rfl, hb9⟩
            replace hb := hb.trans (hb9.mono hb.size)
            clear hb9
            go_wp2_with fail
            refine (pathOK_spec st _).mono ?_
            rintro e wz ⟨rfl, hb9⟩
            replace hb := hb.trans (hb9.mono hb.size)
            clear hb9
            go_wp2_with fail
            refine (partOK_impl st _).mono ?_
            rintro e wz ⟨rfl, hb9⟩
            replace hb := hb.trans (hb9.mono hb.size)
            clear hb9
            go_wp2_with fail
            refine (partOK_spec st _).mono ?_
            rintro e wy ⟨rfl, rfl⟩
            go_wp2_with fail
            go_ret
            exact ⟨rfl, hb⟩
        · go_wp2_with fail
          refine (isBelow_spec sx sb _).mono ?_
          rintro e wz ⟨rfl, hb9⟩
          replace hb := hb.trans (hb9.mono hb.size)
          rw [hu]
          clear hb9
          go_wp2_with fail
          refine (anyPathDrawn_s _ a1 len1 cap1 (later HB1.out hb) c1).mono ?_
          rintro e wt ⟨st, hst, rfl, hb9⟩
          replace hb := hb.trans (hb9.mono hb.size)
          clear hb9
          go_wp2_with fail
          refine (parentOf_impl st _ (by unfold maxLen; omega)).mono ?_
          rintro e wu ⟨rfl, hb9⟩
          replace hb := hb.trans (hb9.mono hb.size)
          rw [strV_eq]
          clear hb9
          go_wp2_with fail
          refine (parentOf_spec st _ (by unfold maxLen; omega)).mono ?_
          rintro e wv ⟨rfl, hb9⟩
          replace hb := hb.trans (hb9.mono hb.size)
          rw [strV_eq]
          clear hb9
          go_wp2_with fail
          refine (pathOK_impl st _ (by unfold maxLen; omega)).mono ?_
          rintro e wz ⟨rfl, hb9⟩
          replace hb := hb.trans (hb9.mono hb.size)
          clear hb9
          go_wp2_with fail
          refine (pathOK_spec st _).mono ?_
          rintro e wz ⟨rfl, hb9⟩
          replace hb := hb.trans (hb9.mono hb.size)
          clear hb9
          go_wp2_with fail
          refine (partOK_impl st _).mono ?_
          rintro e wz ⟨rfl, hb9⟩
          replace hb := hb.trans (hb9.mono hb.size)
          clear hb9
          go_wp2_with fail
          refine (partOK_spec st _).mono ?_
          rintro e wy ⟨rfl, rfl⟩
          go_wp2_with fail
          go_ret
          exact ⟨rfl, hb⟩
    · obtain rfl := less_total HA.out HSB.out hx0 hy
      go_wp2_with fail
      refine (pathLess_impl sa sa _ (by unfold maxLen; omega) (by unfold maxLen; omega)).mono ?_
      rintro e wz ⟨rfl, hb9⟩
      replace hb := hb.trans (hb9.mono hb.size)
      rw [hx0]
      clear hb9
      go_wp2_with fail
      refine (pathLess_impl sa sa _ (by unfold maxLen; omega) (by unfold maxLen; omega)).mono ?_
      rintro e wz ⟨rfl, hb9⟩
      replace hb := hb.trans (hb9.mono hb.size)
      rw [hx0]
      clear hb9
      go_wp2_with fail
      refine (pathLess_impl sa sa _ (by unfold maxLen; omega) (by unfold maxLen; omega)).mono ?_
      rintro e wz ⟨rfl, hb9⟩
      replace hb := hb.trans (hb9.mono hb.size)
      rw [hy]
      clear hb9
      by_cases hz0 : (parB sa).size = 0
      · have he := isEmpty_true hz0
        clear hz0
        go_wp2_with fail
        refine (mix_any _ 3 a1 len1 cap1 (later HB1.out hb) h1 c1 (by omega) HN1.out).mono ?_
        rintro e wm ⟨A', n', cap', rfl, hc', hby, hb9⟩
        replace hb := hb.trans (hb9.mono hb.size)
        have HBY := Lib.hid hby
        clear hb9 hby
        go_wp2_with fail
        refine (pathDrawn_s _ A' n' cap' HBY.out hc').mono ?_
        rintro e wn ⟨sx, hx, rfl, hb9⟩
        replace hb := hb.trans (hb9.mono hb.size)
        have HX := Lib.hid hx
        have hsx := path_size hx
        clear hb9 HBY hx
        rcases Bool.eq_false_or_eq_true (isBelowB sx sa) with hu | hu
        · go_wp2_with fail
          refine (isBelow_spec sx sa _).mono ?_
          rintro e wz ⟨rfl, hb9⟩
          replace hb := hb.trans (hb9.mono hb.size)
          rw [hu]
          clear hb9
          go_wp2_with fail
          refine (pathLess_spec sa sa _).mono ?_
          rintro e wz ⟨rfl, hb9⟩
          replace hb := hb.trans (hb9.mono hb.size)
          rw [hy]
          clear hb9
          go_wp2_with fail
          refine (anyPathDrawn_s _ a1 len1 cap1 (later HB1.out hb) c1).mono ?_
          rintro e wt ⟨st, hst, rfl, hb9⟩
          replace hb := hb.trans (hb9.mono hb.size)
          clear hb9
          go_wp2_with fail
          refine (parentOf_impl st _ (by unfold maxLen; omega)).mono ?_
          rintro e wu ⟨rfl, hb9⟩
          replace hb := hb.trans (hb9.mono hb.size)
          rw [strV_eq]
          clear hb9
          go_wp2_with fail
          refine (parentOf_spec st _ (by unfold maxLen; omega)).mono ?_
          rintro e wv ⟨rfl, hb9⟩
          replace hb := hb.trans (hb9.mono hb.size)
          rw [strV_eq]
          clear hb9
          go_wp2_with fail
          refine (pathOK_impl st _ (by unfold maxLen; omega)).mono ?_
          rintro e wz ⟨rfl, hb9⟩
          replace hb := hb.trans (hb9.mono hb.size)
          clear hb9
          go_wp2_with fail
          refine (pathOK_spec st _).mono ?_
          rintro e wz ⟨rfl, hb9⟩
          replace hb := hb.trans (hb9.mono hb.size)
          clear hb9
          go_wp2_with fail
          refine (partOK_impl st _).mono ?_
          rintro e wz ⟨rfl, hb9⟩
          replace hb := hb.trans (hb9.mono hb.size)
          clear hb9
          go_wp2_with fail
          refine (partOK_spec st _).mono ?_
          rintro e wy ⟨rfl, rfl⟩
          go_wp2_with fail
          go_ret
          exact ⟨rfl, hb⟩
        · go_wp2_with fail
          refine (isBelow_spec sx sa _).mono ?_
          rintro e wz ⟨rfl, hb9⟩
          replace hb := hb.trans (hb9.mono hb.size)
          rw [hu]
          clear hb9
          go_wp2_with fail
          refine (anyPathDrawn_s _ a1 len1 cap1 (later HB1.out hb) c1).mono ?_
          rintro e wt ⟨st, hst, rfl, hb9⟩
          replace hb := hb.trans (hb9.mono hb.size)
          clear hb9
          go_wp2_with fail
          refine (parentOf_impl st _ (by unfold maxLen; omega)).mono ?_
          rintro e wu ⟨rfl, hb9⟩
          replace hb := hb.trans (hb9.mono hb.size)
          rw [strV_eq]
          clear hb9
          go_wp2_with fail
          refine (parentOf_spec st _ (by unfold maxLen; omega)).mono ?_
          rintro e wv ⟨rfl, hb9⟩
          replace hb := hb.trans (hb9.mono hb.size)
          rw [strV_eq]
          clear hb9
          go_wp2_with fail
          refine (pathOK_impl st _ (by unfold maxLen; omega)).mono ?_
          rintro e wz ⟨rfl, hb9⟩
          replace hb := hb.trans (hb9.mono hb.size)
          clear hb9
          go_wp2_with fail
          refine (pathOK_spec st _).mono ?_
          rintro e wz ⟨rfl, hb9⟩
          replace hb := hb.trans (hb9.mono hb.size)
          clear hb9
          go_wp2_with fail
          refine (partOK_impl st _).mono ?_
          rintro e wz ⟨rfl, hb9⟩
          replace hb := hb.trans (hb9.mono hb.size)
          clear hb9
          go_wp2_with fail
          refine (partOK_spec st _).mono ?_
          rintro e wy ⟨rfl, rfl⟩
          go_wp2_with fail
          go_ret
          exact ⟨rfl, hb⟩
      · have hlp := less_parent HA.out hz0
        have he := isEmpty_false (show 0 < (parB sa).size by omega)
        clear hz0
        go_wp2_with fail
        refine (pathLess_impl (parB sa) sa _ (by unfold maxLen; omega) (by unfold maxLen; omega)).mono ?_
        rintro e wz ⟨rfl, hb9⟩
        replace hb := hb.trans (hb9.mono hb.size)
        rw [hlp]
        clear hb9
        go_wp2_with fail
        refine (mix_any _ 3 a1 len1 cap1 (later HB1.out hb) h1 c1 (by omega) HN1.out).mono ?_
        rintro e wm ⟨A', n', cap', rfl, hc', hby, hb9⟩
        replace hb := hb.trans (hb9.mono hb.size)
        have HBY := Lib.hid hby
        clear hb9 hby
        go_wp2_with fail
        refine (pathDrawn_s _ A' n' cap' HBY.out hc').mono ?_
        rintro e wn ⟨sx, hx, rfl, hb9⟩
        replace hb := hb.trans (hb9.mono hb.size)
        have HX := Lib.hid hx
        have hsx := path_size hx
        clear hb9 HBY hx
        rcases Bool.eq_false_or_eq_true (isBelowB sx sa) with hu | hu
        · go_wp2_with fail
          refine (isBelow_spec sx sa _).mono ?_
          rintro e wz ⟨rfl, hb9⟩
          replace hb := hb.trans (hb9.mono hb.size)
          rw [hu]
          clear hb9
          go_wp2_with fail
          refine (pathLess_spec sa sa _).mono ?_
          rintro e wz ⟨rfl, hb9⟩
          replace hb := hb.trans (hb9.mono hb.size)
          rw [hy]
          clear hb9
          go_wp2_with fail
          refine (anyPathDrawn_s _ a1 len1 cap1 (later HB1.out hb) c1).mono ?_
          rintro e wt ⟨st, hst, rfl, hb9⟩
          replace hb := hb.trans (hb9.mono hb.size)
          clear hb9
          go_wp2_with fail
          refine (parentOf_impl st _ (by unfold maxLen; omega)).mono ?_
          rintro e wu ⟨rfl, hb9⟩
          replace hb := hb.trans (hb9.mono hb.size)
          rw [strV_eq]
          clear hb9
          go_wp2_with fail
          refine (parentOf_spec st _ (by unfold maxLen; omega)).mono ?_
          rintro e wv ⟨rfl, hb9⟩
          replace hb := hb.trans (hb9.mono hb.size)
          rw [strV_eq]
          clear hb9
          go_wp2_with fail
          refine (pathOK_impl st _ (by unfold maxLen; omega)).mono ?_
          rintro e wz ⟨rfl, hb9⟩
          replace hb := hb.trans (hb9.mono hb.size)
          clear hb9
          go_wp2_with fail
          refine (pathOK_spec st _).mono ?_
          rintro e wz ⟨rfl, hb9⟩
          replace hb := hb.trans (hb9.mono hb.size)
          clear hb9
          go_wp2_with fail
          refine (partOK_impl st _).mono ?_
          rintro e wz ⟨rfl, hb9⟩
          replace hb := hb.trans (hb9.mono hb.size)
          clear hb9
          go_wp2_with fail
          refine (partOK_spec st _).mono ?_
          rintro e wy ⟨rfl, rfl⟩
          go_wp2_with fail
          go_ret
          exact ⟨rfl, hb⟩
        · go_wp2_with fail
          refine (isBelow_spec sx sa _).mono ?_
          rintro e wz ⟨rfl, hb9⟩
          replace hb := hb.trans (hb9.mono hb.size)
          rw [hu]
          clear hb9
          go_wp2_with fail
          refine (anyPathDrawn_s _ a1 len1 cap1 (later HB1.out hb) c1).mono ?_
          rintro e wt ⟨st, hst, rfl, hb9⟩
          replace hb := hb.trans (hb9.mono hb.size)
          clear hb9
          go_wp2_with fail
          refine (parentOf_impl st _ (by unfold maxLen; omega)).mono ?_
          rintro e wu ⟨rfl, hb9⟩
          replace hb := hb.trans (hb9.mono hb.size)
          rw [strV_eq]
          clear hb9
          go_wp2_with fail
          refine (parentOf_spec st _ (by unfold maxLen; omega)).mono ?_
          rintro e wv ⟨rfl, hb9⟩
          replace hb := hb.trans (hb9.mono hb.size)
          rw [strV_eq]
          clear hb9
          go_wp2_with fail
          refine (pathOK_impl st _ (by unfold maxLen; omega)).mono ?_
          rintro e wz ⟨rfl, hb9⟩
          replace hb := hb.trans (hb9.mono hb.size)
          clear hb9
          go_wp2_with fail
          refine (pathOK_spec st _).mono ?_
          rintro e wz ⟨rfl, hb9⟩
          replace hb := hb.trans (hb9.mono hb.size)
          clear hb9
          go_wp2_with fail
          refine (partOK_impl st _).mono ?_
          rintro e wz ⟨rfl, hb9⟩
          replace hb := hb.trans (hb9.mono hb.size)
          clear hb9
          go_wp2_with fail
          refine (partOK_spec st _).mono ?_
          rintro e wy ⟨rfl, rfl⟩
          go_wp2_with fail
          go_ret
          exact ⟨rfl, hb⟩

set_option maxRecDepth 100000 in
theorem walk (a0 : Option Addr) (len0 cap0 : Nat) (z0 : List Int) (a1 : Option Addr) (len1 cap1 : Nat) (z1 : List Int) (w : World) (w0 : IsRow .u8 w a0 len0 cap0 z0) (w1 : IsRow .u8 w a1 len1 cap1 z1) :
    Calls Try.prog 3 #[.slice a0 len0 cap0, .slice a1 len1 cap1] w fun e w' => e = .returned (.bool true) ∧ Below w.heap.size w w' := by
  by_cases h0 : len0 ≤ 1048576
  case neg =>
    have hd0 : decide ((1048576 : Int) < (len0 : Int)) = true := by simp; omega
    go_enter Try.func3, Try.ntmps3
    go_wp2_with fail
    go_ret
    exact ⟨rfl, Below.refl _ _⟩
  by_cases h1 : len1 ≤ 1048576
  case neg =>
    have hd0 : decide ((1048576 : Int) < (len0 : Int)) = false := by simp; omega
    have hd1 : decide ((1048576 : Int) < (len1 : Int)) = true := by simp; omega
    go_enter Try.func3, Try.ntmps3
    go_wp2_with fail
    go_ret
    exact ⟨rfl, Below.refl _ _⟩
  obtain ⟨b0, c0, _⟩ := w0.byts h0
  obtain ⟨b1, c1, n1⟩ := w1.byts h1
  exact walk_small a0 len0 cap0 a1 len1 cap1 w b0 c0 h0 b1 c1 h1 n1

theorem own : ownKnob Try.prog.godebug = none := by kernel_rfl
theorem laidOut : laidOutB Try.prog = true := by kernel_rfl

set_option maxRecDepth 100000 in
theorem lifted (os : Os) (started : os.Started) (H : Type) (enc : TypeId × Value → H) :
    ReturnsInHanded {} Try.checked os 3 .any (Rows.fnPathsSpec.pre6 enc Try.prog Try.f3 Rows.fnPathsRow.domain false) (Rows.fnPathsSpec.post enc Try.prog Try.f3 false true false false) := by
  refine returnsInHanded_of_change (C := Try.checked) own started (by kernel_rfl) Try.func3
    (ChangeSpec.witness6 (enc := enc) (C := Try.checked) false ⟨#[], #[.slice none 0 0, .slice none 0 0], []⟩ 8 (by kernel_rfl) (by kernel_rfl) (by kernel_rfl) (by kernel_rfl)) ?_
  intro W base args ds gs before hval0 hW hcnd _
  have hval : ∀ (j : Nat) t v, Try.f3.params[j]? = some t → args[j]? = some v → Value.okWide Try.prog W .any base t v := hval0
  have hW' := hW
  obtain ⟨p, q, hA0, hV, rfl, hfz, hnd⟩ := hW
  have hA : DataW.TrodAll enc Try.prog W 0 (fun _ => true) true Try.f3.params.toList args.toList ds p := hA0
  rw [Try.params3] at hA hval
  obtain ⟨v0, vs0, d0, ds0, p0, q0, hargs, rfl, rfl, h0, r0⟩ := trodAll_cons hA
  obtain ⟨v1, vs1, d1, ds1, p1, q1, rfl, rfl, rfl, h1, r1⟩ := trodAll_cons r0
  obtain ⟨rfl, rfl, rfl⟩ := trodAll_nil r1
  obtain rfl : args = #[v0, v1] := by cases args; simp_all
  obtain ⟨rfl, rfl⟩ := trodVars_none hV
  obtain ⟨a0, len0, cap0, rfl⟩ := okWide_slice Try.underlying22 (hval 0 22 v0 rfl rfl)
  have k0 := h0
  have lt0 : ∀ x ∈ p0, x.block < W.heap.size := by obtain ⟨m, hm⟩ := k0; exact DataW.trod_lt m _ _ _ hm
  obtain ⟨z0, w0⟩ : ∃ zs, IsRow .u8 W a0 len0 cap0 zs := by
    obtain ⟨fuel, hf⟩ := h0
    rcases open_ints Try.underlying22 Try.underlying5 (by kernel_rfl) hf with ⟨hcs, _⟩ | ⟨x, l, c, zs, hcs, _, hl, hm, hz, _, hcell, hwz⟩
    · simp [Value.cells] at hcs
      obtain ⟨rfl, rfl, rfl⟩ := hcs
      exact ⟨[], .inl ⟨rfl, rfl, rfl, rfl⟩⟩
    · simp [Value.cells] at hcs
      obtain ⟨rfl, rfl, rfl⟩ := hcs
      exact ⟨zs, .inr ⟨_, rfl, hl, hm, by simpa using hz, hcell, hwz⟩⟩
  obtain ⟨a1, len1, cap1, rfl⟩ := okWide_slice Try.underlying22 (hval 1 22 v1 rfl rfl)
  have k1 := h1
  have lt1 : ∀ x ∈ p1, x.block < W.heap.size := by obtain ⟨m, hm⟩ := k1; exact DataW.trod_lt m _ _ _ hm
  obtain ⟨z1, w1⟩ : ∃ zs, IsRow .u8 W a1 len1 cap1 zs := by
    obtain ⟨fuel, hf⟩ := h1
    rcases open_ints Try.underlying22 Try.underlying5 (by kernel_rfl) hf with ⟨hcs, _⟩ | ⟨x, l, c, zs, hcs, _, hl, hm, hz, _, hcell, hwz⟩
    · simp [Value.cells] at hcs
      obtain ⟨rfl, rfl, rfl⟩ := hcs
      exact ⟨[], .inl ⟨rfl, rfl, rfl, rfl⟩⟩
    · simp [Value.cells] at hcs
      obtain ⟨rfl, rfl, rfl⟩ := hcs
      exact ⟨zs, .inr ⟨_, rfl, hl, hm, by simpa using hz, hcell, hwz⟩⟩
  clear hA0 hval0
  refine (walk a0 len0 cap0 z0 a1 len1 cap1 z1 W w0 w1).mono fun e W' ⟨he, bel⟩ => ?_
  subst he
  exact ⟨_, rfl, _, _, _, [], _, [], hW', trodAll_mk1 (shut_bool Try.underlying4 _), (trodAll_cons_mk (Below.trod laidOut (by kernel_rfl) (of_decide_eq_true (by kernel_rfl)) k0 bel lt0) (trodAll_cons_mk (Below.trod laidOut (by kernel_rfl) (of_decide_eq_true (by kernel_rfl)) k1 bel lt1) trodAll_mk0)), rfl, bel.frame _, fun h => by cases h⟩

theorem over : Rows.fnPathsRow.holds Try.pinned (OpenSpec.ofChange Rows.fnPathsSpec) :=
  OpenClaim.holds_of_wide 3 Try.f3 rfl rfl rfl rfl rfl rfl rfl ⟨rfl, rfl, rfl, rfl, rfl⟩ rfl rfl rfl rfl rfl (by kernel_rfl) Try.func3 (by kernel_rfl)
    (of_decide_eq_true (by kernel_rfl)) (by unfold Func.isWrapper; first | (rw [if_pos (by decide +kernel)]; kernel_rfl) | (rw [if_neg (by decide +kernel)]; exact ⟨rfl, rfl⟩))
    (fun os started H enc _ => lifted os started H enc)

theorem proved : Rows.FnPathsSaid := over

end Go.Proofs.Ytpklkajpohkhkaa.LawPaths
