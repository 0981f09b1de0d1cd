/- For all two slices of bytes, FnApply answers true: of a layer and a tree that are drawn out of them Apply makes what its model makes; every record of the layer stands in the answer or hides, what is neither named nor cut off stays, and to apply the layer once more changes nothing. Conditions: the table of kinds and the two sentinels hold what their own initialisers lay (tied to the program's text by the given tie). -/
import Derived.Test.YtjiljnfiofmpaaaGreatDoorCards
import Derived.Test.YtjiljnfiofmpaaaGreatDoorTie
import Derived.Test.YtjiljnfiofmpaaaGreatDoorBun26
import Derived.Test.YtjiljnfiofmpaaaGreatDoorBun31
import Derived.Test.YtjiljnfiofmpaaaGreatDoorBun32
import Derived.Test.YtjiljnfiofmpaaaGreatDoorBun33
import Derived.Test.YtjiljnfiofmpaaaGreatDoorBun28
import Derived.Test.YtjiljnfiofmpaaaGreatDoorBun7
import Derived.Deep.RegionHeld3
import Derived.WalkKit
import Derived.ProofKit
import Derived.OpenShut
import Derived.ShutString
import Derived.ChangeOld
import Derived.ChangeVars
import Derived.OpenVars
import Derived.Below
import Derived.Lay
import Derived.LaidMore
import Derived.Stop.Joined
import Derived.SevenTiedAt
import Derived.Deep.DeepHandedRow
import Derived.Lib.LaidTab
namespace Go.Proofs.YtjiljnfiofmpaaaGreatDoor.LawFnApply
open Go.ChangeShapes Go.WideShapes Go.ChangeAt Go.RowKit
open Go.ChangeMaps (open_string shut_string)
open Recs Paths Draw
set_option linter.unusedVariables false
set_option maxRecDepth 100000

theorem byts_wide {w : World} {B B' : Nat} {A : Option Addr} {n : Nat} (h : Byts w B A n) (hB : B ≤ B') : Byts w B' A n := by
  refine ⟨h.1, fun hn => ?_⟩
  obtain ⟨b, off, e, hlt, hc⟩ := h.2 hn
  exact ⟨b, off, e, by omega, hc⟩
theorem lim_full {T : List R} (h : 24 < T.length) : limC T = 7 ∧ limL T = [] := ⟨if_pos h, if_pos h⟩
theorem lim_fits {T : List R} (h : ¬ 24 < T.length) : limC T = 0 ∧ limL T = T := ⟨if_neg h, if_neg h⟩
theorem short_path {t : List R} (h : ∀ x ∈ t, pathB x.p.data.toList = true) : ∀ r ∈ t, r.p.size ≤ maxLen := fun r hr => by
  have h35 : r.p.size ≤ 35 := by rw [Lib.size_eq]; exact pathB_len (h r hr)
  unfold maxLen
  omega
/-- Where a record of a list is found. -/
theorem at_some {T : List R} {q : ByteArray} {x : R} (h : recAt T q = some x) : ∃ j : Nat, ∃ hj : j < T.length, atL T q = (j : Int) ∧ T[j] = x := by
  rcases atL_recAt T q with ⟨_, hn⟩ | ⟨j, hj, ha, hn⟩
  · rw [h] at hn; cases hn
  · rw [h] at hn
    exact ⟨j, hj, ha, (Option.some.inj hn).symm⟩
theorem at_none {T : List R} {q : ByteArray} (h : recAt T q = none) : atL T q = -1 := by
  rcases atL_recAt T q with ⟨ha, _⟩ | ⟨j, hj, ha, hn⟩
  · exact ha
  · rw [h] at hn; cases hn

set_option maxHeartbeats 8000000 in
theorem walk_small (a0 : Option Addr) (len0 cap0 : Nat) (a1 : Option Addr) (len1 cap1 : Nat) (w : World) (B0 : Byts w w.heap.size a0 len0) (c0 : len0 ≤ cap0) (h0 : len0 ≤ 1048576) (B1 : Byts w w.heap.size a1 len1) (c1 : len1 ≤ cap1) (h1 : len1 ≤ 1048576) (x y : Addr) (hT : Three w x y) :
    Calls Tryz.prog 4 #[.slice a0 len0 cap0, .slice a1 len1 cap1] w fun e w' => e = .returned (.bool true) ∧ Below w.heap.size w w' := by
  have HB0 := Lib.hid B0
  have HB1 := Lib.hid B1
  have HT := Lib.hid hT
  have hd0 : decide ((1048576 : Int) < (len0 : Int)) = false := by simp; omega
  have hd1 : decide ((1048576 : Int) < (len1 : Int)) = false := by simp; omega
  clear B0 B1 hT
  go_enter Tryz.func4, Tryz.ntmps4
  go_wp2_with fail
  refine (layerDrawn_any w a0 len0 cap0 HB0.out c0).mono ?_
  rintro e w1 ⟨v, l, rfl, hok, hb1, hrl, _⟩
  obtain ⟨vA, vcap, rfl⟩ := hrl.form
  have HOK := Lib.hid hok
  have HRL := Lib.hid hrl
  have HTD := treeDrawn_any w1 a1 len1 cap1 (byts_wide (HB1.out.below hb1) hb1.size) c1
  clear hok hrl
  go_wp2_with fail
  refine HTD.mono ?_
  rintro e w2 ⟨u, t, rfl, htr, hto, hb2, hrt, _⟩
  have c2 := hb1.trans (hb2.mono hb1.size)
  obtain ⟨uA, ucap, rfl⟩ := own_form hrt.2.1
  have HTR := Lib.hid htr
  have HTO := Lib.hid hto
  have HSL : Hid (∀ W, Below w2.heap.size w2 W → RecSl W (.slice vA l.length vcap) l) := fun W hW => ((HRL.out.below hb2).below hW).sl
  have HRT : Hid (∀ W, Below w2.heap.size w2 W → RowN W w1.heap.size (.slice uA t.length ucap) t.length t) := fun W hW => hrt.below hW
  have HTT : Hid (∀ W, Below w2.heap.size w2 W → Three W x y) := fun W hW => HT.out.below (c2.trans (hW.mono c2.size)) (Nat.le_refl _)
  have hl16 := layer_len HOK.out
  have ht24 := HTR.out.len
  have HLY := Lib.hid (layer_is HOK.out)
  have HLP := Lib.hid (short_path HLY.out.path)
  have HTP := Lib.hid (short_path HTR.out.is.path)
  have HC0 : Hid (codeLN l t = 0) := ln_fine (by omega) HOK.out (treeOK_of HTR.out)
  have HAC := Lib.hid (app_fine HC0.out)
  have HCH := Lib.hid (chg_fine HC0.out)
  clear htr hto hrt HTD
  have b2 := Below.refl w2.heap.size w2
  have HAI := apply_impl _ _ l t x y w2 (HSL.out _ b2) (HRT.out _ b2).sl (by omega) (by omega) HLP.out HTP.out (HTT.out _ b2)
  rw [HAC.out.1, HAC.out.2] at HAI
  go_wp2_with fail
  refine HAI.mono ?_
  rintro e w3 ⟨z1, rfl, b3, hr1⟩
  have HR1 := Lib.hid hr1
  clear hr1 HAI
  have HAS := apply_spec _ _ l t _ w3 (HSL.out _ b3) (HRT.out _ b3) (by omega) (by omega)
  rw [HAC.out.1, HAC.out.2] at HAS
  go_wp2_with fail
  refine HAS.mono ?_
  rintro e w4 ⟨z2, rfl, hb4, hr2⟩
  have b4 := b3.trans (hb4.mono b3.size)
  have HR2 := Lib.hid hr2
  have HR1' := Lib.hid (HR1.out.below hb4)
  clear hr2 HAS
  have HCI := changes_impl _ _ l t x y w4 (HSL.out _ b4) (HRT.out _ b4).sl (by omega) (by omega) HLP.out HTP.out (HTT.out _ b4)
  rw [HCH.out, HC0.out] at HCI
  go_wp2_with fail
  refine HCI.mono ?_
  rintro e w5 ⟨rfl, hb5⟩
  have b5 := b4.trans (hb5.mono b4.size)
  have HR1b := Lib.hid (HR1'.out.below hb5)
  have HR2b := Lib.hid (HR2.out.below hb5)
  clear HR1 HR1' HR2 HCI HAC HCH hb4 hb5 b3 b4
  generalize hTT : applyL l t = T at *
  have HTE := Lib.hid hTT
  clear hTT
  obtain ⟨zA, zcap, rfl⟩ := own_form HR1b.out.2.1
  obtain ⟨yA, ycap, rfl⟩ := own_form HR2b.out.2.1
  have HSN1 := sameNodes_any _ _ (limL T) (limL T) w5 HR1b.out.sl HR2b.out.sl (by have := lim_le T; omega)
  rw [decide_eq_true rfl] at HSN1
  have HQL : Hid ((limL T).length ≤ 24) := lim_le T
  generalize hQ : limL T = Q at *
  generalize hc : limC T = c at *
  by_cases h24 : 24 < T.length
  · obtain rfl : c = 7 := by rw [← hc]; exact (lim_full h24).1
    have hQ24 := HQL.out
    clear hc hQ h24
    go_wp2_with fail
    refine HSN1.mono ?_
    rintro e w6 ⟨rfl, n6, rfl⟩
    have b6 : Below w2.heap.size w2 (w5.drewN n6) := below_drewN b5 n6
    have HSN2 := sameNodes_any _ _ Q t (w5.drewN n6) (HR2b.out.below (below_drewN (Below.refl _ _) n6)).sl (HRT.out _ b6).sl (by omega)
    generalize decide (Q = t) = q at *
    generalize decide (T = t) = q2 at *
    go_wp2_with fail
    refine HSN2.mono ?_
    rintro e w7 ⟨rfl, n7, rfl⟩
    cases q <;> cases q2 <;> (go_wp2_with fail; go_ret; exact ⟨rfl, c2.trans ((below_drewN b5 _).mono c2.size)⟩)
  obtain rfl : c = 0 := by rw [← hc]; exact (lim_fits h24).1
  obtain rfl : T = Q := by rw [← hQ]; exact (lim_fits h24).2.symm
  have HC00 := Lib.hid hc
  have HL00 := Lib.hid hQ
  clear hc hQ
  have HFULL : Hid (Tree T) := (by
    have h1 := apply_full HOK.out HTR.out (by rw [HTE.out]; omega)
    rw [HTE.out] at h1
    exact h1)
  have HTO2 : Hid (∀ r ∈ T, r.o = false) := (by
    have h1 := apply_flag HTO.out HLY.out HTR.out.is
    rw [HTE.out] at h1
    exact h1)
  have hT24 : T.length ≤ 24 := by omega
  have HTO3 := Lib.hid (treeOK_of HFULL.out)
  go_wp2_with fail
  refine HSN1.mono ?_
  rintro e w6 ⟨rfl, n6, rfl⟩
  have b6 : Below w2.heap.size w2 (w5.drewN n6) := below_drewN b5 n6
  have HSN2 := sameNodes_any _ _ T t (w5.drewN n6) (HR2b.out.below (below_drewN (Below.refl _ _) n6)).sl (HRT.out _ b6).sl (by omega)
  generalize decide (T = t) = q at *
  go_wp2_with fail
  refine HSN2.mono ?_
  rintro e w7 ⟨rfl, n7, rfl⟩
  have b7 : Below w2.heap.size w2 ((w5.drewN n6).drewN n7) := below_drewN b6 n7
  have hqq : (!q != !q) = false := by simp
  have HR1c := Lib.hid ((HR1b.out.below (below_drewN (Below.refl _ _) n6)).below (below_drewN (Below.refl _ _) n7))
  clear HSN1 HSN2 HR1b HR2b b6 b5
  generalize (w5.drewN n6).drewN n7 = W7 at *
  have HTK := treeOK_impl _ T x y W7 HR1c.out.sl (by omega) (short_path HFULL.out.is.path) (HTT.out _ b7)
  rw [HTO3.out] at HTK
  go_wp2_with fail
  refine HTK.mono ?_
  rintro e w8 ⟨rfl, hb8⟩
  have b8 := b7.trans (hb8.mono b7.size)
  have HX : Hid (∀ W, Below w8.heap.size w8 W → RowN W w2.heap.size (.slice zA T.length zcap) T.length T) := fun W hW => (HR1c.out.below hb8).below hW
  clear HTK HR1c b7 hb8
  go_wp2
  go_loopw [13] (fun i wr => ∃ k : Nat, k ≤ l.length ∧ i = .int .i64 k ∧ Below w8.heap.size w8 wr) (fun i _ => l.length - (intOf i).toNat)
  case atStart => exact ⟨0, by omega, rfl, Below.refl _ _⟩
  case round =>
    obtain ⟨k, hk, rfl, kw⟩ := hrel
    by_cases hlt : k < l.length
    · have HLS := HSL.out _ (b8.trans (kw.mono b8.size))
      obtain ⟨_, _, hsle, _, HS0⟩ := HLS
      cases hsle
      obtain ⟨b, off, hvA, hb, hcell⟩ := HS0 (by omega)
      cases hvA
      obtain ⟨e0, e1, e2, e3, e4⟩ := hcell k l[k] (by simp [hlt])
      have hi1 : (k : Int) < (l.length : Int) := by omega
      have hi0 : (0 : Int) ≤ (k : Int) := by omega
      have HFI := find_any _ T l[k].p wr (HX.out _ kw).sl (by omega)
      have HAR : Hid (recAt T l[k].p = if l[k].k = 4 then none else some (nodeOf l[k])) := (by
        have h1 := apply_rec HLY.out HTR.out.is (List.getElem_mem hlt)
        rw [HTE.out] at h1
        exact h1)
      have HXN := HX.out _ kw
      clear hcell HS0
      by_cases h4 : l[k].k = 4
      · have q4 : (l[k].k == 4) = true := by simp [h4]
        have ha := at_none (by rw [HAR.out, if_pos h4])
        rw [ha] at HFI
        clear ha h4 HXN
        go_wp2_with fail
        refine HFI.mono ?_
        rintro e w9 ⟨rfl, rfl⟩
        go_wp2_with fail
        go_quiet (fail)
        go_wp2_with fail
        go_roundw
        case rel => exact ⟨k + 1, by omega, by go_num, below_drewN kw _⟩
        case measure => simp [intOf]; omega
      · have q4 : (l[k].k == 4) = false := by simp [h4]
        obtain ⟨j, hj, ha, hTj⟩ := at_some (show recAt T l[k].p = some (nodeOf l[k]) by rw [HAR.out, if_neg h4])
        rw [ha] at HFI
        have hj0 : (0 : Int) ≤ (j : Int) := by omega
        have hj1 : (j : Int) < (T.length : Int) := by omega
        have hj2 : decide ((j : Int) < 0) = false := by simp
        have hj3 : decide ((0 : Int) ≤ (j : Int)) = true := by simp
        obtain ⟨_, _, _, hxe, _, HX0⟩ := HXN.sl
        cases hxe
        obtain ⟨b', off', hzA, hb', hcell'⟩ := HX0 (by omega)
        cases hzA
        obtain ⟨n0, n1, n2, n3⟩ := hcell' j T[j] (by simp [hj])
        rw [hTj] at n0 n1 n2 n3
        unfold nodeOf at n0 n1 n2 n3
        dsimp only at n0 n1 n2 n3
        clear ha h4 hTj hcell' HX0 HXN
        go_wp2_with fail
        refine HFI.mono ?_
        rintro e w9 ⟨rfl, rfl⟩
        go_wp2_with fail
        go_quiet (fail)
        go_wp2_with fail
        go_roundw
        case rel => exact ⟨k + 1, by omega, by go_num, below_drewN kw _⟩
        case measure => simp [intOf]; omega
    · obtain rfl : k = l.length := by omega
      have b9 := b8.trans (kw.mono b8.size)
      have HX9 : Hid (∀ W, Below wr.heap.size wr W → RowN W w2.heap.size (.slice zA T.length zcap) T.length T) := fun W hW => (HX.out _ kw).below hW
      clear HX b8 kw
      generalize hwo : wr = wo at *
      clear hwo
      go_wp2
      go_loopw [15] (fun i wx => ∃ k : Nat, k ≤ t.length ∧ i = .int .i64 k ∧ Below wo.heap.size wo wx) (fun i _ => t.length - (intOf i).toNat)
      case atStart => exact ⟨0, by omega, rfl, Below.refl _ _⟩
      case round =>
        obtain ⟨k, hk, rfl, kw⟩ := hrel
        have bw := b9.trans (kw.mono b9.size)
        by_cases hlt : k < t.length
        · have HTC := HRT.out _ bw
          obtain ⟨_, _, _, hte, _, HT0⟩ := HTC.sl
          cases hte
          obtain ⟨b, off, huA, hb, hcell⟩ := HT0 (by omega)
          cases huA
          have HCELL : Hid (∀ W, Below wr.heap.size wr W → NodCells W b (off + k * 4) t[k]) := fun W hW => (hcell k t[k] (by simp [hlt])).below hW hb
          obtain ⟨e0, e1, e2, e3⟩ := HCELL.out _ (Below.refl _ _)
          have hi1 : (k : Int) < (t.length : Int) := by omega
          have hi0 : (0 : Int) ≤ (k : Int) := by omega
          have HPK := Lib.hid (HTR.out.is.path _ (List.getElem_mem hlt))
          have hps := path_short HPK.out
          have HCL : Hid (codeLT l t[k].p = 0) := (by show _ = _; unfold codeLT; rw [if_neg (by omega), HOK.out]; rfl)
          have HAO : Hid (recAt l t[k].p = none → recAt T t[k].p = if cutsL l t[k].p then none else some t[k]) := fun hn => by
            have h1 := apply_old HLY.out HTR.out.is (List.getElem_mem hlt) hn
            rw [HTE.out] at h1
            exact h1
          have HFR := findRecord_spec _ l t[k].p wr (HSL.out _ bw) (by omega)
          clear hcell HT0 HTC
          rcases atL_recAt l t[k].p with ⟨ha, hn⟩ | ⟨i, hi, ha, hn⟩
          · rw [find_none HCL.out ha] at HFR
            have HRN := Lib.hid (HAO.out hn)
            clear ha hn
            go_wp2_with fail
            refine HFR.mono ?_
            rintro e w9 ⟨rfl, hb9⟩
            have k9 : Below wo.heap.size wo (w9.alloc (.cells #[.int .i64 0, .string ⟨#[]⟩, .string ⟨#[]⟩, .int .i64 0, .bool false] 26)) := (kw.trans (hb9.mono kw.size)).alloc (kw.trans (hb9.mono kw.size)).size _
            have HCU := cuts_good _ l t[k].p _ (HSL.out _ (b9.trans (k9.mono b9.size))) HOK.out HPK.out
            have q9 : Below wr.heap.size wr (w9.alloc (.cells #[.int .i64 0, .string ⟨#[]⟩, .string ⟨#[]⟩, .int .i64 0, .bool false] 26)) := hb9.alloc hb9.size _
            go_wp2_with fail
            generalize w9.alloc (.cells #[.int .i64 0, .string ⟨#[]⟩, .string ⟨#[]⟩, .int .i64 0, .bool false] 26) = W9 at *
            refine HCU.mono ?_
            rintro e w10 ⟨rfl, hb10⟩
            have k10 := k9.trans (hb10.mono k9.size)
            have q10 := q9.trans (hb10.mono q9.size)
            have HFI := find_any _ T t[k].p w10 (HX9.out _ k10).sl (by omega)
            have HXN := HX9.out _ k10
            clear e0 e1 e2 e3 HFR HCU
            obtain ⟨e0, e1, e2, e3⟩ := HCELL.out _ q10
            cases hcut : cutsL l t[k].p with
            | true =>
              have ha := at_none (show recAt T t[k].p = none by rw [HRN.out, hcut]; rfl)
              rw [ha] at HFI
              clear ha hcut HXN
              go_wp2_with fail
              refine HFI.mono ?_
              rintro e w11 ⟨rfl, rfl⟩
              go_wp2_with fail
              go_quiet (fail)
              go_wp2_with fail
              go_roundw
              case rel => exact ⟨k + 1, by omega, by go_num, below_drewN k10 _⟩
              case measure => simp [intOf]; omega
            | false =>
              obtain ⟨j, hj, ha, hTj⟩ := at_some (show recAt T t[k].p = some t[k] by rw [HRN.out, hcut]; rfl)
              rw [ha] at HFI
              have hj0 : (0 : Int) ≤ (j : Int) := by omega
              have hj1 : (j : Int) < (T.length : Int) := by omega
              have hj2 : decide ((j : Int) < 0) = false := by simp
              have hj3 : decide ((0 : Int) ≤ (j : Int)) = true := by simp
              obtain ⟨_, _, _, hxe, _, HX0⟩ := HXN.sl
              cases hxe
              obtain ⟨b', off', hzA, hb', hcell'⟩ := HX0 (by omega)
              cases hzA
              obtain ⟨n0, n1, n2, n3⟩ := hcell' j T[j] (by simp [hj])
              rw [hTj] at n0 n1 n2 n3
              clear ha hcut hTj hcell' HX0 HXN
              go_wp2_with fail
              refine HFI.mono ?_
              rintro e w11 ⟨rfl, rfl⟩
              go_wp2_with fail
              go_quiet (fail)
              go_wp2_with fail
              go_roundw
              case rel => exact ⟨k + 1, by omega, by go_num, below_drewN k10 _⟩
              case measure => simp [intOf]; omega
          · rw [find_here HCL.out hi ha] at HFR
            clear ha hn
            go_wp2_with fail
            refine HFR.mono ?_
            rintro e w9 ⟨rfl, hb9⟩
            have k9 : Below wo.heap.size wo (w9.alloc (.cells #[.int .i64 l[i].k, .string l[i].p, .string l[i].b, .int .i64 l[i].m, .bool l[i].o] 26)) := (kw.trans (hb9.mono kw.size)).alloc (kw.trans (hb9.mono kw.size)).size _
            have HCU := cuts_good _ l t[k].p _ (HSL.out _ (b9.trans (k9.mono b9.size))) HOK.out HPK.out
            have q9 : Below wr.heap.size wr (w9.alloc (.cells #[.int .i64 l[i].k, .string l[i].p, .string l[i].b, .int .i64 l[i].m, .bool l[i].o] 26)) := hb9.alloc hb9.size _
            go_wp2_with fail
            generalize w9.alloc (.cells #[.int .i64 l[i].k, .string l[i].p, .string l[i].b, .int .i64 l[i].m, .bool l[i].o] 26) = W9 at *
            refine HCU.mono ?_
            rintro e w10 ⟨rfl, hb10⟩
            have k10 := k9.trans (hb10.mono k9.size)
            have q10 := q9.trans (hb10.mono q9.size)
            have HFI := find_any _ T t[k].p w10 (HX9.out _ k10).sl (by omega)
            have HXN := HX9.out _ k10
            clear e0 e1 e2 e3 HFR HCU
            obtain ⟨e0, e1, e2, e3⟩ := HCELL.out _ q10
            clear HXN
            generalize cutsL l t[k].p = qc at *
            rcases atL_cases T t[k].p with ⟨ha, _⟩ | ⟨j, hj, ha, _⟩
            · rw [ha] at HFI
              clear ha
              go_wp2_with fail
              refine HFI.mono ?_
              rintro e w11 ⟨rfl, rfl⟩
              go_wp2_with fail
              go_quiet (fail)
              go_wp2_with fail
              go_roundw
              case rel => exact ⟨k + 1, by omega, by go_num, below_drewN k10 _⟩
              case measure => simp [intOf]; omega
            · rw [ha] at HFI
              have hj2 : decide ((j : Int) < 0) = false := by simp
              have hj3 : decide ((0 : Int) ≤ (j : Int)) = true := by simp
              clear ha
              go_wp2_with fail
              refine HFI.mono ?_
              rintro e w11 ⟨rfl, rfl⟩
              go_wp2_with fail
              go_quiet (fail)
              go_wp2_with fail
              go_roundw
              case rel => exact ⟨k + 1, by omega, by go_num, below_drewN k10 _⟩
              case measure => simp [intOf]; omega
        · obtain rfl : k = t.length := by omega
          have HAG : Hid (applyL l T = T) := (by
            have h1 := apply_again HLY.out HTR.out.is
            rw [HTE.out] at h1
            exact h1)
          have HC1 : Hid (codeLN l T = 0) := ln_fine (by omega) HOK.out HTO3.out
          have HAC := Lib.hid (app_fine HC1.out)
          have HA2 := apply_impl _ _ l T x y wr (HSL.out _ bw) (HX9.out _ kw).sl (by omega) (by omega) HLP.out (short_path HFULL.out.is.path) (HTT.out _ bw)
          rw [HAC.out.1, HAC.out.2, HAG.out, HC00.out, HL00.out] at HA2
          go_wp2_with fail
          refine HA2.mono ?_
          rintro e w9 ⟨z3, rfl, hb9, hr3⟩
          obtain ⟨yA3, ycap3, rfl⟩ := own_form hr3.2.1
          have HSN3 := sameNodes_any _ _ T T w9 hr3.sl ((HX9.out _ kw).below hb9).sl (by omega)
          rw [decide_eq_true rfl] at HSN3
          have b10 := bw.trans (hb9.mono bw.size)
          clear hr3 HA2
          go_wp2_with fail
          refine HSN3.mono ?_
          rintro e w10 ⟨rfl, n10, rfl⟩
          go_wp2_with fail
          go_ret
          exact ⟨rfl, c2.trans ((below_drewN b10 n10).mono c2.size)⟩

theorem walk (a0 : Option Addr) (len0 cap0 : Nat) (z0 : List Int) (a1 : Option Addr) (len1 cap1 : Nat) (z1 : List Int) (w : World) (r0 : IsRow .u8 w a0 len0 cap0 z0) (r1 : IsRow .u8 w a1 len1 cap1 z1) (hT : ∃ x y, Three w x y) :
    Calls Tryz.prog 4 #[.slice a0 len0 cap0, .slice a1 len1 cap1] w fun e w' => e = .returned (.bool true) ∧ Below w.heap.size w w' := by
  obtain ⟨x, y, hT⟩ := hT
  by_cases h0 : len0 ≤ 1048576
  · by_cases h1 : len1 ≤ 1048576
    · obtain ⟨v0, c0, _⟩ := r0.vals h0
      obtain ⟨v1, c1, n1⟩ := r1.vals h1
      exact walk_small a0 len0 cap0 a1 len1 cap1 w v0.byts c0 h0 v1.byts c1 h1 x y hT
    · have hd0 : decide ((1048576 : Int) < (len0 : Int)) = false := by simp; omega
      have hd1 : decide ((1048576 : Int) < (len1 : Int)) = true := by simp; omega
      clear r0 r1
      go_enter Tryz.func4, Tryz.ntmps4
      go_wp2_with fail
      go_ret
      exact ⟨rfl, Below.refl _ _⟩
  · have hd0 : decide ((1048576 : Int) < (len0 : Int)) = true := by simp; omega
    clear r0 r1
    go_enter Tryz.func4, Tryz.ntmps4
    go_wp2_with fail
    go_ret
    exact ⟨rfl, Below.refl _ _⟩

theorem own : ownKnob Tryz.prog.godebug = none := by kernel_rfl
theorem laidOut : laidOutB Tryz.prog = true := by kernel_rfl

theorem contract (H : Type) (enc : TypeId × Value → H) (W : World) (base : Nat) (args : Array Value) (ds gs : List (DataW H)) (before : List MemPlace)
    (hval : ∀ (j : Nat) t v, Tryz.f4.params[j]? = some t → args[j]? = some v → Value.okWide Tryz.prog W .any base t v)
    (hW : DataW.Whole enc Tryz.prog Tryz.f4.params.toList Rows.fnApplySpec.vars false W args.toList ds gs before) (hL : laidMetH Tryz.prog Rows.fnApplyRow.laid W) :
    Calls Tryz.prog 4 args W fun e W' => ∃ v, e = .returned v ∧ Rows.fnApplySpec.post enc Tryz.prog Tryz.f4 false true false false W args v W' := by
  have hW' := hW
  obtain ⟨p, q, hA0, hV, rfl, hfz, hnd⟩ := hW
  have hA : DataW.TrodAll enc Tryz.prog W 0 (fun _ => true) true Tryz.f4.params.toList args.toList ds p := hA0
  rw [Tryz.params4] at hA hval
  obtain ⟨v0, vs0, d0, ds0, p0, q0, hargs, rfl, rfl, h0, r0⟩ := trodAll_cons hA
  obtain ⟨v1, vs1, d1, ds1, p1, q1, rfl, rfl, rfl, h1, r1⟩ := trodAll_cons r0
  obtain ⟨rfl, rfl, rfl⟩ := trodAll_nil r1
  obtain rfl : args = #[v0, v1] := by cases args; simp_all
  have k0 := h0
  have lt0 : ∀ x ∈ p0, x.block < W.heap.size := by obtain ⟨m, hm⟩ := k0; exact DataW.trod_lt m _ _ _ hm
  obtain ⟨a0, len0, cap0, rfl⟩ := okWide_slice Tryz.underlying22 (hval 0 22 v0 rfl rfl)
  obtain ⟨z0, w0⟩ : ∃ zs, IsRow .u8 W a0 len0 cap0 zs := by
    obtain ⟨fuel, hf⟩ := h0
    rcases open_ints Tryz.underlying22 Tryz.underlying5 (by kernel_rfl) hf with ⟨hcs, _⟩ | ⟨x, l, c, zs, hcs, _, hl, hm, hz, _, hcell, hwz⟩
    · simp [Value.cells] at hcs
      obtain ⟨rfl, rfl, rfl⟩ := hcs
      exact ⟨[], .inl ⟨rfl, rfl, rfl, rfl⟩⟩
    · simp [Value.cells] at hcs
      obtain ⟨rfl, rfl, rfl⟩ := hcs
      exact ⟨zs, .inr ⟨_, rfl, hl, hm, by simpa using hz, hcell, hwz⟩⟩
  have k1 := h1
  have lt1 : ∀ x ∈ p1, x.block < W.heap.size := by obtain ⟨m, hm⟩ := k1; exact DataW.trod_lt m _ _ _ hm
  obtain ⟨a1, len1, cap1, rfl⟩ := okWide_slice Tryz.underlying22 (hval 1 22 v1 rfl rfl)
  obtain ⟨z1, w1⟩ : ∃ zs, IsRow .u8 W a1 len1 cap1 zs := by
    obtain ⟨fuel, hf⟩ := h1
    rcases open_ints Tryz.underlying22 Tryz.underlying5 (by kernel_rfl) hf with ⟨hcs, _⟩ | ⟨x, l, c, zs, hcs, _, hl, hm, hz, _, hcell, hwz⟩
    · simp [Value.cells] at hcs
      obtain ⟨rfl, rfl, rfl⟩ := hcs
      exact ⟨[], .inl ⟨rfl, rfl, rfl, rfl⟩⟩
    · simp [Value.cells] at hcs
      obtain ⟨rfl, rfl, rfl⟩ := hcs
      exact ⟨zs, .inr ⟨_, rfl, hl, hm, by simpa using hz, hcell, hwz⟩⟩
  clear hA0 hA
  obtain ⟨g0, g1, g2, rfl⟩ := Recs.vars3 hV
  have hT := Recs.laid3 hL
  refine (walk a0 len0 cap0 z0 a1 len1 cap1 z1 W w0 w1 hT).mono fun e W' ⟨he, bel⟩ => ?_
  subst he
  have hv' := bel.trodVars (enc := enc) laidOut (by kernel_rfl) hV
  exact ⟨_, rfl, _, _, _, [], _, _, hW', trodAll_mk1 (shut_bool Tryz.underlying4 _), (trodAll_cons_mk (Below.trod laidOut (by kernel_rfl) (of_decide_eq_true (by kernel_rfl)) k0 bel lt0) (trodAll_cons_mk (Below.trod laidOut (by kernel_rfl) (of_decide_eq_true (by kernel_rfl)) k1 bel lt1) trodAll_mk0)), hv', bel.frame _, fun h => by cases h⟩

theorem laid_met (os : Os) : laidMetH Tryz.prog Rows.fnApplyRow.laid ((World.laidAll Tryz.prog os Rows.fnApplyRow.laid).forCall (fun _ _ => 0) ⟨#[], #[.slice none 0 0, .slice none 0 0], []⟩).memory := by
  rw [MakeChecks.laidMetH_plain _ _ _ (by kernel_rfl)]
  exact laidMet_laidAll _ (by kernel_rfl) (by kernel_rfl)

set_option maxRecDepth 100000 in
theorem lifted (os : Os) (started : os.Started) (H : Type) (enc : TypeId × Value → H) :
    ReturnsInHanded {} Tryz.checked os 4 .any (fun w args => (Rows.fnApplySpec.pre enc Tryz.prog Tryz.f4 Rows.fnApplyRow.domain false w args ∧ laidMetH Tryz.prog Rows.fnApplyRow.laid w) ∧ sizedMet enc Tryz.prog Tryz.f4 (OpenSpec.ofChange Rows.fnApplySpec) false w args)
      (Rows.fnApplySpec.post enc Tryz.prog Tryz.f4 false true false false) := by
  refine returnsInHanded_of_change_and (C := Tryz.checked) (X := fun w _ => laidMetH Tryz.prog Rows.fnApplyRow.laid w) (fun _ _ _ hh h => h.of_heap hh) own started (by kernel_rfl) Tryz.func4
    (ChangeSpec.witness_shaped (enc := enc) (C := Tryz.checked) (os := os) (X := fun w _ => laidMetH Tryz.prog Rows.fnApplyRow.laid w) false (World.laidAll Tryz.prog os Rows.fnApplyRow.laid) #[.slice none 0 0, .slice none 0 0] 8 (World.laidAll_os _ _ _)
      (World.shaped_of_ZipB (by kernel_rfl) (by kernel_rfl)) (by kernel_rfl) (by kernel_rfl) (by kernel_rfl)
      (laid_met os)) ?_
  intro W base args ds gs before hval hW _ _ hL _
  exact contract H enc W base args ds gs before hval hW hL

theorem said : Rows.FnApplySaid :=
  OpenClaim.holds_of_wide 4 Tryz.f4 rfl rfl rfl rfl rfl rfl rfl ⟨rfl, rfl, rfl, rfl, rfl⟩ rfl rfl rfl rfl rfl (by kernel_rfl) Tryz.func4 (by kernel_rfl)
    (of_decide_eq_true (by kernel_rfl)) (by unfold Func.isWrapper; first | (rw [if_pos (by decide +kernel)]; kernel_rfl) | (rw [if_neg (by decide +kernel)]; exact ⟨rfl, rfl⟩))
    (fun os started H enc _ => lifted os started H enc)

/-- No parameter wants a stand-in; the program's own looks are as the card says. -/
theorem plain (f : FuncId) (fn : Func) (hf : Tryz.pinned.checked.prog.funcNamed Rows.fnApplyRow.func = some f) (hfn : Tryz.pinned.checked.prog.funcs[f]? = some fn) :
    true = Tryz.pinned.checked.prog.looks [] ∧ ∀ (j : Nat) t, fn.params[j]? = some t → Tryz.pinned.checked.prog.wantsStandIn t = false := by
  obtain rfl : f = 4 := Option.some.inj ((show Tryz.prog.funcNamed Rows.fnApplyRow.func = some 4 by kernel_rfl).symm.trans hf) |>.symm
  obtain rfl : fn = Tryz.f4 := (Option.some.inj (Tryz.func4.symm.trans hfn)).symm
  refine ⟨by kernel_rfl, fun j t ht => ?_⟩
  rw [Tryz.params4] at ht
  have hm := Array.mem_of_getElem? ht
  have hm' : t = 22 := by simpa using hm
  rcases hm' with rfl
  · exact (show Tryz.prog.wantsStandIn 22 = false by kernel_rfl)

theorem proved : Rows.FnApplyCardSaid :=
  Claim7.holds_tied_plain_at .later [] _ _ _ _ said (fun _ h => by cases h) (by kernel_rfl) (fun _ h => by cases h) fnApply_row_tie rfl ⟨rfl, rfl⟩ (by kernel_rfl) rfl plain (by kernel_rfl)
end Go.Proofs.YtjiljnfiofmpaaaGreatDoor.LawFnApply
