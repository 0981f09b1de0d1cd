/- For all two slices of bytes, FnRecords answers true: of what is drawn out of them a record is made as the model makes it, or its first fault is answered; a drawn record has none. Condition: the table of kinds holds what its own initialiser lays (tied to the program's text by the given tie). -/
import Derived.Test.YtgoenokkaagdeaaDoorCards
import Derived.Test.YtgoenokkaagdeaaDoorTie
import Derived.Test.YtgoenokkaagdeaaDoorKinds
import Derived.Test.YtgoenokkaagdeaaDoorRecAt
import Derived.Test.YtgoenokkaagdeaaDoorDrawRec2
import Derived.Test.YtgoenokkaagdeaaDoorRow
import Derived.Deep.RegionWith
import Derived.Deep.RegionHeld3
import Derived.Deep.DeepCutAuto
import Derived.WalkKit
import Derived.ProofKit
import Derived.OpenShut
import Derived.ShutString
import Derived.ChangeOld
import Derived.ChangeVars
import Derived.Below
import Derived.Deep.DeepHandedRow
import Derived.Lib.LaidTab
namespace Go.Proofs.YtgoenokkaagdeaaDoor.LawRecords
open Go.ChangeShapes Go.WideShapes Go.ChangeAt Go.RowKit
open Go.ChangeMaps (open_string shut_string)
open Paths Recs Draw
set_option linter.unusedVariables false

theorem at_nat (w : World) (A : Option Addr) (n cap : Nat) (f : Nat → Nat) (i k : Int) (j : Nat) (h : Vals w A n f) (hi : 0 ≤ i ∧ i ≤ 1000) (hk : 2 ≤ k ∧ k ≤ 100000) (hj : Hid (atN f n i k = (j : Int))) :
    Calls Tryd.prog 12 #[.slice A n cap, .int .i64 i, .int .i64 k] w fun e w' => e = .returned (.int .i64 (j : Int)) ∧ ∃ q, w' = w.drewN q := by
  rw [← hj.out]
  exact at_any w A n cap f i k h hi hk
theorem at_get (f : Nat → Nat) (n : Nat) (i k : Int) (hk : 2 ≤ k) : ∃ j : Nat, Hid (atN f n i k = (j : Int)) ∧ (j : Int) < k := by
  have h := atN_range (f := f) (n := n) (i := i) hk
  exact ⟨(atN f n i k).toNat, by show _ = _; omega, by omega⟩
def pick2 (a b : ByteArray) (j : Nat) : ByteArray := if j = 0 then a else b
theorem pick2_at {a b : ByteArray} {j : Nat} (h : j < 2) : (#[.string a, .string b] : Array Value)[j]? = some (.string (pick2 a b j)) := by
  have e : j = 0 ∨ j = 1 := by omega
  rcases e with rfl | rfl <;> rfl
theorem two_at (w : World) (q : Nat) (a b : ByteArray) {j : Nat} (h : j < 2) : ((w.drewN q).alloc (.cells #[.string a, .string b] 9)).cell? ⟨w.heap.size, j, none⟩ = some (.string (pick2 a b j)) ∧
    ((w.alloc (.cells #[.string a, .string b] 9)).drewN q).cell? ⟨w.heap.size, j, none⟩ = some (.string (pick2 a b j)) ∧ (w.alloc (.cells #[.string a, .string b] 9)).cell? ⟨w.heap.size, j, none⟩ = some (.string (pick2 a b j)) := by
  have h3 : (w.alloc (.cells #[.string a, .string b] 9)).cell? ⟨w.heap.size, j, none⟩ = some (.string (pick2 a b j)) := by rw [cell_of_row _ _ _ _ _ _ (heap_alloc_new w _)]; exact pick2_at h
  exact ⟨h3, h3, h3⟩
theorem pick2_size {a b : ByteArray} {j : Nat} (ha : a.size ≤ 100) (hb : b.size ≤ 100) : (pick2 a b j).size ≤ 100 := by unfold pick2; split <;> assumption

theorem below_drewN {B : Nat} {a w : World} (h : Below B a w) (q : Nat) : Below B a (w.drewN q) := ⟨h.os, h.tape, h.output, h.size, h.block⟩
/-- What the choice of a path leaves. -/
def CutPath (W : World) (v : Value) (wx : World) : Prop := ∃ s : ByteArray, s.size ≤ 100 ∧ v = .string s ∧ Below W.heap.size W wx

set_option maxRecDepth 100000 in
set_option maxHeartbeats 4000000 in
theorem walk_small (a0 : Option Addr) (len0 cap0 : Nat) (a1 : Option Addr) (len1 cap1 : Nat) (f : Nat → Nat) (w : World) (B0 : Byts w w.heap.size a0 len0) (c0 : len0 ≤ cap0) (h0 : len0 ≤ 1048576) (V1 : Vals w a1 len1 f) (c1 : len1 ≤ cap1) (h1 : len1 ≤ 1048576) (n1 : a1 = none → len1 = 0 ∧ cap1 = 0) (ht : Tab w) :
    Calls Tryd.prog 3 #[.slice a0 len0 cap0, .slice a1 len1 cap1] w fun e w' => e = .returned (.bool true) ∧ Below w.heap.size w w' := by
  have HB0 := Lib.hid B0
  have HV1 := Lib.hid V1
  have HN1 := Lib.hid n1
  have HT := Lib.hid ht
  have hd0 : decide ((1048576 : Int) < (len0 : Int)) = false := by simp; omega
  have hd1 : decide ((1048576 : Int) < (len1 : Int)) = false := by simp; omega
  clear B0 V1 n1 ht
  go_enter Tryd.func3, Tryd.ntmps3
  go_wp2_with fail
  refine (recordDrawn_any w a0 len0 cap0 HB0.out c0).mono ?_
  rintro e w1 ⟨k, mm, p, b, o, hk, hpp, hp, hb, rfl, hb1⟩
  have HK := Lib.hid hk
  have hb1' := hb1.alloc hb1.size (.cells #[.int .i64 k, .string p, .string b, .int .i64 mm, .bool o] 24)
  have HB1 := Lib.hid hb1'
  have HR1 := Lib.hid (RecAt.new w1 k mm p b o 24)
  have hlt1 := HR1.out.1
  clear hk hpp hb1 hb1'
  go_upto_region 4 with fail
  generalize w1.alloc (.cells #[.int .i64 k, .string p, .string b, .int .i64 mm, .bool o] 24) = W1 at *
  have hcp := HR1.out.2.2.1
  obtain ⟨j0, HJ0, hj0⟩ := at_get f len1 0 2 (by omega)
  have hi0 : (0 : Int) ≤ (j0 : Int) := by omega
  have hj0' : j0 < 2 := by omega
  have HV1' := Lib.hid (HV1.out.below HB1.out)
  have HVB : Hid (∀ W, Below W1.heap.size W1 W → Vals W a1 len1 f) := fun W h => HV1'.out.below h
  go_cut [6] (fun s6 wx => CutPath W1 s6 wx)
  case first =>
    go_region_with (first
      | (go_at_call 11; refine (anyPathDrawn_s2 _ a1 len1 cap1 ?_ c1).mono ?_; exact (HVB.out _ (Below.refl _ _).drew).byts; rintro e w2 ⟨sx, hl, rfl, hb2⟩; have hpk := pick2_at (a := p) (b := sx) hj0'; have hcp2 : w2.cell? ⟨w1.heap.size, 1, none⟩ = some (.string p) := (hb2.cell (p := ⟨w1.heap.size, 1, none⟩) hlt1).trans hcp; have HB2 : Hid (Below W1.heap.size W1 w2) := (Below.refl _ _).drew.trans hb2; clear hb2)
      | (go_at_call 12; refine (at_nat _ a1 len1 cap1 f 0 2 j0 ?_ (by omega) (by omega) HJ0).mono ?_; (first | exact HVB.out _ HB2.out | exact HVB.out _ (HB2.out.alloc HB2.out.size _)); rintro e w3 ⟨rfl, q3, rfl⟩; obtain ⟨hx1, hx2, hx3⟩ := two_at w2 q3 p sx hj0'))
    all_goals
      go_wp2_with fail
      go_meet
      refine ⟨pick2 p sx j0, pick2_size (by omega) hl, rfl, ?_⟩
      first
      | with_reducible exact below_drewN (HB2.out.alloc HB2.out.size _) q3
      | exact (below_drewN HB2.out q3).alloc HB2.out.size _
  case rest =>
  obtain ⟨s, hs, rfl, hbx⟩ := hcut
  have HBX := Lib.hid hbx
  have HR2 := Lib.hid (HR1.out.below hbx (Nat.le_refl _))
  clear hbx hcp
  have HV2 := Lib.hid (HVB.out wc HBX.out)
  go_upto_region 5 with fail
  go_cut [7] (fun s7 wx => ∃ bd : ByteArray, bd.size ≤ 25 ∧ s7 = .string bd ∧ wc = wx)
  case first =>
    by_cases hm : len1 ≤ 25
    · have hm1 : (len1 : Int) ≤ 25 := by omega
      have hmin : min (len1 : Int) 25 = (len1 : Int) := by omega
      have hcv := conv_any HV2.out (Nat.le_refl len1) cap1
      go_wp2_with fail
      all_goals
        go_meet
        exact ⟨headS f len1, by rw [headS_size]; exact hm, rfl, rfl⟩
    · have hm1 : (25 : Int) < (len1 : Int) := by omega
      have hm2 : ¬ (len1 : Int) ≤ 25 := by omega
      have hm3 : (25 : Int) ≤ (cap1 : Int) := by omega
      have hmin : min (len1 : Int) 25 = 25 := by omega
      have hcv := conv_any HV2.out (show 25 ≤ len1 by omega) cap1
      go_wp2_with fail
      all_goals
        go_meet
        exact ⟨headS f 25, by rw [headS_size]; exact Nat.le_refl _, rfl, rfl⟩
  case rest =>
  obtain ⟨bd, hbd, rfl, rfl⟩ := hcut
  have HB2 := Lib.hid (HB1.out.trans (HBX.out.mono HB1.out.size))
  obtain ⟨j1, HJ1, hj1⟩ := at_get f len1 1 600 (by omega)
  obtain ⟨j2, HJ2, hj2⟩ := at_get f len1 2 2 (by omega)
  go_wp2_with fail
  refine (at_nat wc a1 len1 cap1 f 1 600 j1 HV2.out (by omega) (by omega) HJ1).mono ?_
  rintro e w4 ⟨rfl, q4, rfl⟩
  have hb4 := below_drewN (Below.refl wc.heap.size wc) q4
  have HBW0 := Lib.hid (HB2.out.trans (hb4.mono HB2.out.size))
  have HRr0 := Lib.hid (HR2.out.below hb4 (Nat.le_refl _))
  clear hb4 HB2 HR2 HV2 HBX HV1' HVB HR1 HB1 hlt1 HJ0 hj0 hi0 hj0'
  generalize wc.drewN q4 = W0 at *
  have hmode : (-20 : Int) ≤ (j1 : Int) - 20 ∧ (j1 : Int) - 20 < 580 := by omega
  go_wp2_with fail
  refine (makeFile_impl ((j1 : Int) - 20) s bd _ (by unfold maxLen; omega) (HT.out.below HBW0.out (Nat.le_refl _))).mono ?_
  rintro e wa ⟨rfl, hba⟩
  obtain ⟨ca, HCca⟩ : ∃ c, Hid (makeC 1 ((j1 : Int) - 20) s bd false = c) := ⟨_, rfl⟩
  rw [HCca.out]
  unfold madeV
  have hsa := hba.alloc hba.size (.cells #[.int .i64 (zI ca 1), .string (zS ca s), .string (zS ca bd), .int .i64 (zI ca ((j1 : Int) - 20)), .bool (zB ca false)] 24)
  have HBW1 := Lib.hid (HBW0.out.trans (hsa.mono HBW0.out.size))
  have HRr1 := Lib.hid (HRr0.out.below hsa (Nat.le_refl _))
  have HRa1 := Lib.hid (RecAt.new wa (zI ca 1) (zI ca ((j1 : Int) - 20)) (zS ca s) (zS ca bd) (zB ca false) 24)
  clear hsa hba HBW0 HRr0
  go_upto_region 8 with fail
  generalize wa.alloc (.cells #[.int .i64 (zI ca 1), .string (zS ca s), .string (zS ca bd), .int .i64 (zI ca ((j1 : Int) - 20)), .bool (zB ca false)] 24) = W1 at *
  go_wp2_with fail
  refine (makeFile_spec ((j1 : Int) - 20) s bd _).mono ?_
  rintro e wc ⟨rfl, hbc⟩
  rw [HCca.out]
  unfold madeV
  have hsc := hbc.alloc hbc.size (.cells #[.int .i64 (zI ca 1), .string (zS ca s), .string (zS ca bd), .int .i64 (zI ca ((j1 : Int) - 20)), .bool (zB ca false)] 24)
  have HBW2 := Lib.hid (HBW1.out.trans (hsc.mono HBW1.out.size))
  have HRr2 := Lib.hid (HRr1.out.below hsc (Nat.le_refl _))
  have HRa2 := Lib.hid (HRa1.out.below hsc (Nat.le_refl _))
  have HRc2 := Lib.hid (RecAt.new wc (zI ca 1) (zI ca ((j1 : Int) - 20)) (zS ca s) (zS ca bd) (zB ca false) 24)
  clear hsc hbc HBW1 HRr1 HRa1
  go_upto_region 9 with fail
  generalize wc.alloc (.cells #[.int .i64 (zI ca 1), .string (zS ca s), .string (zS ca bd), .int .i64 (zI ca ((j1 : Int) - 20)), .bool (zB ca false)] 24) = W2 at *
  go_wp2_with fail
  refine (at_nat W2 a1 len1 cap1 f 2 2 j2 (HV1.out.below HBW2.out) (by omega) (by omega) HJ2).mono ?_
  rintro e weq ⟨rfl, qe, rfl⟩
  have hqe := below_drewN (Below.refl W2.heap.size W2) qe
  have HBW2q := Lib.hid (HBW2.out.trans (hqe.mono HBW2.out.size))
  have HRr2q := Lib.hid (HRr2.out.below hqe (Nat.le_refl _))
  have HRa2q := Lib.hid (HRa2.out.below hqe (Nat.le_refl _))
  have HRc2q := Lib.hid (HRc2.out.below hqe (Nat.le_refl _))
  clear hqe HBW2 HRr2 HRa2 HRc2
  generalize W2.drewN qe = W2q at *
  go_wp2_with fail
  refine (makeDir_impl ((j1 : Int) - 20) s ((j2 : Int) == 0) _ (by unfold maxLen; omega) (HT.out.below HBW2q.out (Nat.le_refl _))).mono ?_
  rintro e we ⟨rfl, hbe⟩
  obtain ⟨cd, HCcd⟩ : ∃ c, Hid (makeC 3 ((j1 : Int) - 20) s (⟨#[]⟩ : ByteArray) ((j2 : Int) == 0) = c) := ⟨_, rfl⟩
  rw [HCcd.out]
  unfold madeV
  have hse := hbe.alloc hbe.size (.cells #[.int .i64 (zI cd 3), .string (zS cd s), .string (zS cd (⟨#[]⟩ : ByteArray)), .int .i64 (zI cd ((j1 : Int) - 20)), .bool (zB cd ((j2 : Int) == 0))] 24)
  have HBW3 := Lib.hid (HBW2q.out.trans (hse.mono HBW2q.out.size))
  have HRr3 := Lib.hid (HRr2q.out.below hse (Nat.le_refl _))
  have HRa3 := Lib.hid (HRa2q.out.below hse (Nat.le_refl _))
  have HRc3 := Lib.hid (HRc2q.out.below hse (Nat.le_refl _))
  have HRe3 := Lib.hid (RecAt.new we (zI cd 3) (zI cd ((j1 : Int) - 20)) (zS cd s) (zS cd (⟨#[]⟩ : ByteArray)) (zB cd ((j2 : Int) == 0)) 24)
  clear hse hbe HBW2q HRr2q HRa2q HRc2q
  go_upto_region 10 with fail
  generalize we.alloc (.cells #[.int .i64 (zI cd 3), .string (zS cd s), .string (zS cd (⟨#[]⟩ : ByteArray)), .int .i64 (zI cd ((j1 : Int) - 20)), .bool (zB cd ((j2 : Int) == 0))] 24) = W3 at *
  go_wp2_with fail
  refine (at_nat W3 a1 len1 cap1 f 2 2 j2 (HV1.out.below HBW3.out) (by omega) (by omega) HJ2).mono ?_
  rintro e wgq ⟨rfl, qg, rfl⟩
  have hqg := below_drewN (Below.refl W3.heap.size W3) qg
  have HBW3q := Lib.hid (HBW3.out.trans (hqg.mono HBW3.out.size))
  have HRr3q := Lib.hid (HRr3.out.below hqg (Nat.le_refl _))
  have HRa3q := Lib.hid (HRa3.out.below hqg (Nat.le_refl _))
  have HRc3q := Lib.hid (HRc3.out.below hqg (Nat.le_refl _))
  have HRe3q := Lib.hid (HRe3.out.below hqg (Nat.le_refl _))
  clear hqg HBW3 HRr3 HRa3 HRc3 HRe3
  generalize W3.drewN qg = W3q at *
  go_wp2_with fail
  refine (makeDir_spec ((j1 : Int) - 20) s ((j2 : Int) == 0) _).mono ?_
  rintro e wg ⟨rfl, hbg⟩
  rw [HCcd.out]
  unfold madeV
  have hsg := hbg.alloc hbg.size (.cells #[.int .i64 (zI cd 3), .string (zS cd s), .string (zS cd (⟨#[]⟩ : ByteArray)), .int .i64 (zI cd ((j1 : Int) - 20)), .bool (zB cd ((j2 : Int) == 0))] 24)
  have HBW4 := Lib.hid (HBW3q.out.trans (hsg.mono HBW3q.out.size))
  have HRr4 := Lib.hid (HRr3q.out.below hsg (Nat.le_refl _))
  have HRa4 := Lib.hid (HRa3q.out.below hsg (Nat.le_refl _))
  have HRc4 := Lib.hid (HRc3q.out.below hsg (Nat.le_refl _))
  have HRe4 := Lib.hid (HRe3q.out.below hsg (Nat.le_refl _))
  have HRg4 := Lib.hid (RecAt.new wg (zI cd 3) (zI cd ((j1 : Int) - 20)) (zS cd s) (zS cd (⟨#[]⟩ : ByteArray)) (zB cd ((j2 : Int) == 0)) 24)
  clear hsg hbg HBW3q HRr3q HRa3q HRc3q HRe3q
  go_upto_region 11 with fail
  generalize wg.alloc (.cells #[.int .i64 (zI cd 3), .string (zS cd s), .string (zS cd (⟨#[]⟩ : ByteArray)), .int .i64 (zI cd ((j1 : Int) - 20)), .bool (zB cd ((j2 : Int) == 0))] 24) = W4 at *
  go_wp2_with fail
  refine (makeLink_impl s bd _ (by unfold maxLen; omega) (HT.out.below HBW4.out (Nat.le_refl _))).mono ?_
  rintro e wi ⟨rfl, hbi⟩
  obtain ⟨cl, HCcl⟩ : ∃ c, Hid (makeC 2 0 s bd false = c) := ⟨_, rfl⟩
  rw [HCcl.out]
  unfold madeV
  have hsi := hbi.alloc hbi.size (.cells #[.int .i64 (zI cl 2), .string (zS cl s), .string (zS cl bd), .int .i64 (zI cl 0), .bool (zB cl false)] 24)
  have HBW5 := Lib.hid (HBW4.out.trans (hsi.mono HBW4.out.size))
  have HRr5 := Lib.hid (HRr4.out.below hsi (Nat.le_refl _))
  have HRa5 := Lib.hid (HRa4.out.below hsi (Nat.le_refl _))
  have HRc5 := Lib.hid (HRc4.out.below hsi (Nat.le_refl _))
  have HRe5 := Lib.hid (HRe4.out.below hsi (Nat.le_refl _))
  have HRg5 := Lib.hid (HRg4.out.below hsi (Nat.le_refl _))
  have HRi5 := Lib.hid (RecAt.new wi (zI cl 2) (zI cl 0) (zS cl s) (zS cl bd) (zB cl false) 24)
  clear hsi hbi HBW4 HRr4 HRa4 HRc4 HRe4 HRg4
  go_upto_region 12 with fail
  generalize wi.alloc (.cells #[.int .i64 (zI cl 2), .string (zS cl s), .string (zS cl bd), .int .i64 (zI cl 0), .bool (zB cl false)] 24) = W5 at *
  go_wp2_with fail
  refine (makeLink_spec s bd _).mono ?_
  rintro e wk ⟨rfl, hbk⟩
  rw [HCcl.out]
  unfold madeV
  have hsk := hbk.alloc hbk.size (.cells #[.int .i64 (zI cl 2), .string (zS cl s), .string (zS cl bd), .int .i64 (zI cl 0), .bool (zB cl false)] 24)
  have HBW6 := Lib.hid (HBW5.out.trans (hsk.mono HBW5.out.size))
  have HRr6 := Lib.hid (HRr5.out.below hsk (Nat.le_refl _))
  have HRa6 := Lib.hid (HRa5.out.below hsk (Nat.le_refl _))
  have HRc6 := Lib.hid (HRc5.out.below hsk (Nat.le_refl _))
  have HRe6 := Lib.hid (HRe5.out.below hsk (Nat.le_refl _))
  have HRg6 := Lib.hid (HRg5.out.below hsk (Nat.le_refl _))
  have HRi6 := Lib.hid (HRi5.out.below hsk (Nat.le_refl _))
  have HRk6 := Lib.hid (RecAt.new wk (zI cl 2) (zI cl 0) (zS cl s) (zS cl bd) (zB cl false) 24)
  clear hsk hbk HBW5 HRr5 HRa5 HRc5 HRe5 HRg5 HRi5
  go_upto_region 13 with fail
  generalize wk.alloc (.cells #[.int .i64 (zI cl 2), .string (zS cl s), .string (zS cl bd), .int .i64 (zI cl 0), .bool (zB cl false)] 24) = W6 at *
  go_wp2_with fail
  refine (makeWhite_impl s _ (by unfold maxLen; omega) (HT.out.below HBW6.out (Nat.le_refl _))).mono ?_
  rintro e wm ⟨rfl, hbm⟩
  obtain ⟨cw, HCcw⟩ : ∃ c, Hid (makeC 4 0 s (⟨#[]⟩ : ByteArray) false = c) := ⟨_, rfl⟩
  rw [HCcw.out]
  unfold madeV
  have hsm := hbm.alloc hbm.size (.cells #[.int .i64 (zI cw 4), .string (zS cw s), .string (zS cw (⟨#[]⟩ : ByteArray)), .int .i64 (zI cw 0), .bool (zB cw false)] 24)
  have HBW7 := Lib.hid (HBW6.out.trans (hsm.mono HBW6.out.size))
  have HRr7 := Lib.hid (HRr6.out.below hsm (Nat.le_refl _))
  have HRa7 := Lib.hid (HRa6.out.below hsm (Nat.le_refl _))
  have HRc7 := Lib.hid (HRc6.out.below hsm (Nat.le_refl _))
  have HRe7 := Lib.hid (HRe6.out.below hsm (Nat.le_refl _))
  have HRg7 := Lib.hid (HRg6.out.below hsm (Nat.le_refl _))
  have HRi7 := Lib.hid (HRi6.out.below hsm (Nat.le_refl _))
  have HRk7 := Lib.hid (HRk6.out.below hsm (Nat.le_refl _))
  have HRm7 := Lib.hid (RecAt.new wm (zI cw 4) (zI cw 0) (zS cw s) (zS cw (⟨#[]⟩ : ByteArray)) (zB cw false) 24)
  clear hsm hbm HBW6 HRr6 HRa6 HRc6 HRe6 HRg6 HRi6 HRk6
  go_upto_region 14 with fail
  generalize wm.alloc (.cells #[.int .i64 (zI cw 4), .string (zS cw s), .string (zS cw (⟨#[]⟩ : ByteArray)), .int .i64 (zI cw 0), .bool (zB cw false)] 24) = W7 at *
  go_wp2_with fail
  refine (makeWhite_spec s _).mono ?_
  rintro e wo ⟨rfl, hbo⟩
  rw [HCcw.out]
  unfold madeV
  have hso := hbo.alloc hbo.size (.cells #[.int .i64 (zI cw 4), .string (zS cw s), .string (zS cw (⟨#[]⟩ : ByteArray)), .int .i64 (zI cw 0), .bool (zB cw false)] 24)
  have HBW8 := Lib.hid (HBW7.out.trans (hso.mono HBW7.out.size))
  have HRr8 := Lib.hid (HRr7.out.below hso (Nat.le_refl _))
  have HRa8 := Lib.hid (HRa7.out.below hso (Nat.le_refl _))
  have HRc8 := Lib.hid (HRc7.out.below hso (Nat.le_refl _))
  have HRe8 := Lib.hid (HRe7.out.below hso (Nat.le_refl _))
  have HRg8 := Lib.hid (HRg7.out.below hso (Nat.le_refl _))
  have HRi8 := Lib.hid (HRi7.out.below hso (Nat.le_refl _))
  have HRk8 := Lib.hid (HRk7.out.below hso (Nat.le_refl _))
  have HRm8 := Lib.hid (HRm7.out.below hso (Nat.le_refl _))
  have HRo8 := Lib.hid (RecAt.new wo (zI cw 4) (zI cw 0) (zS cw s) (zS cw (⟨#[]⟩ : ByteArray)) (zB cw false) 24)
  clear hso hbo HBW7 HRr7 HRa7 HRc7 HRe7 HRg7 HRi7 HRk7 HRm7
  go_upto_region 15 with fail
  generalize wo.alloc (.cells #[.int .i64 (zI cw 4), .string (zS cw s), .string (zS cw (⟨#[]⟩ : ByteArray)), .int .i64 (zI cw 0), .bool (zB cw false)] 24) = W8 at *
  obtain ⟨lr, rq0, rq1, rq2, rq3, rq4⟩ := HRr8.out
  obtain ⟨la, aq0, aq1, aq2, aq3, aq4⟩ := HRa8.out
  obtain ⟨lc, cq0, cq1, cq2, cq3, cq4⟩ := HRc8.out
  obtain ⟨le, eq0, eq1, eq2, eq3, eq4⟩ := HRe8.out
  obtain ⟨lg, gq0, gq1, gq2, gq3, gq4⟩ := HRg8.out
  obtain ⟨li, iq0, iq1, iq2, iq3, iq4⟩ := HRi8.out
  obtain ⟨lk, kq0, kq1, kq2, kq3, kq4⟩ := HRk8.out
  obtain ⟨lm, mq0, mq1, mq2, mq3, mq4⟩ := HRm8.out
  obtain ⟨lo, oq0, oq1, oq2, oq3, oq4⟩ := HRo8.out
  go_wp2_with fail
  refine (recordFault_impl k mm p b o _ (by unfold maxLen; omega) (HT.out.below HBW8.out (Nat.le_refl _))).mono ?_
  rintro e w9 ⟨rfl, hb9⟩
  rw [HK.out]
  have HBW9 := Lib.hid (HBW8.out.trans (hb9.mono HBW8.out.size))
  have HRr9 := Lib.hid (HRr8.out.below hb9 (Nat.le_refl _))
  have HRa9 := Lib.hid (HRa8.out.below hb9 (Nat.le_refl _))
  clear hb9 HBW8 HRr8 HRa8 HRc8 HRe8 HRg8 HRi8 HRk8 HRm8 HRo8 lr rq0 rq1 rq2 rq3 rq4 la aq0 aq1 aq2 aq3 aq4 lc cq0 cq1 cq2 cq3 cq4 le eq0 eq1 eq2 eq3 eq4 lg gq0 gq1 gq2 gq3 gq4 li iq0 iq1 iq2 iq3 iq4 lk kq0 kq1 kq2 kq3 kq4 lm mq0 mq1 mq2 mq3 mq4 lo oq0 oq1 oq2 oq3 oq4
  obtain ⟨lr, rq0, rq1, rq2, rq3, rq4⟩ := HRr9.out
  go_wp2_with fail
  refine (recordOK_impl k mm p b o _ (by unfold maxLen; omega) (HT.out.below HBW9.out (Nat.le_refl _))).mono ?_
  rintro e w10 ⟨rfl, hb10⟩
  rw [HK.out]
  have HBW10 := Lib.hid (HBW9.out.trans (hb10.mono HBW9.out.size))
  have HRr10 := Lib.hid (HRr9.out.below hb10 (Nat.le_refl _))
  have HRa10 := Lib.hid (HRa9.out.below hb10 (Nat.le_refl _))
  clear hb10 HBW9 HRr9 HRa9 lr rq0 rq1 rq2 rq3 rq4
  obtain ⟨lr, rq0, rq1, rq2, rq3, rq4⟩ := HRr10.out
  go_upto_region 20 with fail
  have hs11 := (Below.refl w10.heap.size w10).alloc (Nat.le_refl _) (.cells #[.int .i64 k, .string p, .string b, .int .i64 ((j1 : Int) - 20), .bool (!o)] 24)
  have HBW11 := Lib.hid (HBW10.out.trans (hs11.mono HBW10.out.size))
  have HRb11 := Lib.hid (RecAt.new w10 k ((j1 : Int) - 20) p b (!o) 24)
  have HRa11 := Lib.hid (HRa10.out.below hs11 (Nat.le_refl _))
  clear hs11 HBW10 HRa10 HRr10 lr rq0 rq1 rq2 rq3 rq4
  generalize w10.alloc (.cells #[.int .i64 k, .string p, .string b, .int .i64 ((j1 : Int) - 20), .bool (!o)] 24) = W11 at *
  have HTB : Hid (∀ W', Below W11.heap.size W11 W' → Tab W') := fun W' h => HT.out.below (HBW11.out.trans (h.mono HBW11.out.size)) (Nat.le_refl _)
  have hpm : p.size ≤ maxLen := by unfold maxLen; omega
  have HZ : Hid (Below W11.heap.size W11 W11) := Below.refl _ _
  by_cases hca : ca = 0
  · subst hca
    rw [zS_yes rfl s, zS_yes rfl bd] at HRa11
    have HKS : Hid (∀ W', Below W11.heap.size W11 W' → W'.cell? ⟨w10.heap.size, 0, none⟩ = some (.int .i64 k) ∧ W'.cell? ⟨w10.heap.size, 1, none⟩ = some (.string p) ∧ W'.cell? ⟨w10.heap.size, 2, none⟩ = some (.string b) ∧ W'.cell? ⟨w10.heap.size, 3, none⟩ = some (.int .i64 ((j1 : Int) - 20)) ∧ W'.cell? ⟨w10.heap.size, 4, none⟩ = some (.bool (!o)) ∧ W'.cell? ⟨wa.heap.size, 1, none⟩ = some (.string s) ∧ W'.cell? ⟨wa.heap.size, 2, none⟩ = some (.string bd)) := fun W' h => by
      obtain ⟨_, b0, b1, b2, b3, b4⟩ := HRb11.out.below h (Nat.le_refl _)
      obtain ⟨_, _, x1, x2, _, _⟩ := HRa11.out.below h (Nat.le_refl _)
      exact ⟨b0, b1, b2, b3, b4, x1, x2⟩
    go_region_held3 (fun W' => W'.cell? ⟨w10.heap.size, 0, none⟩ = some (.int .i64 k) ∧ W'.cell? ⟨w10.heap.size, 1, none⟩ = some (.string p) ∧ W'.cell? ⟨w10.heap.size, 2, none⟩ = some (.string b) ∧ W'.cell? ⟨w10.heap.size, 3, none⟩ = some (.int .i64 ((j1 : Int) - 20)) ∧ W'.cell? ⟨w10.heap.size, 4, none⟩ = some (.bool (!o)) ∧ W'.cell? ⟨wa.heap.size, 1, none⟩ = some (.string s) ∧ W'.cell? ⟨wa.heap.size, 2, none⟩ = some (.string bd)) (first | exact HKS.out _ HZ.out | exact HKS.out _ HZ.out.drew) (first
      | (go_at_call 21; refine (recordFault_impl k ((j1 : Int) - 20) p b (!o) _ hpm ?_).mono ?_; (first | exact HTB.out _ HZ.out | exact HTB.out _ HZ.out.drew); rintro e wz ⟨rfl, hbz⟩; replace HZ : Hid (Below W11.heap.size W11 wz) := (by first | exact HZ.out.trans (hbz.mono HZ.out.size) | exact HZ.out.drew.trans (hbz.mono HZ.out.size)))
      | (go_at_call 23; refine (recordFault_spec k ((j1 : Int) - 20) p b (!o) _).mono ?_; rintro e wz ⟨rfl, hbz⟩; replace HZ : Hid (Below W11.heap.size W11 wz) := (by first | exact HZ.out.trans (hbz.mono HZ.out.size) | exact HZ.out.drew.trans (hbz.mono HZ.out.size)))
      | (go_at_call 22; refine (recordOK_impl k ((j1 : Int) - 20) p b (!o) _ hpm ?_).mono ?_; (first | exact HTB.out _ HZ.out | exact HTB.out _ HZ.out.drew); rintro e wz ⟨rfl, hbz⟩; replace HZ : Hid (Below W11.heap.size W11 wz) := (by first | exact HZ.out.trans (hbz.mono HZ.out.size) | exact HZ.out.drew.trans (hbz.mono HZ.out.size))))
    all_goals
      go_wp2_with fail
      go_ret
      exact ⟨rfl, HBW11.out.trans (HZ.out.mono HBW11.out.size)⟩
  · have hca1 : (ca == 0) = false := by simpa using hca
    have hca2 : (ca != 0) = true := by simpa using hca
    have hca3 : (!(ca == 0)) = true := by simpa using hca
    have hca4 : decide (ca = 0) = false := by simpa using hca
    have hca5 : decide (¬ ca = 0) = true := by simpa using hca
    have HKS : Hid (∀ W', Below W11.heap.size W11 W' → W'.cell? ⟨w10.heap.size, 0, none⟩ = some (.int .i64 k) ∧ W'.cell? ⟨w10.heap.size, 1, none⟩ = some (.string p) ∧ W'.cell? ⟨w10.heap.size, 2, none⟩ = some (.string b) ∧ W'.cell? ⟨w10.heap.size, 3, none⟩ = some (.int .i64 ((j1 : Int) - 20)) ∧ W'.cell? ⟨w10.heap.size, 4, none⟩ = some (.bool (!o)) ∧ W'.cell? ⟨wa.heap.size, 1, none⟩ = some (.string (zS ca s)) ∧ W'.cell? ⟨wa.heap.size, 2, none⟩ = some (.string (zS ca bd))) := fun W' h => by
      obtain ⟨_, b0, b1, b2, b3, b4⟩ := HRb11.out.below h (Nat.le_refl _)
      obtain ⟨_, _, x1, x2, _, _⟩ := HRa11.out.below h (Nat.le_refl _)
      exact ⟨b0, b1, b2, b3, b4, x1, x2⟩
    refine wp_region_held_drew (S := fun W' => W'.cell? ⟨w10.heap.size, 0, none⟩ = some (.int .i64 k) ∧ W'.cell? ⟨w10.heap.size, 1, none⟩ = some (.string p) ∧ W'.cell? ⟨w10.heap.size, 2, none⟩ = some (.string b) ∧ W'.cell? ⟨w10.heap.size, 3, none⟩ = some (.int .i64 ((j1 : Int) - 20)) ∧ W'.cell? ⟨w10.heap.size, 4, none⟩ = some (.bool (!o)) ∧ W'.cell? ⟨wa.heap.size, 1, none⟩ = some (.string (zS ca s)) ∧ W'.cell? ⟨wa.heap.size, 2, none⟩ = some (.string (zS ca bd))) (by kernel_rfl) (HKS.out _ HZ.out.drew) (fun hHeld => ?_)
    refine wpAnyH_take (i := 0) (oi := { dst := some 163, op := Go.Op.load 24 (Go.Operand.tmp 25), type := 24, pos := "laws.go:160", after := #[], guard := none }) (v := ?v0) rfl (by kernel_rfl) (by kernel_rfl) (by kernel_rfl) (fun _ _ _ h => h) (Or.inl ⟨by rfl, ?y0⟩) hHeld ?z0
    case y0 =>
      intro w hSw
      (try dsimp only at hSw)
      go_simp
      try with_reducible rfl
    simp only [Act.put, List.setIfInBounds_toArray, List.set_cons_zero, List.set_cons_succ]
    refine wpAnyH_take (i := 2) (oi := { dst := some 165, op := Go.Op.load 24 (Go.Operand.tmp 25), type := 24, pos := "laws.go:160", after := #[], guard := none }) (v := ?v2) rfl (by kernel_rfl) (by kernel_rfl) (by kernel_rfl) (fun _ _ _ h => h) (Or.inl ⟨by rfl, ?y2⟩) hHeld ?z2
    case y2 =>
      intro w hSw
      (try dsimp only at hSw)
      go_simp
      try with_reducible rfl
    simp only [Act.put, List.setIfInBounds_toArray, List.set_cons_zero, List.set_cons_succ]
    refine wpAnyH_ready (rs := [1]) (by kernel_rfl) (by simp) ?_
    refine AllReadyH.cons (o := { dst := some 164, op := Go.Op.call { callee := Go.Callee.value (Go.Operand.func 21), args := #[Go.Operand.tmp 163], argTypes := #[24] }, type := 3, pos := "laws.go:160", after := #[{ on := 0, ground := Go.Ground.data }], guard := none }) rfl (fun K hK => ?_) AllReadyH.nil
    go_simp
    refine (recordFault_impl k ((j1 : Int) - 20) p b (!o) _ hpm (HTB.out _ HZ.out.drew)).mono ?_
    rintro e wz1 ⟨rfl, hbz1⟩
    replace HZ : Hid (Below W11.heap.size W11 wz1) := HZ.out.drew.trans (hbz1.mono HZ.out.size)
    go_wp2_with fail
    refine hK.out _ _ (HKS.out _ HZ.out) (fun hHeld1 => ?_)
    clear hHeld hK K hbz1
    refine wpAnyH_ready (rs := [3]) (by kernel_rfl) (by simp) ?_
    refine AllReadyH.cons (o := { dst := some 166, op := Go.Op.call { callee := Go.Callee.value (Go.Operand.func 23), args := #[Go.Operand.tmp 165], argTypes := #[24] }, type := 3, pos := "laws.go:160", after := #[{ on := 2, ground := Go.Ground.data }, { on := 1, ground := Go.Ground.chain }], guard := none }) rfl (fun K hK => ?_) AllReadyH.nil
    go_simp
    refine (recordFault_spec k ((j1 : Int) - 20) p b (!o) _).mono ?_
    rintro e wz3 ⟨rfl, hbz3⟩
    replace HZ : Hid (Below W11.heap.size W11 wz3) := HZ.out.trans (hbz3.mono HZ.out.size)
    go_wp2_with fail
    refine hK.out _ _ (HKS.out _ HZ.out) (fun hHeld3 => ?_)
    clear hHeld1 hK K hbz3
    refine wpAnyH_take (i := 4) (oi := { dst := some 167, op := Go.Op.binOp Go.BinOp.eql 3 (Go.Operand.tmp 164) (Go.Operand.tmp 166) 3, type := 4, pos := "laws.go:160", after := #[{ on := 1, ground := Go.Ground.data }, { on := 3, ground := Go.Ground.data }], guard := none }) (v := ?v4) rfl (by kernel_rfl) (by kernel_rfl) (by kernel_rfl) (fun _ _ _ h => h) (Or.inl ⟨by rfl, ?y4⟩) hHeld3 ?z4
    case y4 =>
      intro w hSw
      (try dsimp only at hSw)
      go_simp
      try with_reducible rfl
    simp only [Act.put, List.setIfInBounds_toArray, List.set_cons_zero, List.set_cons_succ]
    refine wpAnyH_take (i := 5) (oi := { dst := some 168, op := Go.Op.move (Go.Operand.tmp 167), type := 4, pos := "laws.go:160", after := #[{ on := 4, ground := Go.Ground.data }, { on := 3, ground := Go.Ground.chain }], guard := none }) (v := ?v5) rfl (by kernel_rfl) (by kernel_rfl) (by kernel_rfl) (fun _ _ _ h => h) (Or.inl ⟨by rfl, ?y5⟩) hHeld3 ?z5
    case y5 =>
      intro w hSw
      (try dsimp only at hSw)
      go_simp
      try with_reducible rfl
    simp only [Act.put, List.setIfInBounds_toArray, List.set_cons_zero, List.set_cons_succ]
    refine wpAnyH_take (i := 6) (oi := { dst := some 169, op := Go.Op.load 24 (Go.Operand.tmp 25), type := 24, pos := "laws.go:160", after := #[{ on := 5, ground := Go.Ground.guard }], guard := some (5, true) }) (v := ?v6) rfl (by kernel_rfl) (by kernel_rfl) (by kernel_rfl) (fun _ _ _ h => h) (Or.inl ⟨by rfl, ?y6⟩) hHeld3 ?z6
    case y6 =>
      intro w hSw
      (try dsimp only at hSw)
      go_simp
      try with_reducible rfl
    simp only [Act.put, List.setIfInBounds_toArray, List.set_cons_zero, List.set_cons_succ]
    refine wpAnyH_take (i := 8) (oi := { dst := some 171, op := Go.Op.load 24 (Go.Operand.tmp 25), type := 24, pos := "laws.go:160", after := #[{ on := 5, ground := Go.Ground.guard }], guard := some (5, true) }) (v := ?v8) rfl (by kernel_rfl) (by kernel_rfl) (by kernel_rfl) (fun _ _ _ h => h) (Or.inl ⟨by rfl, ?y8⟩) hHeld3 ?z8
    case y8 =>
      intro w hSw
      (try dsimp only at hSw)
      go_simp
      try with_reducible rfl
    simp only [Act.put, List.setIfInBounds_toArray, List.set_cons_zero, List.set_cons_succ]
    refine wpAnyH_ready (rs := [7]) (by kernel_rfl) (by simp) ?_
    refine AllReadyH.cons (o := { dst := some 170, op := Go.Op.call { callee := Go.Callee.value (Go.Operand.func 22), args := #[Go.Operand.tmp 169], argTypes := #[24] }, type := 4, pos := "laws.go:160", after := #[{ on := 6, ground := Go.Ground.data }, { on := 5, ground := Go.Ground.chain }, { on := 5, ground := Go.Ground.guard }], guard := some (5, true) }) rfl (fun K hK => ?_) AllReadyH.nil
    go_simp
    refine (recordOK_impl k ((j1 : Int) - 20) p b (!o) _ hpm (HTB.out _ HZ.out)).mono ?_
    rintro e wz7 ⟨rfl, hbz7⟩
    replace HZ : Hid (Below W11.heap.size W11 wz7) := HZ.out.trans (hbz7.mono HZ.out.size)
    go_wp2_with fail
    refine hK.out _ _ (HKS.out _ HZ.out) (fun hHeld7 => ?_)
    clear hHeld3 hK K hbz7
    refine wpAnyH_ready (rs := [9]) (by kernel_rfl) (by simp) ?_
    refine AllReadyH.cons (o := { dst := some 172, op := Go.Op.call { callee := Go.Callee.value (Go.Operand.func 23), args := #[Go.Operand.tmp 171], argTypes := #[24] }, type := 3, pos := "laws.go:160", after := #[{ on := 8, ground := Go.Ground.data }, { on := 7, ground := Go.Ground.chain }, { on := 5, ground := Go.Ground.guard }], guard := some (5, true) }) rfl (fun K hK => ?_) AllReadyH.nil
    go_simp
    refine (recordFault_spec k ((j1 : Int) - 20) p b (!o) _).mono ?_
    rintro e wz9 ⟨rfl, hbz9⟩
    replace HZ : Hid (Below W11.heap.size W11 wz9) := HZ.out.trans (hbz9.mono HZ.out.size)
    go_wp2_with fail
    refine hK.out _ _ (HKS.out _ HZ.out) (fun hHeld9 => ?_)
    clear hHeld7 hK K hbz9
    refine wpAnyH_take (i := 10) (oi := { dst := some 173, op := Go.Op.binOp Go.BinOp.eql 3 (Go.Operand.tmp 172) (Go.Operand.const (Go.Value.int Go.IntKind.i64 0)) 3, type := 4, pos := "laws.go:160", after := #[{ on := 9, ground := Go.Ground.data }, { on := 5, ground := Go.Ground.guard }], guard := some (5, true) }) (v := ?v10) rfl (by kernel_rfl) (by kernel_rfl) (by kernel_rfl) (fun _ _ _ h => h) (Or.inl ⟨by rfl, ?y10⟩) hHeld9 ?z10
    case y10 =>
      intro w hSw
      (try dsimp only at hSw)
      go_simp
      try with_reducible rfl
    simp only [Act.put, List.setIfInBounds_toArray, List.set_cons_zero, List.set_cons_succ]
    refine wpAnyH_take (i := 11) (oi := { dst := some 174, op := Go.Op.binOp Go.BinOp.eql 4 (Go.Operand.tmp 170) (Go.Operand.tmp 173) 4, type := 4, pos := "laws.go:160", after := #[{ on := 7, ground := Go.Ground.data }, { on := 10, ground := Go.Ground.data }, { on := 5, ground := Go.Ground.guard }], guard := some (5, true) }) (v := ?v11) rfl (by kernel_rfl) (by kernel_rfl) (by kernel_rfl) (fun _ _ _ h => h) (Or.inl ⟨by rfl, ?y11⟩) hHeld9 ?z11
    case y11 =>
      intro w hSw
      (try dsimp only at hSw)
      go_simp
      try with_reducible rfl
    simp only [Act.put, List.setIfInBounds_toArray, List.set_cons_zero, List.set_cons_succ]
    refine wpAnyH_take (i := 12) (oi := { dst := some 175, op := Go.Op.pick (Go.Operand.tmp 168) (Go.Operand.tmp 174) (Go.Operand.const (Go.Value.bool false)), type := 4, pos := "laws.go:160", after := #[{ on := 5, ground := Go.Ground.data }, { on := 11, ground := Go.Ground.data }], guard := none }) (v := ?v12) rfl (by kernel_rfl) (by kernel_rfl) (by kernel_rfl) (fun _ _ _ h => h) (Or.inl ⟨by rfl, ?y12⟩) hHeld9 ?z12
    case y12 =>
      intro w hSw
      (try dsimp only at hSw)
      go_simp
      try with_reducible rfl
    simp only [Act.put, List.setIfInBounds_toArray, List.set_cons_zero, List.set_cons_succ]
    refine wpAnyH_take (i := 13) (oi := { dst := some 176, op := Go.Op.move (Go.Operand.tmp 175), type := 4, pos := "laws.go:160", after := #[{ on := 12, ground := Go.Ground.data }, { on := 9, ground := Go.Ground.chain }], guard := none }) (v := ?v13) rfl (by kernel_rfl) (by kernel_rfl) (by kernel_rfl) (fun _ _ _ h => h) (Or.inl ⟨by rfl, ?y13⟩) hHeld9 ?z13
    case y13 =>
      intro w hSw
      (try dsimp only at hSw)
      go_simp
      try with_reducible rfl
    simp only [Act.put, List.setIfInBounds_toArray, List.set_cons_zero, List.set_cons_succ]
    refine wpAnyH_take (i := 14) (oi := { dst := some 177, op := Go.Op.move (Go.Operand.tmp 12), type := 3, pos := "laws.go:160", after := #[{ on := 13, ground := Go.Ground.guard }], guard := some (13, true) }) (v := ?v14) rfl (by kernel_rfl) (by kernel_rfl) (by kernel_rfl) (fun _ _ _ h => h) (Or.inl ⟨by rfl, ?y14⟩) hHeld9 ?z14
    case y14 =>
      intro w hSw
      (try dsimp only at hSw)
      go_simp
      try with_reducible rfl
    simp only [Act.put, List.setIfInBounds_toArray, List.set_cons_zero, List.set_cons_succ]
    refine wpAnyH_take (i := 15) (oi := { dst := some 178, op := Go.Op.binOp Go.BinOp.neq 3 (Go.Operand.tmp 177) (Go.Operand.const (Go.Value.int Go.IntKind.i64 0)) 3, type := 4, pos := "laws.go:160", after := #[{ on := 14, ground := Go.Ground.data }, { on := 13, ground := Go.Ground.guard }], guard := some (13, true) }) (v := ?v15) rfl (by kernel_rfl) (by kernel_rfl) (by kernel_rfl) (fun _ _ _ h => h) (Or.inl ⟨by rfl, ?y15⟩) hHeld9 ?z15
    case y15 =>
      intro w hSw
      (try dsimp only at hSw)
      go_simp
      try with_reducible rfl
    simp only [Act.put, List.setIfInBounds_toArray, List.set_cons_zero, List.set_cons_succ]
    refine wpAnyH_take (i := 16) (oi := { dst := some 179, op := Go.Op.move (Go.Operand.tmp 178), type := 4, pos := "laws.go:160", after := #[{ on := 15, ground := Go.Ground.data }, { on := 13, ground := Go.Ground.chain }, { on := 13, ground := Go.Ground.guard }], guard := some (13, true) }) (v := ?v16) rfl (by kernel_rfl) (by kernel_rfl) (by kernel_rfl) (fun _ _ _ h => h) (Or.inl ⟨by rfl, ?y16⟩) hHeld9 ?z16
    case y16 =>
      intro w hSw
      (try dsimp only at hSw)
      go_simp
      try with_reducible rfl
    simp only [Act.put, List.setIfInBounds_toArray, List.set_cons_zero, List.set_cons_succ]
    refine wpAnyH_take (i := 17) (oi := { dst := some 180, op := Go.Op.fieldAddr 24 (Go.Operand.tmp 9) 1, type := 0, pos := "laws.go:160", after := #[{ on := 16, ground := Go.Ground.guard }], guard := some (16, false) }) (v := undef) rfl (by kernel_rfl) (by kernel_rfl) (by kernel_rfl) (fun _ _ _ h => h) (Or.inr ⟨by rfl, rfl⟩) hHeld9 ?_
    simp only [Act.put, List.setIfInBounds_toArray, List.set_cons_zero, List.set_cons_succ]
    refine wpAnyH_take (i := 18) (oi := { dst := some 181, op := Go.Op.load 9 (Go.Operand.tmp 180), type := 9, pos := "laws.go:160", after := #[{ on := 17, ground := Go.Ground.data }, { on := 16, ground := Go.Ground.guard }], guard := some (16, false) }) (v := undef) rfl (by kernel_rfl) (by kernel_rfl) (by kernel_rfl) (fun _ _ _ h => h) (Or.inr ⟨by rfl, rfl⟩) hHeld9 ?_
    simp only [Act.put, List.setIfInBounds_toArray, List.set_cons_zero, List.set_cons_succ]
    refine wpAnyH_take (i := 19) (oi := { dst := some 182, op := Go.Op.move (Go.Operand.tmp 6), type := 9, pos := "laws.go:160", after := #[{ on := 16, ground := Go.Ground.guard }], guard := some (16, false) }) (v := undef) rfl (by kernel_rfl) (by kernel_rfl) (by kernel_rfl) (fun _ _ _ h => h) (Or.inr ⟨by rfl, rfl⟩) hHeld9 ?_
    simp only [Act.put, List.setIfInBounds_toArray, List.set_cons_zero, List.set_cons_succ]
    refine wpAnyH_take (i := 20) (oi := { dst := some 183, op := Go.Op.binOp Go.BinOp.eql 9 (Go.Operand.tmp 181) (Go.Operand.tmp 182) 9, type := 4, pos := "laws.go:160", after := #[{ on := 18, ground := Go.Ground.data }, { on := 19, ground := Go.Ground.data }, { on := 16, ground := Go.Ground.guard }], guard := some (16, false) }) (v := undef) rfl (by kernel_rfl) (by kernel_rfl) (by kernel_rfl) (fun _ _ _ h => h) (Or.inr ⟨by rfl, rfl⟩) hHeld9 ?_
    simp only [Act.put, List.setIfInBounds_toArray, List.set_cons_zero, List.set_cons_succ]
    refine wpAnyH_take (i := 21) (oi := { dst := some 184, op := Go.Op.move (Go.Operand.tmp 183), type := 4, pos := "laws.go:160", after := #[{ on := 20, ground := Go.Ground.data }, { on := 16, ground := Go.Ground.chain }, { on := 16, ground := Go.Ground.guard }], guard := some (16, false) }) (v := undef) rfl (by kernel_rfl) (by kernel_rfl) (by kernel_rfl) (fun _ _ _ h => h) (Or.inr ⟨by rfl, rfl⟩) hHeld9 ?_
    simp only [Act.put, List.setIfInBounds_toArray, List.set_cons_zero, List.set_cons_succ]
    refine wpAnyH_take (i := 22) (oi := { dst := some 185, op := Go.Op.fieldAddr 24 (Go.Operand.tmp 9) 2, type := 0, pos := "laws.go:160", after := #[{ on := 21, ground := Go.Ground.guard }], guard := some (21, true) }) (v := undef) rfl (by kernel_rfl) (by kernel_rfl) (by kernel_rfl) (fun _ _ _ h => h) (Or.inr ⟨by rfl, rfl⟩) hHeld9 ?_
    simp only [Act.put, List.setIfInBounds_toArray, List.set_cons_zero, List.set_cons_succ]
    refine wpAnyH_take (i := 23) (oi := { dst := some 186, op := Go.Op.load 9 (Go.Operand.tmp 185), type := 9, pos := "laws.go:160", after := #[{ on := 22, ground := Go.Ground.data }, { on := 21, ground := Go.Ground.guard }], guard := some (21, true) }) (v := undef) rfl (by kernel_rfl) (by kernel_rfl) (by kernel_rfl) (fun _ _ _ h => h) (Or.inr ⟨by rfl, rfl⟩) hHeld9 ?_
    simp only [Act.put, List.setIfInBounds_toArray, List.set_cons_zero, List.set_cons_succ]
    refine wpAnyH_take (i := 24) (oi := { dst := some 187, op := Go.Op.move (Go.Operand.tmp 7), type := 9, pos := "laws.go:160", after := #[{ on := 21, ground := Go.Ground.guard }], guard := some (21, true) }) (v := undef) rfl (by kernel_rfl) (by kernel_rfl) (by kernel_rfl) (fun _ _ _ h => h) (Or.inr ⟨by rfl, rfl⟩) hHeld9 ?_
    simp only [Act.put, List.setIfInBounds_toArray, List.set_cons_zero, List.set_cons_succ]
    refine wpAnyH_take (i := 25) (oi := { dst := some 188, op := Go.Op.binOp Go.BinOp.eql 9 (Go.Operand.tmp 186) (Go.Operand.tmp 187) 9, type := 4, pos := "laws.go:160", after := #[{ on := 23, ground := Go.Ground.data }, { on := 24, ground := Go.Ground.data }, { on := 21, ground := Go.Ground.guard }], guard := some (21, true) }) (v := undef) rfl (by kernel_rfl) (by kernel_rfl) (by kernel_rfl) (fun _ _ _ h => h) (Or.inr ⟨by rfl, rfl⟩) hHeld9 ?_
    simp only [Act.put, List.setIfInBounds_toArray, List.set_cons_zero, List.set_cons_succ]
    refine wpAnyH_take (i := 26) (oi := { dst := some 189, op := Go.Op.pick (Go.Operand.tmp 184) (Go.Operand.tmp 188) (Go.Operand.const (Go.Value.bool false)), type := 4, pos := "laws.go:160", after := #[{ on := 21, ground := Go.Ground.data }, { on := 25, ground := Go.Ground.data }, { on := 16, ground := Go.Ground.guard }], guard := some (16, false) }) (v := undef) rfl (by kernel_rfl) (by kernel_rfl) (by kernel_rfl) (fun _ _ _ h => h) (Or.inr ⟨by rfl, rfl⟩) hHeld9 ?_
    simp only [Act.put, List.setIfInBounds_toArray, List.set_cons_zero, List.set_cons_succ]
    refine wpAnyH_take (i := 27) (oi := { dst := some 190, op := Go.Op.pick (Go.Operand.tmp 179) (Go.Operand.const (Go.Value.bool true)) (Go.Operand.tmp 189), type := 4, pos := "laws.go:160", after := #[{ on := 16, ground := Go.Ground.data }, { on := 26, ground := Go.Ground.data }, { on := 13, ground := Go.Ground.guard }], guard := some (13, true) }) (v := ?v27) rfl (by kernel_rfl) (by kernel_rfl) (by kernel_rfl) (fun _ _ _ h => h) (Or.inl ⟨by rfl, ?y27⟩) hHeld9 ?z27
    case y27 =>
      intro w hSw
      (try dsimp only at hSw)
      go_simp
      try with_reducible rfl
    simp only [Act.put, List.setIfInBounds_toArray, List.set_cons_zero, List.set_cons_succ]
    refine wpAnyH_take (i := 28) (oi := { dst := some 191, op := Go.Op.pick (Go.Operand.tmp 176) (Go.Operand.tmp 190) (Go.Operand.const (Go.Value.bool false)), type := 4, pos := "laws.go:160", after := #[{ on := 13, ground := Go.Ground.data }, { on := 27, ground := Go.Ground.data }], guard := none }) (v := ?v28) rfl (by kernel_rfl) (by kernel_rfl) (by kernel_rfl) (fun _ _ _ h => h) (Or.inl ⟨by rfl, ?y28⟩) hHeld9 ?z28
    case y28 =>
      intro w hSw
      (try dsimp only at hSw)
      go_simp
      try with_reducible rfl
    simp only [Act.put, List.setIfInBounds_toArray, List.set_cons_zero, List.set_cons_succ]
    refine wpAnyH_take (i := 29) (oi := { dst := some 4, op := Go.Op.assign (Go.Operand.tmp 191), type := 4, pos := "laws.go:160", after := #[{ on := 28, ground := Go.Ground.data }, { on := 21, ground := Go.Ground.chain }, { on := 0, ground := Go.Ground.phase }, { on := 1, ground := Go.Ground.phase }, { on := 2, ground := Go.Ground.phase }, { on := 3, ground := Go.Ground.phase }, { on := 4, ground := Go.Ground.phase }, { on := 5, ground := Go.Ground.phase }, { on := 6, ground := Go.Ground.phase }, { on := 7, ground := Go.Ground.phase }, { on := 8, ground := Go.Ground.phase }, { on := 9, ground := Go.Ground.phase }, { on := 10, ground := Go.Ground.phase }, { on := 11, ground := Go.Ground.phase }, { on := 12, ground := Go.Ground.phase }, { on := 13, ground := Go.Ground.phase }, { on := 14, ground := Go.Ground.phase }, { on := 15, ground := Go.Ground.phase }, { on := 16, ground := Go.Ground.phase }, { on := 17, ground := Go.Ground.phase }, { on := 18, ground := Go.Ground.phase }, { on := 19, ground := Go.Ground.phase }, { on := 20, ground := Go.Ground.phase }, { on := 21, ground := Go.Ground.phase }, { on := 22, ground := Go.Ground.phase }, { on := 23, ground := Go.Ground.phase }, { on := 24, ground := Go.Ground.phase }, { on := 25, ground := Go.Ground.phase }, { on := 26, ground := Go.Ground.phase }, { on := 27, ground := Go.Ground.phase }, { on := 28, ground := Go.Ground.phase }], guard := none }) (v := ?v29) rfl (by kernel_rfl) (by kernel_rfl) (by kernel_rfl) (fun _ _ _ h => h) (Or.inl ⟨by rfl, ?y29⟩) hHeld9 ?z29
    case y29 =>
      intro w hSw
      (try dsimp only at hSw)
      go_simp
      try with_reducible rfl
    simp only [Act.put, List.setIfInBounds_toArray, List.set_cons_zero, List.set_cons_succ]
    refine wpAnyH_done (by kernel_rfl) ?_ _
    all_goals
      go_wp2_with fail
      go_ret
      exact ⟨rfl, HBW11.out.trans (HZ.out.mono HBW11.out.size)⟩

set_option maxRecDepth 100000 in
set_option maxHeartbeats 1000000 in
theorem walk (a0 : Option Addr) (len0 cap0 : Nat) (z0 : List Int) (a1 : Option Addr) (len1 cap1 : Nat) (z1 : List Int) (w : World) (r0 : IsRow .u8 w a0 len0 cap0 z0) (r1 : IsRow .u8 w a1 len1 cap1 z1) (ht : Tab w) :
    Calls Tryd.prog 3 #[.slice a0 len0 cap0, .slice a1 len1 cap1] w fun e w' => e = .returned (.bool true) ∧ Below w.heap.size w w' := by
  by_cases h0 : len0 ≤ 1048576
  · by_cases h1 : len1 ≤ 1048576
    · obtain ⟨v0, c0, _⟩ := r0.vals h0
      obtain ⟨v1, c1, n1⟩ := r1.vals h1
      exact walk_small a0 len0 cap0 a1 len1 cap1 _ w v0.byts c0 h0 v1 c1 h1 n1 ht
    · have hd0 : decide ((1048576 : Int) < (len0 : Int)) = false := by simp; omega
      have hd1 : decide ((1048576 : Int) < (len1 : Int)) = true := by simp; omega
      clear r0 r1
      go_enter Tryd.func3, Tryd.ntmps3
      go_wp2_with fail
      go_ret
      exact ⟨rfl, Below.refl _ _⟩
  · have hd0 : decide ((1048576 : Int) < (len0 : Int)) = true := by simp; omega
    clear r0 r1
    go_enter Tryd.func3, Tryd.ntmps3
    go_wp2_with fail
    go_ret
    exact ⟨rfl, Below.refl _ _⟩

theorem own : ownKnob Tryd.prog.godebug = none := by kernel_rfl
theorem laidOut : laidOutB Tryd.prog = true := by kernel_rfl

theorem contract (H : Type) (enc : TypeId × Value → H) (W : World) (base : Nat) (args : Array Value) (ds gs : List (DataW H)) (before : List MemPlace)
    (hval : ∀ (j : Nat) t v, Tryd.f3.params[j]? = some t → args[j]? = some v → Value.okWide Tryd.prog W .any base t v)
    (hW : DataW.Whole enc Tryd.prog Tryd.f3.params.toList Rows.fnRecordsSpec.vars false W args.toList ds gs before) (hL : laidMetH Tryd.prog Rows.fnRecordsRow.laid W) :
    Calls Tryd.prog 3 args W fun e W' => ∃ v, e = .returned v ∧ Rows.fnRecordsSpec.post enc Tryd.prog Tryd.f3 false true false false W args v W' := by
  have hW' := hW
  obtain ⟨p, q, hA0, hV0, rfl, hfz, hnd⟩ := hW
  have hA : DataW.TrodAll enc Tryd.prog W 0 (fun _ => true) true Tryd.f3.params.toList args.toList ds p := hA0
  have hV : DataW.TrodVars enc Tryd.prog W (fun _ => true) ["loop.example/g00798/impl.kindRules"] gs q := hV0
  rw [Tryd.params3] at hA hval
  obtain ⟨v0, vs0, d0, ds0, p0, q0, hargs, rfl, rfl, h0, r0⟩ := trodAll_cons hA
  obtain ⟨v1, vs1, d1, ds1, p1, q1, rfl, rfl, rfl, h1, r1⟩ := trodAll_cons r0
  obtain ⟨rfl, rfl, rfl⟩ := trodAll_nil r1
  obtain rfl : args = #[v0, v1] := by cases args; simp_all
  obtain ⟨g, t, cs, fuel, d, p', rfl, hg, ht, hvar, hd, rfl⟩ := trodVars_one hV
  obtain rfl := Option.some.inj (Recs.gTab.symm.trans hg)
  obtain rfl := Option.some.inj (Recs.gTabType.symm.trans ht)
  have k0 := h0
  have lt0 : ∀ x ∈ p0, x.block < W.heap.size := by obtain ⟨m, hm⟩ := k0; exact DataW.trod_lt m _ _ _ hm
  obtain ⟨a0, len0, cap0, rfl⟩ := okWide_slice Tryd.underlying22 (hval 0 22 v0 rfl rfl)
  obtain ⟨z0, w0⟩ : ∃ zs, IsRow .u8 W a0 len0 cap0 zs := by
    obtain ⟨fuel, hf⟩ := h0
    rcases open_ints Tryd.underlying22 Tryd.underlying5 (by kernel_rfl) hf with ⟨hcs, _⟩ | ⟨x, l, c, zs, hcs, _, hl, hm, hz, _, hcell, hwz⟩
    · simp [Value.cells] at hcs
      obtain ⟨rfl, rfl, rfl⟩ := hcs
      exact ⟨[], .inl ⟨rfl, rfl, rfl, rfl⟩⟩
    · simp [Value.cells] at hcs
      obtain ⟨rfl, rfl, rfl⟩ := hcs
      exact ⟨zs, .inr ⟨_, rfl, hl, hm, by simpa using hz, hcell, hwz⟩⟩
  have k1 := h1
  have lt1 : ∀ x ∈ p1, x.block < W.heap.size := by obtain ⟨m, hm⟩ := k1; exact DataW.trod_lt m _ _ _ hm
  obtain ⟨a1, len1, cap1, rfl⟩ := okWide_slice Tryd.underlying22 (hval 1 22 v1 rfl rfl)
  obtain ⟨z1, w1⟩ : ∃ zs, IsRow .u8 W a1 len1 cap1 zs := by
    obtain ⟨fuel, hf⟩ := h1
    rcases open_ints Tryd.underlying22 Tryd.underlying5 (by kernel_rfl) hf with ⟨hcs, _⟩ | ⟨x, l, c, zs, hcs, _, hl, hm, hz, _, hcell, hwz⟩
    · simp [Value.cells] at hcs
      obtain ⟨rfl, rfl, rfl⟩ := hcs
      exact ⟨[], .inl ⟨rfl, rfl, rfl, rfl⟩⟩
    · simp [Value.cells] at hcs
      obtain ⟨rfl, rfl, rfl⟩ := hcs
      exact ⟨zs, .inr ⟨_, rfl, hl, hm, by simpa using hz, hcell, hwz⟩⟩
  clear hA0 hV0 hA hV
  have hltv : ∀ x ∈ p', x.block < W.heap.size := fun x hx => hW'.lt x (List.mem_append_right _ (List.mem_append_right _ hx))
  have hT := Recs.table hL
  refine (walk a0 len0 cap0 z0 a1 len1 cap1 z1 W w0 w1 hT).mono fun e W' ⟨he, bel⟩ => ?_
  subst he
  obtain ⟨fuel', hd'⟩ := Below.trod laidOut (by kernel_rfl) (of_decide_eq_true (by kernel_rfl)) (v := .agg cs) (⟨fuel, by simpa [Value.cells] using hd⟩ : DataW.Trod enc Tryd.prog W 0 (fun _ => true) true 53 (.agg cs) d p') bel hltv
  have hv' := trodVars_mk1 (enc := enc) (spare := fun b => decide (b < W.heap.size)) hg ht (var?_below bel hg hT.lt hvar) (by simpa [Value.cells] using hd')
  exact ⟨_, rfl, _, _, _, [], _, _, hW', trodAll_mk1 (shut_bool Tryd.underlying4 _), (trodAll_cons_mk (Below.trod laidOut (by kernel_rfl) (of_decide_eq_true (by kernel_rfl)) k0 bel lt0) (trodAll_cons_mk (Below.trod laidOut (by kernel_rfl) (of_decide_eq_true (by kernel_rfl)) k1 bel lt1) trodAll_mk0)), hv', bel.frame _, fun h => by cases h⟩

noncomputable def laidWorld (os : Os) : World :=
  { World.holding Tryd.prog os ⟨#[], #[], []⟩ with heap := (World.holding Tryd.prog os ⟨#[], #[], []⟩).heap.modify 0 fun
      | .cells _ t frozen => .cells Recs.cells t frozen
      | o => o }
theorem laid_met (os : Os) : laidMet Tryd.prog Rows.fnRecordsRow.laid ((laidWorld os).forCall (fun _ _ => 0) ⟨#[], #[.slice none 0 0, .slice none 0 0], []⟩).memory :=
  laidMet_of_run' 8 (by kernel_rfl) (by kernel_rfl)
theorem reads (os : Os) {H : Type} (enc : TypeId × Value → H) : DataW.whole enc Tryd.prog ((laidWorld os).forCall (fun _ _ => 0) ⟨#[], #[.slice none 0 0, .slice none 0 0], []⟩).memory Tryd.f3.params.toList Rows.fnRecordsSpec.vars false (#[.slice none 0 0, .slice none 0 0] : Array Value).toList 8 = some ([.nil, .nil], [Rows.laid_loop_example_g00798_impl_kindRules], MemPlace.row ⟨0, 0, none⟩ 20) := by
  kernel_rfl

set_option maxRecDepth 100000 in
theorem lifted (os : Os) (started : os.Started) (H : Type) (enc : TypeId × Value → H) (F : Stop.Interp) :
    ReturnsInHanded {} Tryd.checked os 3 .any ((OpenSpec.ofChange Rows.fnRecordsSpec).preRow enc Tryd.prog Tryd.f3 Rows.fnRecordsRow.domain false Rows.fnRecordsRow.laid) (((OpenSpec.ofChange Rows.fnRecordsSpec).at F).post enc Tryd.prog Tryd.f3 false true false false) := by
  refine returnsInHanded_of_row (C := Tryd.checked) (s := OpenSpec.ofChange Rows.fnRecordsSpec) own started (by kernel_rfl) Tryd.func3
    (witness_row_at (enc := enc) (C := Tryd.checked) false (laidWorld os) #[.slice none 0 0, .slice none 0 0] rfl (by kernel_rfl) (by kernel_rfl) (by kernel_rfl)
      (OpenSpec.preRow_of_cond 8 (reads os enc) (by kernel_rfl) (fun k hk => by cases hk) (by kernel_rfl) (laid_met os))) ?_
  intro W base args ds gs before hval hW _ _ _ hL _ _
  exact contract H enc W base args ds gs before hval hW hL

theorem said : Rows.FnRecordsSaid :=
  OpenClaim.holds_of_cond 3 Tryd.f3 rfl rfl rfl rfl rfl rfl rfl ⟨rfl, rfl, rfl, rfl, rfl⟩ rfl rfl rfl rfl rfl (by kernel_rfl) Tryd.func3 (by kernel_rfl)
    (of_decide_eq_true (by kernel_rfl)) (by unfold Func.isWrapper; first | (rw [if_pos (by decide +kernel)]; kernel_rfl) | (rw [if_neg (by decide +kernel)]; exact ⟨rfl, rfl⟩))
    (fun os started H enc _ F => by rw [OpenClaim.pre_eq_preRow]; exact lifted os started H enc F)

/-- No parameter wants a stand-in; the program's own looks are off. -/
theorem plain (f : FuncId) (fn : Func) (hf : Tryd.pinned.checked.prog.funcNamed Rows.fnRecordsRow.func = some f) (hfn : Tryd.pinned.checked.prog.funcs[f]? = some fn) :
    false = Tryd.pinned.checked.prog.looks [] ∧ ∀ (j : Nat) t, fn.params[j]? = some t → Tryd.pinned.checked.prog.wantsStandIn t = false := by
  obtain rfl : f = 3 := Option.some.inj ((show Tryd.prog.funcNamed Rows.fnRecordsRow.func = some 3 by kernel_rfl).symm.trans hf) |>.symm
  obtain rfl : fn = Tryd.f3 := (Option.some.inj (Tryd.func3.symm.trans hfn)).symm
  refine ⟨by kernel_rfl, fun j t ht => ?_⟩
  rw [Tryd.params3] at ht
  have hm := Array.mem_of_getElem? ht
  have hm' : t = 22 := by simpa using hm
  rcases hm' with rfl
  · exact (show Tryd.prog.wantsStandIn 22 = false by kernel_rfl)

theorem proved : Rows.FnRecordsCardSaid :=
  Claim7.holds_tied_plain_at .later [] _ _ _ _ said (fun _ h => by cases h) (by kernel_rfl) (fun _ h => by cases h) fnRecords_row_tie rfl ⟨rfl, rfl⟩ (by kernel_rfl) rfl plain (by kernel_rfl)
end Go.Proofs.YtgoenokkaagdeaaDoor.LawRecords
