/- Parts of several texts of mine in one file (each begins with its own remark). -/
import Derived.Test.YtibekkfbpmloiabGreatDoorCA10
import Derived.Test.YtibekkfbpmloiabGreatDoorCA14
import Derived.Test.YtibekkfbpmloiabGreatDoorCA15
import Derived.Test.YtibekkfbpmloiabGreatDoorCA16
import Derived.Test.YtibekkfbpmloiabGreatDoorCA2
import Derived.Test.YtibekkfbpmloiabGreatDoorCA22
import Derived.Test.YtibekkfbpmloiabGreatDoorCA3
import Derived.Test.YtibekkfbpmloiabGreatDoorCA4
import Derived.Test.YtibekkfbpmloiabGreatDoorCA5
import Derived.Test.YtibekkfbpmloiabGreatDoorCA6
import Derived.Test.YtibekkfbpmloiabGreatDoorCA7
import Derived.Test.YtibekkfbpmloiabGreatDoorCA9
import Derived.Test.YtibekkfbpmloiabGreatDoorCC1
import Derived.Test.YtibekkfbpmloiabGreatDoorCC10
import Derived.Test.YtibekkfbpmloiabGreatDoorCC11
import Derived.Test.YtibekkfbpmloiabGreatDoorCC12
import Derived.Test.YtibekkfbpmloiabGreatDoorCC5
import Derived.Test.YtibekkfbpmloiabGreatDoorCC8
import Derived.Test.YtibekkfbpmloiabGreatDoorCD1
import Derived.Test.YtibekkfbpmloiabGreatDoorChecked
import Derived.Test.YtibekkfbpmloiabGreatDoorShelf
import Derived.Test.YtibekkfbpmloiabGreatDoorProg
import Derived.Test.YtibekkfbpmloiabGreatDoorRows
import Derived.Deep.RegionHeld3
import Derived.BigRegion
import Derived.StillTailTactics
import Derived.Deep.Slices
import Derived.OpenShut
import Derived.ShutString
import Derived.ChangeArms
import Derived.WideShapes
import Derived.Lib.LaidTab
import Derived.BigQuiet
import Derived.Deep.QuietTactic
import Derived.Deep.Draws
import Derived.Deep.LoopGhost
import Derived.WalkKit
import Derived.WalkSpells
import Derived.WalkSmall
import Derived.Lib.OthersKept
import Derived.Lib.Hide
import Derived.Lib.Strings
import Derived.Lib.Join
import Derived.WalkLawsBesides
import Derived.Laws.BytesArg
import Derived.Laws.OwnMore
import Derived.Stop.LaidErr
import Derived.LaidEql
import Derived.Stop.Asserts
import Derived.Below
import Derived.Stop.LaidTwo
import Derived.RangeFuncNested
import Derived.RangeFuncBound
import Derived.RangeFuncCalls
import Derived.RangeFuncLeaves
import Derived.RangeFuncBox
import Derived.Shelf.Abstract
import Derived.Shelf.RegionOpen
import Derived.OwnWalkIn
import Derived.TacticsInMore
import Derived.LoopNIn
import Derived.LoopIn
import Derived.ChangeVars
import Derived.Deep.DeepHandedRow
import Derived.Deep.RegionWith
import Derived.OneCell
import Derived.Lib.SliceRun
import Derived.Lib.Overlaps
import Derived.Lib.AppendZerosOnto
import Derived.Laws.NewBlocks
import Derived.Laws.IdiomCopy
import Derived.Deep.RegionLaw
/- Touched, of the model; the model's check of two trees. -/
namespace Go.Proofs.YtibekkfbpmloiabGreatDoor.Recs
set_option maxRecDepth 100000
open Go.RowKit Paths Errs

set_option maxHeartbeats 800000 in
theorem l08Ask_any (v1 v2 : Value) (A B : List R) (w : World) (h1 : NodSl w v1 A) (h2 : NodSl w v2 B) (hl1 : A.length ≤ 1048576) (hl2 : B.length ≤ 1048576) :
    Calls Tryz.prog 72 #[v1, v2] w fun e w' => e = .returned (.int .i64 (codeNN A B)) ∧ Below w.heap.size w w' := by
  have HC1 := l04OK_any v1 A w h1 hl1
  have HC2 := fun w1 (hb : Below w.heap.size w w1) => l04OK_any v2 B w1 (h2.below hb) hl2
  obtain ⟨a1, cap1, rfl⟩ := nodSl_form h1
  obtain ⟨a2, cap2, rfl⟩ := nodSl_form h2
  clear h1 h2
  by_cases k1 : 4096 < A.length
  · have hd : decide ((4096 : Int) < (A.length : Int)) = true := by simp; omega
    have HQ := Lib.hid (nn_long (A := A) (B := B) (.inl k1))
    clear k1
    go_enter Tryz.func72, Tryz.ntmps72
    go_wp2_with fail
    go_ret
    exact ⟨by rw [HQ.out]; rfl, Below.refl _ _⟩
  have hd1 : decide ((4096 : Int) < (A.length : Int)) = false := by simp; omega
  by_cases k2 : 4096 < B.length
  · have hd : decide ((4096 : Int) < (B.length : Int)) = true := by simp; omega
    have HQ := Lib.hid (nn_long (A := A) (B := B) (.inr k2))
    clear k1 k2
    go_enter Tryz.func72, Tryz.ntmps72
    go_wp2_with fail
    go_ret
    exact ⟨by rw [HQ.out]; rfl, Below.refl _ _⟩
  have hd2 : decide ((4096 : Int) < (B.length : Int)) = false := by simp; omega
  have hkk : ¬ (4096 < A.length ∨ 4096 < B.length) := by omega
  cases ha : treeOK A with
  | false =>
    rw [ha] at HC1
    have HQ := Lib.hid (nn_bad hkk (by rw [ha]; rfl))
    clear k1 k2 hkk ha
    go_enter Tryz.func72, Tryz.ntmps72
    go_wp2_with fail
    refine HC1.mono ?_
    rintro e w1 ⟨rfl, hb1⟩
    go_wp2_with fail
    go_ret
    exact ⟨by rw [HQ.out]; rfl, hb1⟩
  | true =>
    cases hb : treeOK B with
    | false =>
      rw [ha] at HC1
      rw [hb] at HC2
      have HQ := Lib.hid (nn_bad hkk (by rw [ha, hb]; rfl))
      clear k1 k2 hkk ha hb
      go_enter Tryz.func72, Tryz.ntmps72
      go_wp2_with fail
      refine HC1.mono ?_
      rintro e w1 ⟨rfl, hb1⟩
      go_wp2_with fail
      refine (HC2 _ hb1).mono ?_
      rintro e w2 ⟨rfl, hb2⟩
      go_wp2_with fail
      go_ret
      exact ⟨by rw [HQ.out]; rfl, hb1.trans (hb2.mono hb1.size)⟩
    | true =>
      rw [ha] at HC1
      rw [hb] at HC2
      have HQ := Lib.hid (nn_fine hkk (by rw [ha, hb]; rfl))
      clear k1 k2 hkk ha hb
      go_enter Tryz.func72, Tryz.ntmps72
      go_wp2_with fail
      refine HC1.mono ?_
      rintro e w1 ⟨rfl, hb1⟩
      go_wp2_with fail
      refine (HC2 _ hb1).mono ?_
      rintro e w2 ⟨rfl, hb2⟩
      go_wp2_with fail
      go_ret
      exact ⟨by rw [HQ.out]; rfl, hb1.trans (hb2.mono hb1.size)⟩

set_option maxHeartbeats 6400000 in
theorem touched_spec (v1 v2 : Value) (A B : List R) (w : World) (h1 : NodSl w v1 A) (h2 : NodSl w v2 B) (hl1 : A.length ≤ 1048576) (hl2 : B.length ≤ 1048576) :
    Calls Tryz.prog 16 #[v1, v2] w fun e w' => ∃ z, e = .returned (.tuple #[z, .int .i64 (codeNN A B)]) ∧ Below w.heap.size w w' ∧ w'.ownsRow w.heap.size 9 1 z (tchR A B).length ((tchR A B).map strV) := by
  obtain ⟨i0, hi, hz0, hz1, hz2⟩ := info_parts strInfo
  have HAK := fun w1 (hb : Below w.heap.size w w1) => l08Ask_any v1 v2 A B w1 (h1.below hb) (h2.below hb) hl1 hl2
  have HS1 := Lib.hid h1
  have HS2 := Lib.hid h2
  have E0 : Hid (∀ W, Below w.heap.size w W → (W.alloc (.cells #[] 9)).ownsRow w.heap.size 9 1 (.slice (some ⟨W.heap.size, 0, none⟩) 0 0) 0 []) := fun W hW => World.ownsRow_lit W #[] 0 hW.size (Nat.zero_le _) rfl
  obtain ⟨ho1, a1, cap1, rfl, hcap1, h1⟩ := h1
  obtain ⟨ho2, a2, cap2, rfl, hcap2, h2⟩ := h2
  have H1 := Lib.hid h1
  have H2 := Lib.hid h2
  have HO1 := Lib.hid ho1
  have HO2 := Lib.hid ho2
  clear h1 h2 ho1 ho2
  by_cases k1 : 4096 < A.length ∨ 4096 < B.length
  · have HQ := Lib.hid (nn_long k1)
    have HR := Lib.hid (tch_bad (nn_long k1) (by decide))
    by_cases k2 : 4096 < A.length
    · have hd : decide ((4096 : Int) < (A.length : Int)) = true := by simp; omega
      clear k1 k2
      go_enter Tryz.func16, Tryz.ntmps16
      go_wp2_with fail
      go_ret2
      exact ⟨_, by rw [HQ.out]; rfl, (Below.refl _ _).alloc (Nat.le_refl _) _, by rw [HR.out]; exact E0.out _ (Below.refl _ _)⟩
    · have hd : decide ((4096 : Int) < (A.length : Int)) = false := by simp; omega
      have hd2 : decide ((4096 : Int) < (B.length : Int)) = true := by simp; omega
      clear k1 k2
      go_enter Tryz.func16, Tryz.ntmps16
      go_wp2_with fail
      go_ret2
      exact ⟨_, by rw [HQ.out]; rfl, (Below.refl _ _).alloc (Nat.le_refl _) _, by rw [HR.out]; exact E0.out _ (Below.refl _ _)⟩
  have hd1 : decide ((4096 : Int) < (A.length : Int)) = false := by simp; omega
  have hd2 : decide ((4096 : Int) < (B.length : Int)) = false := by simp; omega
  by_cases h0 : codeNN A B = 0
  · obtain ⟨ht1, ht2⟩ := nn_ok h0
    have H0 := Lib.hid h0
    have h48 := chgs_48 h0
    have HTA := Lib.hid (tree_of ht1)
    have HTB := Lib.hid (tree_of ht2)
    have HR : Hid (tchR A B = cbts (chgs A B)) := tch_ok h0
    have hlA := HTA.out.len
    have hlB := HTB.out.len
    have HLS : Hid (∀ x ∈ A, ∀ y ∈ B, ∀ w', Calls Tryz.prog 76 #[.string x.p, .string y.p] w' fun e w'' => e = .returned (.bool (lessR x y)) ∧ Below w'.heap.size w' w'') := fun x hx y hy w' => l01Less_any x.p y.p w' (pth_64 (HTA.out.is.path x hx)) (pth_64 (HTB.out.is.path y hy))
    have HLT : Hid (∀ x ∈ A, ∀ y ∈ B, ∀ w', Calls Tryz.prog 76 #[.string y.p, .string x.p] w' fun e w'' => e = .returned (.bool (lessR y x)) ∧ Below w'.heap.size w' w'') := fun x hx y hy w' => l01Less_any y.p x.p w' (pth_64 (HTB.out.is.path y hy)) (pth_64 (HTA.out.is.path x hx))
    rw [h0] at HAK
    clear h0 ht1 ht2 k1
    go_enter Tryz.func16, Tryz.ntmps16
    go_wp2_with fail
    refine (HAK _ (Below.refl _ _)).mono ?_
    rintro e w1 ⟨rfl, hb1⟩
    have HRow0 := Lib.hid (E0.out _ hb1)
    have hbA := hb1.alloc hb1.size (.cells #[] 9)
    go_wp2_with fail
    go_loopw [7, 8, 9] (fun f i k wr => ∃ (n m : Nat) (M : List (List UInt8)), n ≤ A.length ∧ m ≤ B.length ∧ i = .int .i64 n ∧ k = .int .i64 m ∧ Hid (M ++ cbts (chgs (A.drop n) (B.drop m)) = cbts (chgs A B)) ∧ M.length + (A.length - n) + (B.length - m) ≤ 48 ∧ wr.ownsRow w.heap.size 9 1 f M.length (M.map strV) ∧ Below w.heap.size w wr) (fun _ i k _ => (A.length - (intOf i).toNat) + (B.length - (intOf k).toNat))
    case atStart => exact ⟨0, 0, [], by omega, by omega, rfl, rfl, rfl, by simp; omega, HRow0.out, hbA⟩
    case round =>
      obtain ⟨n, m, M, hn, hm, rfl, rfl, HM, hML, hrow, hbw⟩ := hrel
      obtain ⟨fA, fcap, rfl⟩ := own_form hrow
      by_cases hlm : m < B.length
      · obtain ⟨b2, off2, rfl, hb2, hcell2⟩ := H2.out (by omega)
        have HY : Hid (∀ W, Below w.heap.size w W → NodCells W b2 (off2 + m * 4) B[m]) := fun W hW => (hcell2 m B[m] (by simp [hlm])).below hW hb2
        have him : (m : Int) < (B.length : Int) := by omega
        have him0 : (0 : Int) ≤ (m : Int) := by omega
        have hpm : decide ((m : Int) < (B.length : Int)) = true := decide_eq_true him
        have hpm' : decide (m < B.length) = true := decide_eq_true hlm
        have HDY := Lib.hid (List.drop_eq_getElem_cons hlm)
        have HMY := Lib.hid (List.getElem_mem hlm)
        clear hcell2
        have hmB : ((m : Int) == (B.length : Int)) = false := by simp; omega
        by_cases hln : n < A.length
        · obtain ⟨b1, off1, rfl, hb1, hcell1⟩ := H1.out (by omega)
          have HX : Hid (∀ W, Below w.heap.size w W → NodCells W b1 (off1 + n * 4) A[n]) := fun W hW => (hcell1 n A[n] (by simp [hln])).below hW hb1
          have hin : (n : Int) < (A.length : Int) := by omega
          have hin0 : (0 : Int) ≤ (n : Int) := by omega
          have hpn : decide ((n : Int) < (A.length : Int)) = true := decide_eq_true hin
          have hpn' : decide (n < A.length) = true := decide_eq_true hln
          have HDX := Lib.hid (List.drop_eq_getElem_cons hln)
          have HMX := Lib.hid (List.getElem_mem hln)
          clear hcell1
          have hnA : ((n : Int) == (A.length : Int)) = false := by simp; omega
          have HLE := Lib.hid (HLS.out _ HMX.out _ HMY.out)
          have HLF := Lib.hid (HLT.out _ HMX.out _ HMY.out)
          have HOX := Lib.hid (HO1.out _ HMX.out)
          have HOY := Lib.hid (HO2.out _ HMY.out)
          generalize hxx : A[n] = x at *
          clear hxx
          generalize hyy : B[m] = y at *
          clear hyy
          have hgr1 : b1 < wr.heap.size := Nat.lt_of_lt_of_le hb1 hbw.size
          have hgr2 : b2 < wr.heap.size := Nat.lt_of_lt_of_le hb2 hbw.size
          obtain ⟨_, x1, _, _⟩ := HX.out _ hbw
          obtain ⟨_, y1, _, _⟩ := HY.out _ hbw
          rcases Bool.eq_false_or_eq_true (lessR x y) with hls | hls
          · rw [hls] at HLE
            have HN : Hid (M ++ [x.p.data.toList] ++ cbts (chgs (A.drop (n + 1)) (B.drop m)) = cbts (chgs A B)) := by
              show _ = _
              rw [← HM.out, HDX.out, HDY.out, chg_less hls]
              unfold cbts
              simp
            clear hls
            go_wp2_with fail
            go_region_held3 (fun w' => w'.cell? ⟨b1, off1 + n * 4 + 1, none⟩ = some (.string x.p) ∧ w'.cell? ⟨b2, off2 + m * 4 + 1, none⟩ = some (.string y.p)) (first | exact ⟨x1, y1⟩ | exact ⟨(hbc.cell (p := ⟨b1, off1 + n * 4 + 1, none⟩) hgr1).trans x1, (hbc.cell (p := ⟨b2, off2 + m * 4 + 1, none⟩) hgr2).trans y1⟩ | go_keep) (first | (go_at_call 76; refine (HLE.out _).mono ?_; rintro e w3 ⟨rfl, hbc⟩))
            have dw3 : Below w.heap.size w w3 := hbw.drew.trans (hbc.mono hbw.size)
            have rw3 : w3.ownsRow w.heap.size 9 1 (.slice fA M.length fcap) M.length (M.map strV) := own_below (own_below hrow (Below.refl _ _).drew) hbc
            clear hbc
            clear x1 y1
            obtain ⟨c0, c1, c2, c3⟩ := HX.out _ (dw3)
            have hr3 := (rw3)
            have hsz3 := (dw3).size
            go_wp2_with (first
              | (at_builtin; refine wpList_append_own _ rfl _ _ 32 rfl w.heap.size 9 i0 (.string ByteArray.empty) 1 16 Tryz.underlying32 hi hz0 hz1 hz2 rfl (by decide) _ _ _ rfl (hr3.alloc _) ⟨w3.heap.size, 0, none⟩ 1 1 [.string x.p] rfl rfl (cell_one_new _ _ _) (fun x hx => by simp at hx; subst hx; rfl) (by unfold maxLen; omega) (by omega) (by simp; omega) ?_; intro v' w9 hown' hgrow9 hnil9))
            exact ⟨⟨n + 1, m, M ++ [x.p.data.toList], by omega, by omega, by go_num, by go_num, HN, by rw [List.length_append, List.length_singleton]; omega, str_snoc hown', ((dw3).alloc hsz3 _).grown hgrow9 ((dw3).alloc hsz3 _).size (fun j hj => (hrow.lt j hj).1)⟩, by simp [intOf]; omega⟩
          · rw [hls] at HLE
            have HLSF := Lib.hid hls
            clear hls
            rcases Bool.eq_false_or_eq_true (lessR y x) with hmo | hmo
            · rw [hmo] at HLF
              have HN : Hid (M ++ [y.p.data.toList] ++ cbts (chgs (A.drop n) (B.drop (m + 1))) = cbts (chgs A B)) := by
                show _ = _
                rw [← HM.out, HDX.out, HDY.out, chg_more HLSF.out (fun e => less_ne hmo e.symm)]
                unfold cbts
                simp
              clear hmo
              go_wp2_with fail
              go_region_held3 (fun w' => w'.cell? ⟨b1, off1 + n * 4 + 1, none⟩ = some (.string x.p) ∧ w'.cell? ⟨b2, off2 + m * 4 + 1, none⟩ = some (.string y.p)) (first | exact ⟨x1, y1⟩ | exact ⟨(hbc.cell (p := ⟨b1, off1 + n * 4 + 1, none⟩) hgr1).trans x1, (hbc.cell (p := ⟨b2, off2 + m * 4 + 1, none⟩) hgr2).trans y1⟩ | go_keep) (first | (go_at_call 76; refine (HLE.out _).mono ?_; rintro e w3 ⟨rfl, hbc⟩))
              have dw3 : Below w.heap.size w w3 := hbw.drew.trans (hbc.mono hbw.size)
              have rw3 : w3.ownsRow w.heap.size 9 1 (.slice fA M.length fcap) M.length (M.map strV) := own_below (own_below hrow (Below.refl _ _).drew) hbc
              clear hbc
              clear x1 y1
              obtain ⟨_, x1, _, _⟩ := HX.out _ dw3
              obtain ⟨_, y1, _, _⟩ := HY.out _ dw3
              have hgr3 : b1 < w3.heap.size := Nat.lt_of_lt_of_le hb1 dw3.size
              have hgr4 : b2 < w3.heap.size := Nat.lt_of_lt_of_le hb2 dw3.size
              go_wp2_with fail
              go_region_held3 (fun w' => w'.cell? ⟨b1, off1 + n * 4 + 1, none⟩ = some (.string x.p) ∧ w'.cell? ⟨b2, off2 + m * 4 + 1, none⟩ = some (.string y.p)) (first | exact ⟨x1, y1⟩ | exact ⟨(hbc.cell (p := ⟨b1, off1 + n * 4 + 1, none⟩) hgr3).trans x1, (hbc.cell (p := ⟨b2, off2 + m * 4 + 1, none⟩) hgr4).trans y1⟩ | go_keep) (first | (go_at_call 76; refine (HLF.out _).mono ?_; rintro e w4 ⟨rfl, hbc⟩))
              have dw4 : Below w.heap.size w w4 := dw3.drew.trans (hbc.mono dw3.size)
              have rw4 : w4.ownsRow w.heap.size 9 1 (.slice fA M.length fcap) M.length (M.map strV) := own_below (own_below rw3 (Below.refl _ _).drew) hbc
              clear hbc
              clear x1 y1
              obtain ⟨c0, c1, c2, c3⟩ := HY.out _ (dw4)
              have hr3 := (rw4)
              have hsz3 := (dw4).size
              go_wp2_with (first
                | (at_builtin; refine wpList_append_own _ rfl _ _ 32 rfl w.heap.size 9 i0 (.string ByteArray.empty) 1 16 Tryz.underlying32 hi hz0 hz1 hz2 rfl (by decide) _ _ _ rfl (hr3.alloc _) ⟨w4.heap.size, 0, none⟩ 1 1 [.string y.p] rfl rfl (cell_one_new _ _ _) (fun x hx => by simp at hx; subst hx; rfl) (by unfold maxLen; omega) (by omega) (by simp; omega) ?_; intro v' w9 hown' hgrow9 hnil9))
              exact ⟨⟨n, m + 1, M ++ [y.p.data.toList], by omega, by omega, by go_num, by go_num, HN, by rw [List.length_append, List.length_singleton]; omega, str_snoc hown', ((dw4).alloc hsz3 _).grown hgrow9 ((dw4).alloc hsz3 _).size (fun j hj => (hrow.lt j hj).1)⟩, by simp [intOf]; omega⟩
            · rw [hmo] at HLF
              have HEQ : Hid (x.p = y.p) := bytes_cut (lessP_total _ _ HLSF.out hmo)
              clear hmo
              go_wp2_with fail
              go_region_held3 (fun w' => w'.cell? ⟨b1, off1 + n * 4 + 1, none⟩ = some (.string x.p) ∧ w'.cell? ⟨b2, off2 + m * 4 + 1, none⟩ = some (.string y.p)) (first | exact ⟨x1, y1⟩ | exact ⟨(hbc.cell (p := ⟨b1, off1 + n * 4 + 1, none⟩) hgr1).trans x1, (hbc.cell (p := ⟨b2, off2 + m * 4 + 1, none⟩) hgr2).trans y1⟩ | go_keep) (first | (go_at_call 76; refine (HLE.out _).mono ?_; rintro e w3 ⟨rfl, hbc⟩))
              have dw3 : Below w.heap.size w w3 := hbw.drew.trans (hbc.mono hbw.size)
              have rw3 : w3.ownsRow w.heap.size 9 1 (.slice fA M.length fcap) M.length (M.map strV) := own_below (own_below hrow (Below.refl _ _).drew) hbc
              clear hbc
              clear x1 y1
              obtain ⟨_, x1, _, _⟩ := HX.out _ dw3
              obtain ⟨_, y1, _, _⟩ := HY.out _ dw3
              have hgr3 : b1 < w3.heap.size := Nat.lt_of_lt_of_le hb1 dw3.size
              have hgr4 : b2 < w3.heap.size := Nat.lt_of_lt_of_le hb2 dw3.size
              go_wp2_with fail
              go_region_held3 (fun w' => w'.cell? ⟨b1, off1 + n * 4 + 1, none⟩ = some (.string x.p) ∧ w'.cell? ⟨b2, off2 + m * 4 + 1, none⟩ = some (.string y.p)) (first | exact ⟨x1, y1⟩ | exact ⟨(hbc.cell (p := ⟨b1, off1 + n * 4 + 1, none⟩) hgr3).trans x1, (hbc.cell (p := ⟨b2, off2 + m * 4 + 1, none⟩) hgr4).trans y1⟩ | go_keep) (first | (go_at_call 76; refine (HLF.out _).mono ?_; rintro e w4 ⟨rfl, hbc⟩))
              have dw4 : Below w.heap.size w w4 := dw3.drew.trans (hbc.mono dw3.size)
              have rw4 : w4.ownsRow w.heap.size 9 1 (.slice fA M.length fcap) M.length (M.map strV) := own_below (own_below rw3 (Below.refl _ _).drew) hbc
              clear hbc
              clear x1 y1
              obtain ⟨c0, c1, c2, c3⟩ := HX.out _ dw4
              obtain ⟨e0, e1, e2, e3⟩ := HY.out _ dw4
              have heq : (x.p.toList == y.p.toList) = true := by rw [HEQ.out]; simp
              have f4 : (x.o == y.o) = true := by rw [HOX.out, HOY.out]; rfl
              rcases four x y with f0 | ⟨f0, f1⟩ | ⟨f0, f1, f2⟩ | ⟨f0, f1, f2, f3⟩ | ⟨f0, f1, f2, f3⟩
              · have HN : Hid (M ++ [x.p.data.toList] ++ cbts (chgs (A.drop (n + 1)) (B.drop (m + 1))) = cbts (chgs A B)) := by
                  show _ = _
                  rw [← HM.out, HDX.out, HDY.out, chg_both HEQ.out (fun e => by rw [e] at f0; simp at f0)]
                  unfold cbts
                  rw [HEQ.out]
                  simp
                go_wp2_with fail
                go_quiet (fail)
                have hbq := below_drewN dw4 nq
                have hrq := own_below rw4 (below_drewN (Below.refl w4.heap.size w4) nq)
                obtain ⟨p0, p1, p2, p3⟩ := HX.out _ hbq
                clear c0 c1 c2 c3 e0 e1 e2 e3
                generalize w4.drewN nq = W at *
                have hr3 := (hrq)
                have hsz3 := (hbq).size
                go_wp2_with (first
                  | (at_builtin; refine wpList_append_own _ rfl _ _ 32 rfl w.heap.size 9 i0 (.string ByteArray.empty) 1 16 Tryz.underlying32 hi hz0 hz1 hz2 rfl (by decide) _ _ _ rfl (hr3.alloc _) ⟨W.heap.size, 0, none⟩ 1 1 [.string x.p] rfl rfl (cell_one_new _ _ _) (fun x hx => by simp at hx; subst hx; rfl) (by unfold maxLen; omega) (by omega) (by simp; omega) ?_; intro v' w9 hown' hgrow9 hnil9))
                exact ⟨⟨n + 1, m + 1, M ++ [x.p.data.toList], by omega, by omega, by go_num, by go_num, HN, by rw [List.length_append, List.length_singleton]; omega, str_snoc hown', ((hbq).alloc hsz3 _).grown hgrow9 ((hbq).alloc hsz3 _).size (fun j hj => (hrow.lt j hj).1)⟩, by simp [intOf]; omega⟩
              · rw [heq] at f1
                cases f1
              · have HN : Hid (M ++ [x.p.data.toList] ++ cbts (chgs (A.drop (n + 1)) (B.drop (m + 1))) = cbts (chgs A B)) := by
                  show _ = _
                  rw [← HM.out, HDX.out, HDY.out, chg_both HEQ.out (fun e => by rw [e] at f2; simp at f2)]
                  unfold cbts
                  rw [HEQ.out]
                  simp
                go_wp2_with fail
                go_quiet (fail)
                have hbq := below_drewN dw4 nq
                have hrq := own_below rw4 (below_drewN (Below.refl w4.heap.size w4) nq)
                obtain ⟨p0, p1, p2, p3⟩ := HX.out _ hbq
                clear c0 c1 c2 c3 e0 e1 e2 e3
                generalize w4.drewN nq = W at *
                have hr3 := (hrq)
                have hsz3 := (hbq).size
                go_wp2_with (first
                  | (at_builtin; refine wpList_append_own _ rfl _ _ 32 rfl w.heap.size 9 i0 (.string ByteArray.empty) 1 16 Tryz.underlying32 hi hz0 hz1 hz2 rfl (by decide) _ _ _ rfl (hr3.alloc _) ⟨W.heap.size, 0, none⟩ 1 1 [.string x.p] rfl rfl (cell_one_new _ _ _) (fun x hx => by simp at hx; subst hx; rfl) (by unfold maxLen; omega) (by omega) (by simp; omega) ?_; intro v' w9 hown' hgrow9 hnil9))
                exact ⟨⟨n + 1, m + 1, M ++ [x.p.data.toList], by omega, by omega, by go_num, by go_num, HN, by rw [List.length_append, List.length_singleton]; omega, str_snoc hown', ((hbq).alloc hsz3 _).grown hgrow9 ((hbq).alloc hsz3 _).size (fun j hj => (hrow.lt j hj).1)⟩, by simp [intOf]; omega⟩
              · have HN : Hid (M ++ [x.p.data.toList] ++ cbts (chgs (A.drop (n + 1)) (B.drop (m + 1))) = cbts (chgs A B)) := by
                  show _ = _
                  rw [← HM.out, HDX.out, HDY.out, chg_both HEQ.out (fun e => by rw [e] at f3; simp at f3)]
                  unfold cbts
                  rw [HEQ.out]
                  simp
                go_wp2_with fail
                go_quiet (fail)
                have hbq := below_drewN dw4 nq
                have hrq := own_below rw4 (below_drewN (Below.refl w4.heap.size w4) nq)
                obtain ⟨p0, p1, p2, p3⟩ := HX.out _ hbq
                clear c0 c1 c2 c3 e0 e1 e2 e3
                generalize w4.drewN nq = W at *
                have hr3 := (hrq)
                have hsz3 := (hbq).size
                go_wp2_with (first
                  | (at_builtin; refine wpList_append_own _ rfl _ _ 32 rfl w.heap.size 9 i0 (.string ByteArray.empty) 1 16 Tryz.underlying32 hi hz0 hz1 hz2 rfl (by decide) _ _ _ rfl (hr3.alloc _) ⟨W.heap.size, 0, none⟩ 1 1 [.string x.p] rfl rfl (cell_one_new _ _ _) (fun x hx => by simp at hx; subst hx; rfl) (by unfold maxLen; omega) (by omega) (by simp; omega) ?_; intro v' w9 hown' hgrow9 hnil9))
                exact ⟨⟨n + 1, m + 1, M ++ [x.p.data.toList], by omega, by omega, by go_num, by go_num, HN, by rw [List.length_append, List.length_singleton]; omega, str_snoc hown', ((hbq).alloc hsz3 _).grown hgrow9 ((hbq).alloc hsz3 _).size (fun j hj => (hrow.lt j hj).1)⟩, by simp [intOf]; omega⟩
              · have HN : Hid (M ++ cbts (chgs (A.drop (n + 1)) (B.drop (m + 1))) = cbts (chgs A B)) := by
                  show _ = _
                  rw [← HM.out, HDX.out, HDY.out, chg_same (rec_eq f0 f1 f2 f3 f4)]
                go_wp2_with fail
                go_quiet (fail)
                have hbq := below_drewN dw4 nq
                have hrq := own_below rw4 (below_drewN (Below.refl w4.heap.size w4) nq)
                generalize w4.drewN nq = W at *
                go_wp2_with fail
                exact ⟨⟨n + 1, m + 1, M, by omega, by omega, by go_num, by go_num, HN, by omega, hrq, hbq⟩, by simp [intOf]; omega⟩
        · obtain rfl : n = A.length := by omega
          have HDA : Hid (A.drop A.length = []) := List.drop_of_length_le (Nat.le_refl _)
          generalize hyy : B[m] = y at *
          clear hyy
          have HN : Hid (M ++ [y.p.data.toList] ++ cbts (chgs (A.drop A.length) (B.drop (m + 1))) = cbts (chgs A B)) := by
            show _ = _
            rw [← HM.out, HDA.out, HDY.out, chg_right]
            unfold cbts
            simp
          go_wp2_with fail
          go_quiet (fail)
          have hbq := below_drewN hbw nq
          have hrq := own_below hrow (below_drewN (Below.refl wr.heap.size wr) nq)
          generalize wr.drewN nq = W at *
          go_wp2_with fail
          go_quiet (fail)
          replace hbq := below_drewN hbq nq
          replace hrq := own_below hrq (below_drewN (Below.refl W.heap.size W) nq)
          generalize W.drewN nq = W at *
          obtain ⟨c0, c1, c2, c3⟩ := HY.out _ (hbq)
          have hr3 := (hrq)
          have hsz3 := (hbq).size
          go_wp2_with (first
            | (at_builtin; refine wpList_append_own _ rfl _ _ 32 rfl w.heap.size 9 i0 (.string ByteArray.empty) 1 16 Tryz.underlying32 hi hz0 hz1 hz2 rfl (by decide) _ _ _ rfl (hr3.alloc _) ⟨W.heap.size, 0, none⟩ 1 1 [.string y.p] rfl rfl (cell_one_new _ _ _) (fun x hx => by simp at hx; subst hx; rfl) (by unfold maxLen; omega) (by omega) (by simp; omega) ?_; intro v' w9 hown' hgrow9 hnil9))
          exact ⟨⟨A.length, m + 1, M ++ [y.p.data.toList], by omega, by omega, by go_num, by go_num, HN, by rw [List.length_append, List.length_singleton]; omega, str_snoc hown', ((hbq).alloc hsz3 _).grown hgrow9 ((hbq).alloc hsz3 _).size (fun j hj => (hrow.lt j hj).1)⟩, by simp [intOf]; omega⟩
      · obtain rfl : m = B.length := by omega
        have HDB : Hid (B.drop B.length = []) := List.drop_of_length_le (Nat.le_refl _)
        by_cases hln : n < A.length
        · obtain ⟨b1, off1, rfl, hb1, hcell1⟩ := H1.out (by omega)
          have HX : Hid (∀ W, Below w.heap.size w W → NodCells W b1 (off1 + n * 4) A[n]) := fun W hW => (hcell1 n A[n] (by simp [hln])).below hW hb1
          have hin : (n : Int) < (A.length : Int) := by omega
          have hin0 : (0 : Int) ≤ (n : Int) := by omega
          have hpn : decide ((n : Int) < (A.length : Int)) = true := decide_eq_true hin
          have hpn' : decide (n < A.length) = true := decide_eq_true hln
          have HDX := Lib.hid (List.drop_eq_getElem_cons hln)
          have HMX := Lib.hid (List.getElem_mem hln)
          clear hcell1
          generalize hxx : A[n] = x at *
          clear hxx
          have HN : Hid (M ++ [x.p.data.toList] ++ cbts (chgs (A.drop (n + 1)) (B.drop B.length)) = cbts (chgs A B)) := by
            show _ = _
            rw [← HM.out, HDX.out, HDB.out, chg_left]
            unfold cbts
            simp
          go_wp2_with fail
          go_quiet (fail)
          have hbq := below_drewN hbw nq
          have hrq := own_below hrow (below_drewN (Below.refl wr.heap.size wr) nq)
          generalize wr.drewN nq = W at *
          obtain ⟨c0, c1, c2, c3⟩ := HX.out _ (hbq)
          have hr3 := (hrq)
          have hsz3 := (hbq).size
          go_wp2_with (first
            | (at_builtin; refine wpList_append_own _ rfl _ _ 32 rfl w.heap.size 9 i0 (.string ByteArray.empty) 1 16 Tryz.underlying32 hi hz0 hz1 hz2 rfl (by decide) _ _ _ rfl (hr3.alloc _) ⟨W.heap.size, 0, none⟩ 1 1 [.string x.p] rfl rfl (cell_one_new _ _ _) (fun x hx => by simp at hx; subst hx; rfl) (by unfold maxLen; omega) (by omega) (by simp; omega) ?_; intro v' w9 hown' hgrow9 hnil9))
          exact ⟨⟨n + 1, B.length, M ++ [x.p.data.toList], by omega, by omega, by go_num, by go_num, HN, by rw [List.length_append, List.length_singleton]; omega, str_snoc hown', ((hbq).alloc hsz3 _).grown hgrow9 ((hbq).alloc hsz3 _).size (fun j hj => (hrow.lt j hj).1)⟩, by simp [intOf]; omega⟩
        · obtain rfl : n = A.length := by omega
          have HF : Hid (M = tchR A B) := by
            show _ = _
            have := HM.out
            rw [HDB.out, List.drop_of_length_le (Nat.le_refl _), chg_nil] at this
            rw [HR.out, ← this]
            simp [cbts]
          go_wp2
          go_ret2
          exact ⟨_, by rw [H0.out]; rfl, hbw, by rw [← HF.out]; exact hrow⟩
  · have HQ := Lib.hid (tch_bad (A := A) (B := B) rfl h0)
    have hne : (codeNN A B != 0) = true := (by simpa using h0)
    generalize hC : codeNN A B = C at *
    have HCC := Lib.hid hC
    clear h0 hC k1
    go_enter Tryz.func16, Tryz.ntmps16
    go_wp2_with fail
    refine (HAK _ (Below.refl _ _)).mono ?_
    rintro e w1 ⟨rfl, hb1⟩
    go_wp2_with fail
    go_ret2
    exact ⟨_, by first | rfl | (rw [HCC.out]; rfl) | (rw [← HCC.out]; rfl), hb1.alloc hb1.size _, by rw [HQ.out]; exact E0.out _ hb1⟩
end Go.Proofs.YtibekkfbpmloiabGreatDoor.Recs
