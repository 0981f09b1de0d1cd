/- Parts of several texts of mine in one file (each begins with its own remark). -/
import Derived.Test.YtcbmnihepeefaaaGreatDoorCA10
import Derived.Test.YtcbmnihepeefaaaGreatDoorCA2
import Derived.Test.YtcbmnihepeefaaaGreatDoorCA3
import Derived.Test.YtcbmnihepeefaaaGreatDoorCA4
import Derived.Test.YtcbmnihepeefaaaGreatDoorCA6
import Derived.Test.YtcbmnihepeefaaaGreatDoorCA8
import Derived.Test.YtcbmnihepeefaaaGreatDoorCA9
import Derived.Test.YtcbmnihepeefaaaGreatDoorCC2
import Derived.Test.YtcbmnihepeefaaaGreatDoorCC3
import Derived.Test.YtcbmnihepeefaaaGreatDoorCD2
import Derived.Test.YtcbmnihepeefaaaGreatDoorCE1
import Derived.Test.YtcbmnihepeefaaaGreatDoorCE3
import Derived.Test.YtcbmnihepeefaaaGreatDoorCE4
import Derived.Test.YtcbmnihepeefaaaGreatDoorCG2
import Derived.Test.YtcbmnihepeefaaaGreatDoorChecked
import Derived.Test.YtcbmnihepeefaaaGreatDoorShelf
import Derived.Test.YtcbmnihepeefaaaGreatDoorProg
import Derived.Test.YtcbmnihepeefaaaGreatDoorRows
import Derived.Stop.LaidErr
import Derived.StillTailTactics
import Derived.Laws.OwnMore
import Derived.BigQuiet
import Derived.BigRegion
import Derived.Deep.QuietTactic
import Derived.Deep.RegionHeld3
import Derived.Deep.Slices
import Derived.OpenShut
import Derived.ShutString
import Derived.ChangeArms
import Derived.WideShapes
import Derived.Lib.LaidTab
import Derived.Deep.Draws
import Derived.Deep.LoopGhost
import Derived.WalkKit
import Derived.WalkSpells
import Derived.WalkSmall
import Derived.Lib.OthersKept
import Derived.Lib.Hide
import Derived.Lib.Strings
import Derived.Lib.Join
import Derived.Laws.BytesArg
import Derived.WalkLawsBesides
import Derived.LaidEql
import Derived.Stop.Asserts
import Derived.Below
import Derived.Stop.LaidTwo
import Derived.ChangeVars
import Derived.Deep.DeepHandedRow
import Derived.Deep.RegionLaw
/- Squash, of the program and of its model. Conditions (of the program's): the table of kinds, the two sentinels. -/
namespace Go.Proofs.YtcbmnihepeefaaaGreatDoor.Recs
set_option maxRecDepth 100000
open Go.RowKit Paths Errs

def sqC (A B : List R) : Int := if codeBB A B = 0 then limE (squashL A B) else codeBB A B
def sqR (A B : List R) : List R := if codeBB A B = 0 then limR (squashL A B) else []
theorem sq_bad {A B : List R} {c : Int} (h : codeBB A B = c) (hc : c ≠ 0) : sqC A B = c ∧ sqR A B = [] := by
  unfold sqC sqR
  rw [if_neg (by rw [h]; exact hc), if_neg (by rw [h]; exact hc), h]
  exact ⟨rfl, rfl⟩
theorem sq_full {A B : List R} (h : codeBB A B = 0) (hl : 16 < (squashL A B).length) : sqC A B = 7 ∧ sqR A B = [] := by
  unfold sqC sqR limE limR
  rw [if_pos h, if_pos h, if_pos hl, if_pos hl]
  exact ⟨rfl, rfl⟩
theorem sq_fine {A B : List R} (h : codeBB A B = 0) (hl : ¬ 16 < (squashL A B).length) : sqC A B = 0 ∧ sqR A B = squashL A B := by
  unfold sqC sqR limE limR
  rw [if_pos h, if_pos h, if_neg hl, if_neg hl]
  exact ⟨rfl, rfl⟩
theorem sqR_len (A B : List R) : (sqR A B).length ≤ 1048576 := by
  unfold sqR limR
  split
  · split
    · simp
    · omega
  · simp
set_option maxHeartbeats 3200000 in
theorem squash_impl (v1 v2 : Value) (A B : List R) (x y : Addr) (w : World) (h1 : RecSl w v1 A) (h2 : RecSl w v2 B) (hl1 : A.length ≤ 1048576) (hl2 : B.length ≤ 1048576) (hr1 : ∀ r ∈ A, r.p.size ≤ maxLen) (hr2 : ∀ r ∈ B, r.p.size ≤ maxLen) (hT : Three w x y) :
    Calls Tryz.prog 56 #[v1, v2] w fun e w' => ∃ x, e = .returned (.tuple #[x, .int .i64 (sqC A B)]) ∧ Below w.heap.size w w' ∧ RowOf w' w.heap.size x (sqR A B).length (sqR A B) := by
  have HC1 := checkLayer_any v1 A x _ h1 hl1 hr1 hT.tab hT.long
  rw [← checkK_val] at HC1
  have HS1 := Lib.hid h1
  have HS2 := Lib.hid h2
  obtain ⟨A1, cap1, rfl, -⟩ := h1
  obtain ⟨A2, cap2, rfl, -⟩ := h2
  cases hk1 : checkK A with
  | fine =>
    rw [hk1] at HC1
    simp only [EK.val] at HC1
    cases hk2 : checkK B with
    | fine =>
      have HE := Lib.hid (show codeBB A B = 0 by rw [← arg_bb, hk1, hk2]; rfl)
      obtain ⟨hoa, hob⟩ := codeBB_ok HE.out
      go_enter Tryz.func56, Tryz.ntmps56
      go_wp2_with fail
      refine HC1.mono ?_
      rintro e w1 ⟨rfl, hb1⟩
      have hT1 := hT.below hb1 (Nat.le_refl _)
      have HC2 := checkLayer_any _ B x _ (HS2.out.below hb1) hl2 hr2 hT1.tab hT1.long
      rw [← checkK_val, hk2] at HC2
      simp only [EK.val] at HC2
      go_wp2_with fail
      refine HC2.mono ?_
      rintro e w2 ⟨rfl, hb2⟩
      have c2 := hb1.trans (hb2.mono hb1.size)
      have HA := arg2_any .fine .fine x y w2 (hT.below c2 (Nat.le_refl _))
      simp only [EK.val] at HA
      go_wp2_with fail
      refine HA.mono ?_
      rintro e w3 ⟨rfl, hb3⟩
      have c3 := c2.trans (hb3.mono c2.size)
      have hcode : argFrom [.fine, .fine] 0 = 0 := rfl
      rw [hcode]
      have hla := layer_len hoa
      have hlb := layer_len hob
      have HCO := combination_any _ _ A B _ (HS1.out.below c3) (HS2.out.below c3) (fine_layer hoa) (fine_layer hob) (by omega)
      go_wp2_with fail
      refine HCO.mono ?_
      rintro e w4 ⟨f, rfl, hb4, hf⟩
      have c4 := c3.trans (hb4.mono c3.size)
      obtain ⟨fA, fcap, rfl⟩ := hf.form
      have HLI := limitRecords_any fA (squashL A B).length fcap w4
      have HF := Lib.hid hf
      clear hf HCO
      by_cases h16 : 16 < (squashL A B).length
      · have HQ := Lib.hid (sq_full HE.out h16)
        rw [if_pos h16] at HLI
        clear h16
        go_wp2_with fail
        refine HLI.mono ?_
        rintro e w5 ⟨rfl, rfl⟩
        go_wp2_with fail
        go_ret2
        exact ⟨.slice none 0 0, by rw [HQ.out.1]; rfl, c4, by rw [HQ.out.2]; exact ⟨rfl, World.ownsRow_nil _ _ _ _⟩⟩
      · have HQ := Lib.hid (sq_fine HE.out h16)
        rw [if_neg h16] at HLI
        clear h16
        go_wp2_with fail
        refine HLI.mono ?_
        rintro e w5 ⟨rfl, rfl⟩
        go_wp2_with fail
        go_ret2
        exact ⟨_, by rw [HQ.out.1]; rfl, c4, by rw [HQ.out.2]; exact ⟨HF.out.1, own_le HF.out.2 c3.size⟩⟩
    | long =>
      have HE := Lib.hid (show codeBB A B = 2 by rw [← arg_bb, hk1, hk2]; rfl)
      go_enter Tryz.func56, Tryz.ntmps56
      go_wp2_with fail
      refine HC1.mono ?_
      rintro e w1 ⟨rfl, hb1⟩
      have hT1 := hT.below hb1 (Nat.le_refl _)
      have HC2 := checkLayer_any _ B x _ (HS2.out.below hb1) hl2 hr2 hT1.tab hT1.long
      rw [← checkK_val, hk2] at HC2
      simp only [EK.val, errV] at HC2
      go_wp2_with fail
      refine HC2.mono ?_
      rintro e w2 ⟨rfl, hb2⟩
      have c2 := hb1.trans (hb2.mono hb1.size)
      have HA := arg2_any .fine .long x y w2 (hT.below c2 (Nat.le_refl _))
      simp only [EK.val, errV] at HA
      go_wp2_with fail
      refine HA.mono ?_
      rintro e w3 ⟨rfl, hb3⟩
      have c3 := c2.trans (hb3.mono c2.size)
      have hcode : argFrom [.fine, .long] 0 = 2 := rfl
      rw [hcode]
      have HQ := Lib.hid (sq_bad HE.out (by decide))
      go_wp2_with fail
      go_ret2
      exact ⟨.slice none 0 0, by rw [HQ.out.1]; rfl, c3, by rw [HQ.out.2]; exact ⟨rfl, World.ownsRow_nil _ _ _ _⟩⟩
    | bad j d =>
      have HE := Lib.hid (show codeBB A B = 1 by rw [← arg_bb, hk1, hk2]; rfl)
      go_enter Tryz.func56, Tryz.ntmps56
      go_wp2_with fail
      refine HC1.mono ?_
      rintro e w1 ⟨rfl, hb1⟩
      have hT1 := hT.below hb1 (Nat.le_refl _)
      have HC2 := checkLayer_any _ B x _ (HS2.out.below hb1) hl2 hr2 hT1.tab hT1.long
      rw [← checkK_val, hk2] at HC2
      simp only [EK.val, recV] at HC2
      go_wp2_with fail
      refine HC2.mono ?_
      rintro e w2 ⟨rfl, hb2⟩
      have c2 := hb1.trans (hb2.mono hb1.size)
      have HA := arg2_any .fine (.bad j d) x y w2 (hT.below c2 (Nat.le_refl _))
      simp only [EK.val, recV] at HA
      go_wp2_with fail
      refine HA.mono ?_
      rintro e w3 ⟨rfl, hb3⟩
      have c3 := c2.trans (hb3.mono c2.size)
      have hcode : argFrom [.fine, (.bad j d)] 0 = 1 := rfl
      rw [hcode]
      have HQ := Lib.hid (sq_bad HE.out (by decide))
      go_wp2_with fail
      go_ret2
      exact ⟨.slice none 0 0, by rw [HQ.out.1]; rfl, c3, by rw [HQ.out.2]; exact ⟨rfl, World.ownsRow_nil _ _ _ _⟩⟩
  | long =>
    rw [hk1] at HC1
    simp only [EK.val, errV] at HC1
    cases hk2 : checkK B with
    | fine =>
      have HE := Lib.hid (show codeBB A B = 2 by rw [← arg_bb, hk1, hk2]; rfl)
      go_enter Tryz.func56, Tryz.ntmps56
      go_wp2_with fail
      refine HC1.mono ?_
      rintro e w1 ⟨rfl, hb1⟩
      have hT1 := hT.below hb1 (Nat.le_refl _)
      have HC2 := checkLayer_any _ B x _ (HS2.out.below hb1) hl2 hr2 hT1.tab hT1.long
      rw [← checkK_val, hk2] at HC2
      simp only [EK.val] at HC2
      go_wp2_with fail
      refine HC2.mono ?_
      rintro e w2 ⟨rfl, hb2⟩
      have c2 := hb1.trans (hb2.mono hb1.size)
      have HA := arg2_any .long .fine x y w2 (hT.below c2 (Nat.le_refl _))
      simp only [EK.val, errV] at HA
      go_wp2_with fail
      refine HA.mono ?_
      rintro e w3 ⟨rfl, hb3⟩
      have c3 := c2.trans (hb3.mono c2.size)
      have hcode : argFrom [.long, .fine] 0 = 2 := rfl
      rw [hcode]
      have HQ := Lib.hid (sq_bad HE.out (by decide))
      go_wp2_with fail
      go_ret2
      exact ⟨.slice none 0 0, by rw [HQ.out.1]; rfl, c3, by rw [HQ.out.2]; exact ⟨rfl, World.ownsRow_nil _ _ _ _⟩⟩
    | long =>
      have HE := Lib.hid (show codeBB A B = 2 by rw [← arg_bb, hk1, hk2]; rfl)
      go_enter Tryz.func56, Tryz.ntmps56
      go_wp2_with fail
      refine HC1.mono ?_
      rintro e w1 ⟨rfl, hb1⟩
      have hT1 := hT.below hb1 (Nat.le_refl _)
      have HC2 := checkLayer_any _ B x _ (HS2.out.below hb1) hl2 hr2 hT1.tab hT1.long
      rw [← checkK_val, hk2] at HC2
      simp only [EK.val, errV] at HC2
      go_wp2_with fail
      refine HC2.mono ?_
      rintro e w2 ⟨rfl, hb2⟩
      have c2 := hb1.trans (hb2.mono hb1.size)
      have HA := arg2_any .long .long x y w2 (hT.below c2 (Nat.le_refl _))
      simp only [EK.val, errV] at HA
      go_wp2_with fail
      refine HA.mono ?_
      rintro e w3 ⟨rfl, hb3⟩
      have c3 := c2.trans (hb3.mono c2.size)
      have hcode : argFrom [.long, .long] 0 = 2 := rfl
      rw [hcode]
      have HQ := Lib.hid (sq_bad HE.out (by decide))
      go_wp2_with fail
      go_ret2
      exact ⟨.slice none 0 0, by rw [HQ.out.1]; rfl, c3, by rw [HQ.out.2]; exact ⟨rfl, World.ownsRow_nil _ _ _ _⟩⟩
    | bad j d =>
      have HE := Lib.hid (show codeBB A B = 2 by rw [← arg_bb, hk1, hk2]; rfl)
      go_enter Tryz.func56, Tryz.ntmps56
      go_wp2_with fail
      refine HC1.mono ?_
      rintro e w1 ⟨rfl, hb1⟩
      have hT1 := hT.below hb1 (Nat.le_refl _)
      have HC2 := checkLayer_any _ B x _ (HS2.out.below hb1) hl2 hr2 hT1.tab hT1.long
      rw [← checkK_val, hk2] at HC2
      simp only [EK.val, recV] at HC2
      go_wp2_with fail
      refine HC2.mono ?_
      rintro e w2 ⟨rfl, hb2⟩
      have c2 := hb1.trans (hb2.mono hb1.size)
      have HA := arg2_any .long (.bad j d) x y w2 (hT.below c2 (Nat.le_refl _))
      simp only [EK.val, errV, recV] at HA
      go_wp2_with fail
      refine HA.mono ?_
      rintro e w3 ⟨rfl, hb3⟩
      have c3 := c2.trans (hb3.mono c2.size)
      have hcode : argFrom [.long, (.bad j d)] 0 = 2 := rfl
      rw [hcode]
      have HQ := Lib.hid (sq_bad HE.out (by decide))
      go_wp2_with fail
      go_ret2
      exact ⟨.slice none 0 0, by rw [HQ.out.1]; rfl, c3, by rw [HQ.out.2]; exact ⟨rfl, World.ownsRow_nil _ _ _ _⟩⟩
  | bad i c =>
    rw [hk1] at HC1
    simp only [EK.val, recV] at HC1
    cases hk2 : checkK B with
    | fine =>
      have HE := Lib.hid (show codeBB A B = 1 by rw [← arg_bb, hk1, hk2]; rfl)
      go_enter Tryz.func56, Tryz.ntmps56
      go_wp2_with fail
      refine HC1.mono ?_
      rintro e w1 ⟨rfl, hb1⟩
      have hT1 := hT.below hb1 (Nat.le_refl _)
      have HC2 := checkLayer_any _ B x _ (HS2.out.below hb1) hl2 hr2 hT1.tab hT1.long
      rw [← checkK_val, hk2] at HC2
      simp only [EK.val] at HC2
      go_wp2_with fail
      refine HC2.mono ?_
      rintro e w2 ⟨rfl, hb2⟩
      have c2 := hb1.trans (hb2.mono hb1.size)
      have HA := arg2_any (.bad i c) .fine x y w2 (hT.below c2 (Nat.le_refl _))
      simp only [EK.val, recV] at HA
      go_wp2_with fail
      refine HA.mono ?_
      rintro e w3 ⟨rfl, hb3⟩
      have c3 := c2.trans (hb3.mono c2.size)
      have hcode : argFrom [(.bad i c), .fine] 0 = 1 := rfl
      rw [hcode]
      have HQ := Lib.hid (sq_bad HE.out (by decide))
      go_wp2_with fail
      go_ret2
      exact ⟨.slice none 0 0, by rw [HQ.out.1]; rfl, c3, by rw [HQ.out.2]; exact ⟨rfl, World.ownsRow_nil _ _ _ _⟩⟩
    | long =>
      have HE := Lib.hid (show codeBB A B = 2 by rw [← arg_bb, hk1, hk2]; rfl)
      go_enter Tryz.func56, Tryz.ntmps56
      go_wp2_with fail
      refine HC1.mono ?_
      rintro e w1 ⟨rfl, hb1⟩
      have hT1 := hT.below hb1 (Nat.le_refl _)
      have HC2 := checkLayer_any _ B x _ (HS2.out.below hb1) hl2 hr2 hT1.tab hT1.long
      rw [← checkK_val, hk2] at HC2
      simp only [EK.val, errV] at HC2
      go_wp2_with fail
      refine HC2.mono ?_
      rintro e w2 ⟨rfl, hb2⟩
      have c2 := hb1.trans (hb2.mono hb1.size)
      have HA := arg2_any (.bad i c) .long x y w2 (hT.below c2 (Nat.le_refl _))
      simp only [EK.val, recV, errV] at HA
      go_wp2_with fail
      refine HA.mono ?_
      rintro e w3 ⟨rfl, hb3⟩
      have c3 := c2.trans (hb3.mono c2.size)
      have hcode : argFrom [(.bad i c), .long] 0 = 2 := rfl
      rw [hcode]
      have HQ := Lib.hid (sq_bad HE.out (by decide))
      go_wp2_with fail
      go_ret2
      exact ⟨.slice none 0 0, by rw [HQ.out.1]; rfl, c3, by rw [HQ.out.2]; exact ⟨rfl, World.ownsRow_nil _ _ _ _⟩⟩
    | bad j d =>
      have HE := Lib.hid (show codeBB A B = 1 by rw [← arg_bb, hk1, hk2]; rfl)
      go_enter Tryz.func56, Tryz.ntmps56
      go_wp2_with fail
      refine HC1.mono ?_
      rintro e w1 ⟨rfl, hb1⟩
      have hT1 := hT.below hb1 (Nat.le_refl _)
      have HC2 := checkLayer_any _ B x _ (HS2.out.below hb1) hl2 hr2 hT1.tab hT1.long
      rw [← checkK_val, hk2] at HC2
      simp only [EK.val, recV] at HC2
      go_wp2_with fail
      refine HC2.mono ?_
      rintro e w2 ⟨rfl, hb2⟩
      have c2 := hb1.trans (hb2.mono hb1.size)
      have HA := arg2_any (.bad i c) (.bad j d) x y w2 (hT.below c2 (Nat.le_refl _))
      simp only [EK.val, recV] at HA
      go_wp2_with fail
      refine HA.mono ?_
      rintro e w3 ⟨rfl, hb3⟩
      have c3 := c2.trans (hb3.mono c2.size)
      have hcode : argFrom [(.bad i c), (.bad j d)] 0 = 1 := rfl
      rw [hcode]
      have HQ := Lib.hid (sq_bad HE.out (by decide))
      go_wp2_with fail
      go_ret2
      exact ⟨.slice none 0 0, by rw [HQ.out.1]; rfl, c3, by rw [HQ.out.2]; exact ⟨rfl, World.ownsRow_nil _ _ _ _⟩⟩

set_option maxHeartbeats 1600000 in
theorem squash_spec (v1 v2 : Value) (A B : List R) (w : World) (h1 : RecSl w v1 A) (h2 : RecSl w v2 B) (hl1 : A.length ≤ 1048576) (hl2 : B.length ≤ 1048576) :
    Calls Tryz.prog 57 #[v1, v2] w fun e w' => ∃ x, e = .returned (.tuple #[x, .int .i64 (sqC A B)]) ∧ Below w.heap.size w w' ∧ RowOf w' w.heap.size x (sqR A B).length (sqR A B) := by
  have HC1 := l03OK_any v1 A _ h1 hl1
  have HS1 := Lib.hid h1
  have HS2 := Lib.hid h2
  obtain ⟨A1, cap1, rfl, -⟩ := h1
  obtain ⟨A2, cap2, rfl, -⟩ := h2
  by_cases ha : 4096 < A.length
  · have HE := Lib.hid (show codeBB A B = 2 from if_pos (.inl ha))
    have hd : decide ((4096 : Int) < (A.length : Int)) = true := by simp; omega
    go_enter Tryz.func57, Tryz.ntmps57
    have HQ := Lib.hid (sq_bad HE.out (by decide))
    have hown0 : (w.alloc (.cells #[] 26)).ownsRow w.heap.size 26 5 (.slice (some ⟨w.heap.size, 0, none⟩) 0 0) 0 [] := World.ownsRow_lit w #[] 0 (Below.refl w.heap.size w).size (Nat.zero_le _) rfl
    go_wp2_with fail
    go_ret2
    exact ⟨_, by rw [HQ.out.1]; rfl, (Below.refl w.heap.size w).alloc (Below.refl w.heap.size w).size _, by rw [HQ.out.2]; exact ⟨rfl, hown0⟩⟩
  have hda : decide ((4096 : Int) < (A.length : Int)) = false := by simp; omega
  by_cases hb : 4096 < B.length
  · have HE := Lib.hid (show codeBB A B = 2 from if_pos (.inr hb))
    have hd : decide ((4096 : Int) < (B.length : Int)) = true := by simp; omega
    go_enter Tryz.func57, Tryz.ntmps57
    have HQ := Lib.hid (sq_bad HE.out (by decide))
    have hown0 : (w.alloc (.cells #[] 26)).ownsRow w.heap.size 26 5 (.slice (some ⟨w.heap.size, 0, none⟩) 0 0) 0 [] := World.ownsRow_lit w #[] 0 (Below.refl w.heap.size w).size (Nat.zero_le _) rfl
    go_wp2_with fail
    go_ret2
    exact ⟨_, by rw [HQ.out.1]; rfl, (Below.refl w.heap.size w).alloc (Below.refl w.heap.size w).size _, by rw [HQ.out.2]; exact ⟨rfl, hown0⟩⟩
  have hdb : decide ((4096 : Int) < (B.length : Int)) = false := by simp; omega
  have HL : Hid (codeBB A B = if layerOK A && layerOK B then 0 else 1) := if_neg (by omega)
  rcases Bool.eq_false_or_eq_true (layerOK A) with hoa | hoa
  case inr =>
    have HE := Lib.hid (show codeBB A B = 1 by rw [HL.out, hoa]; rfl)
    rw [hoa] at HC1
    go_enter Tryz.func57, Tryz.ntmps57
    go_wp2_with fail
    refine HC1.mono ?_
    rintro e w1 ⟨rfl, hb1⟩
    have HQ := Lib.hid (sq_bad HE.out (by decide))
    have hown0 : (w1.alloc (.cells #[] 26)).ownsRow w.heap.size 26 5 (.slice (some ⟨w1.heap.size, 0, none⟩) 0 0) 0 [] := World.ownsRow_lit w1 #[] 0 hb1.size (Nat.zero_le _) rfl
    go_wp2_with fail
    go_ret2
    exact ⟨_, by rw [HQ.out.1]; rfl, hb1.alloc hb1.size _, by rw [HQ.out.2]; exact ⟨rfl, hown0⟩⟩
  rcases Bool.eq_false_or_eq_true (layerOK B) with hob | hob
  case inr =>
    have HE := Lib.hid (show codeBB A B = 1 by rw [HL.out, hoa, hob]; rfl)
    rw [hoa] at HC1
    go_enter Tryz.func57, Tryz.ntmps57
    go_wp2_with fail
    refine HC1.mono ?_
    rintro e w1 ⟨rfl, hb1⟩
    have HC2 := l03OK_any _ B _ (HS2.out.below hb1) hl2
    rw [hob] at HC2
    go_wp2_with fail
    refine HC2.mono ?_
    rintro e w2 ⟨rfl, hb2⟩
    have c2 := hb1.trans (hb2.mono hb1.size)
    have HQ := Lib.hid (sq_bad HE.out (by decide))
    have hown0 : (w2.alloc (.cells #[] 26)).ownsRow w.heap.size 26 5 (.slice (some ⟨w2.heap.size, 0, none⟩) 0 0) 0 [] := World.ownsRow_lit w2 #[] 0 c2.size (Nat.zero_le _) rfl
    go_wp2_with fail
    go_ret2
    exact ⟨_, by rw [HQ.out.1]; rfl, c2.alloc c2.size _, by rw [HQ.out.2]; exact ⟨rfl, hown0⟩⟩
  have HE := Lib.hid (show codeBB A B = 0 by rw [HL.out, hoa, hob]; rfl)
  rw [hoa] at HC1
  go_enter Tryz.func57, Tryz.ntmps57
  go_wp2_with fail
  refine HC1.mono ?_
  rintro e w1 ⟨rfl, hb1⟩
  have HC2 := l03OK_any _ B _ (HS2.out.below hb1) hl2
  rw [hob] at HC2
  go_wp2_with fail
  refine HC2.mono ?_
  rintro e w2 ⟨rfl, hb2⟩
  have c2 := hb1.trans (hb2.mono hb1.size)
  have hla := layer_len hoa
  have hlb := layer_len hob
  have HCO := l06Two_any _ _ A B _ (HS1.out.below c2) (HS2.out.below c2) (fine_layer hoa) (fine_layer hob) (by omega)
  go_wp2_with fail
  refine HCO.mono ?_
  rintro e w4 ⟨f, rfl, hb4, hf⟩
  have c4 := c2.trans (hb4.mono c2.size)
  obtain ⟨fA, fcap, rfl⟩ := hf.form
  have HF := Lib.hid hf
  clear hf HCO
  by_cases h16 : 16 < (squashL A B).length
  · have HQ := Lib.hid (sq_full HE.out h16)
    have hd : decide ((16 : Int) < ((squashL A B).length : Int)) = true := by simp; omega
    have hown0 : (w4.alloc (.cells #[] 26)).ownsRow w.heap.size 26 5 (.slice (some ⟨w4.heap.size, 0, none⟩) 0 0) 0 [] := World.ownsRow_lit w4 #[] 0 c4.size (Nat.zero_le _) rfl
    clear h16
    go_wp2_with fail
    go_ret2
    exact ⟨_, by rw [HQ.out.1]; rfl, c4.alloc c4.size _, by rw [HQ.out.2]; exact ⟨rfl, hown0⟩⟩
  · have HQ := Lib.hid (sq_fine HE.out h16)
    have hd : decide ((16 : Int) < ((squashL A B).length : Int)) = false := by simp; omega
    clear h16
    go_wp2_with fail
    go_ret2
    exact ⟨_, by rw [HQ.out.1]; rfl, c4, by rw [HQ.out.2]; exact ⟨HF.out.1, own_le HF.out.2 c2.size⟩⟩
end Go.Proofs.YtcbmnihepeefaaaGreatDoor.Recs
