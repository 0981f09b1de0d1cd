/- Parts of several texts of mine in one file (each begins with its own remark). -/
import Derived.Test.YtibekkfbpmloiabGreatDoorGA11
import Derived.Test.YtibekkfbpmloiabGreatDoorGA12
import Derived.Test.YtibekkfbpmloiabGreatDoorGA13
import Derived.Test.YtibekkfbpmloiabGreatDoorGA14
import Derived.Test.YtibekkfbpmloiabGreatDoorGA15
import Derived.Test.YtibekkfbpmloiabGreatDoorGA16
import Derived.Test.YtibekkfbpmloiabGreatDoorGA18
import Derived.Test.YtibekkfbpmloiabGreatDoorGA19
import Derived.Test.YtibekkfbpmloiabGreatDoorGA2
import Derived.Test.YtibekkfbpmloiabGreatDoorGA20
import Derived.Test.YtibekkfbpmloiabGreatDoorGA22
import Derived.Test.YtibekkfbpmloiabGreatDoorGA23
import Derived.Test.YtibekkfbpmloiabGreatDoorGA28
import Derived.Test.YtibekkfbpmloiabGreatDoorGA3
import Derived.Test.YtibekkfbpmloiabGreatDoorGA4
import Derived.Test.YtibekkfbpmloiabGreatDoorGA6
import Derived.Test.YtibekkfbpmloiabGreatDoorGA7
import Derived.Test.YtibekkfbpmloiabGreatDoorGA8
import Derived.Test.YtibekkfbpmloiabGreatDoorGA9
import Derived.Test.YtibekkfbpmloiabGreatDoorChecked
import Derived.Test.YtibekkfbpmloiabGreatDoorShelf
import Derived.Test.YtibekkfbpmloiabGreatDoorProg
import Derived.Test.YtibekkfbpmloiabGreatDoorRows
import Derived.Stop.LaidErr
import Derived.StillTailTactics
import Derived.Laws.OwnMore
import Derived.BigQuiet
import Derived.BigRegion
import Derived.Deep.QuietTactic
import Derived.Deep.RegionHeld3
import Derived.Deep.Slices
import Derived.OpenShut
import Derived.ShutString
import Derived.ChangeArms
import Derived.WideShapes
import Derived.Lib.LaidTab
import Derived.Deep.Draws
import Derived.Deep.LoopGhost
import Derived.WalkKit
import Derived.WalkSpells
import Derived.WalkSmall
import Derived.Lib.OthersKept
import Derived.Lib.Hide
import Derived.Lib.Strings
import Derived.Lib.Join
import Derived.Laws.BytesArg
import Derived.WalkLawsBesides
import Derived.LaidEql
import Derived.Stop.Asserts
import Derived.Below
import Derived.Stop.LaidTwo
import Derived.ChangeVars
import Derived.Deep.DeepHandedRow
import Derived.Deep.RegionLaw
import Derived.Deep.RegionWith
import Derived.OneCell
import Derived.Lib.SliceRun
import Derived.Lib.Overlaps
import Derived.Lib.AppendZerosOnto
import Derived.Laws.NewBlocks
import Derived.Laws.IdiomCopy
/- Squash, of the program and of its model. Conditions (of the program's): the table of kinds, the two sentinels. -/
namespace Go.Proofs.YtibekkfbpmloiabGreatDoor.Recs
set_option maxRecDepth 100000
open Go.RowKit Paths Errs

/-- The code of a combination that has grown too long. -/
def limR (l : List R) : List R := if 16 < l.length then [] else l
def limE (l : List R) : Int := if 16 < l.length then 7 else 0
theorem limitRecords_any (A : Option Addr) (n cap : Nat) (w : World) :
    Calls Tryz.prog 84 #[.slice A n cap] w fun e w' => e = .returned (if 16 < n then .tuple #[.slice none 0 0, .int .i64 7] else .tuple #[.slice A n cap, .int .i64 0]) ∧ w = w' := by
  by_cases h : 16 < n
  · rw [if_pos h]
    have hd : decide ((16 : Int) < (n : Int)) = true := by simp; omega
    go_enter Tryz.func84, Tryz.ntmps84
    go_wp2_with fail
    go_ret2
    exact ⟨rfl, rfl⟩
  · rw [if_neg h]
    have hd : decide ((16 : Int) < (n : Int)) = false := by simp; omega
    go_enter Tryz.func84, Tryz.ntmps84
    go_wp2_with fail
    go_ret2
    exact ⟨rfl, rfl⟩
def sqC (A B : List R) : Int := if codeBB A B = 0 then limE (squashL A B) else codeBB A B
def sqR (A B : List R) : List R := if codeBB A B = 0 then limR (squashL A B) else []
theorem sq_bad {A B : List R} {c : Int} (h : codeBB A B = c) (hc : c ≠ 0) : sqC A B = c ∧ sqR A B = [] := by
  unfold sqC sqR
  rw [if_neg (by rw [h]; exact hc), if_neg (by rw [h]; exact hc), h]
  exact ⟨rfl, rfl⟩
theorem sq_full {A B : List R} (h : codeBB A B = 0) (hl : 16 < (squashL A B).length) : sqC A B = 7 ∧ sqR A B = [] := by
  unfold sqC sqR limE limR
  rw [if_pos h, if_pos h, if_pos hl, if_pos hl]
  exact ⟨rfl, rfl⟩
theorem sq_fine {A B : List R} (h : codeBB A B = 0) (hl : ¬ 16 < (squashL A B).length) : sqC A B = 0 ∧ sqR A B = squashL A B := by
  unfold sqC sqR limE limR
  rw [if_pos h, if_pos h, if_neg hl, if_neg hl]
  exact ⟨rfl, rfl⟩
set_option maxHeartbeats 3200000 in
theorem squash_impl (v1 v2 : Value) (A B : List R) (x y : Addr) (w : World) (h1 : RecSl w v1 A) (h2 : RecSl w v2 B) (hl1 : A.length ≤ 1048576) (hl2 : B.length ≤ 1048576) (hr1 : ∀ r ∈ A, r.p.size ≤ maxLen) (hr2 : ∀ r ∈ B, r.p.size ≤ maxLen) (hT : Three w x y) :
    Calls Tryz.prog 35 #[v1, v2] w fun e w' => ∃ x, e = .returned (.tuple #[x, .int .i64 (sqC A B)]) ∧ Below w.heap.size w w' ∧ RowOf w' w.heap.size x (sqR A B).length (sqR A B) := by
  have HC1 := checkLayer_any v1 A x _ h1 hl1 hr1 hT.tab hT.long
  rw [← checkK_val] at HC1
  have HS1 := Lib.hid h1
  have HS2 := Lib.hid h2
  obtain ⟨A1, cap1, rfl, -⟩ := h1
  obtain ⟨A2, cap2, rfl, -⟩ := h2
  cases hk1 : checkK A with
  | fine =>
    rw [hk1] at HC1
    simp only [EK.val] at HC1
    cases hk2 : checkK B with
    | fine =>
      have HE := Lib.hid (show codeBB A B = 0 by rw [← arg_bb, hk1, hk2]; rfl)
      obtain ⟨hoa, hob⟩ := codeBB_ok HE.out
      go_enter Tryz.func35, Tryz.ntmps35
      go_wp2_with fail
      refine HC1.mono ?_
      rintro e w1 ⟨rfl, hb1⟩
      have hT1 := hT.below hb1 (Nat.le_refl _)
      have HC2 := checkLayer_any _ B x _ (HS2.out.below hb1) hl2 hr2 hT1.tab hT1.long
      rw [← checkK_val, hk2] at HC2
      simp only [EK.val] at HC2
      go_wp2_with fail
      refine HC2.mono ?_
      rintro e w2 ⟨rfl, hb2⟩
      have c2 := hb1.trans (hb2.mono hb1.size)
      have HA := arg2_any .fine .fine x y w2 (hT.below c2 (Nat.le_refl _))
      simp only [EK.val] at HA
      go_wp2_with fail
      refine HA.mono ?_
      rintro e w3 ⟨rfl, hb3⟩
      have c3 := c2.trans (hb3.mono c2.size)
      have hcode : argFrom [.fine, .fine] 0 = 0 := rfl
      rw [hcode]
      have hla := layer_len hoa
      have hlb := layer_len hob
      have HCO := combination_any _ _ A B _ (HS1.out.below c3) (HS2.out.below c3) (fine_layer hoa) (fine_layer hob) (by omega)
      go_wp2_with fail
      refine HCO.mono ?_
      rintro e w4 ⟨f, rfl, hb4, hf⟩
      have c4 := c3.trans (hb4.mono c3.size)
      obtain ⟨fA, fcap, rfl⟩ := hf.form
      have HLI := limitRecords_any fA (squashL A B).length fcap w4
      have HF := Lib.hid hf
      clear hf HCO
      by_cases h16 : 16 < (squashL A B).length
      · have HQ := Lib.hid (sq_full HE.out h16)
        rw [if_pos h16] at HLI
        clear h16
        go_wp2_with fail
        refine HLI.mono ?_
        rintro e w5 ⟨rfl, rfl⟩
        go_wp2_with fail
        go_ret2
        exact ⟨.slice none 0 0, by rw [HQ.out.1]; rfl, c4, by rw [HQ.out.2]; exact ⟨rfl, World.ownsRow_nil _ _ _ _⟩⟩
      · have HQ := Lib.hid (sq_fine HE.out h16)
        rw [if_neg h16] at HLI
        clear h16
        go_wp2_with fail
        refine HLI.mono ?_
        rintro e w5 ⟨rfl, rfl⟩
        go_wp2_with fail
        go_ret2
        exact ⟨_, by rw [HQ.out.1]; rfl, c4, by rw [HQ.out.2]; exact ⟨HF.out.1, own_le HF.out.2 c3.size⟩⟩
    | long =>
      have HE := Lib.hid (show codeBB A B = 2 by rw [← arg_bb, hk1, hk2]; rfl)
      go_enter Tryz.func35, Tryz.ntmps35
      go_wp2_with fail
      refine HC1.mono ?_
      rintro e w1 ⟨rfl, hb1⟩
      have hT1 := hT.below hb1 (Nat.le_refl _)
      have HC2 := checkLayer_any _ B x _ (HS2.out.below hb1) hl2 hr2 hT1.tab hT1.long
      rw [← checkK_val, hk2] at HC2
      simp only [EK.val, errV] at HC2
      go_wp2_with fail
      refine HC2.mono ?_
      rintro e w2 ⟨rfl, hb2⟩
      have c2 := hb1.trans (hb2.mono hb1.size)
      have HA := arg2_any .fine .long x y w2 (hT.below c2 (Nat.le_refl _))
      simp only [EK.val, errV] at HA
      go_wp2_with fail
      refine HA.mono ?_
      rintro e w3 ⟨rfl, hb3⟩
      have c3 := c2.trans (hb3.mono c2.size)
      have hcode : argFrom [.fine, .long] 0 = 2 := rfl
      rw [hcode]
      have HQ := Lib.hid (sq_bad HE.out (by decide))
      go_wp2_with fail
      go_ret2
      exact ⟨.slice none 0 0, by rw [HQ.out.1]; rfl, c3, by rw [HQ.out.2]; exact ⟨rfl, World.ownsRow_nil _ _ _ _⟩⟩
    | bad j d =>
      have HE := Lib.hid (show codeBB A B = 1 by rw [← arg_bb, hk1, hk2]; rfl)
      go_enter Tryz.func35, Tryz.ntmps35
      go_wp2_with fail
      refine HC1.mono ?_
      rintro e w1 ⟨rfl, hb1⟩
      have hT1 := hT.below hb1 (Nat.le_refl _)
      have HC2 := checkLayer_any _ B x _ (HS2.out.below hb1) hl2 hr2 hT1.tab hT1.long
      rw [← checkK_val, hk2] at HC2
      simp only [EK.val, recV] at HC2
      go_wp2_with fail
      refine HC2.mono ?_
      rintro e w2 ⟨rfl, hb2⟩
      have c2 := hb1.trans (hb2.mono hb1.size)
      have HA := arg2_any .fine (.bad j d) x y w2 (hT.below c2 (Nat.le_refl _))
      simp only [EK.val, recV] at HA
      go_wp2_with fail
      refine HA.mono ?_
      rintro e w3 ⟨rfl, hb3⟩
      have c3 := c2.trans (hb3.mono c2.size)
      have hcode : argFrom [.fine, (.bad j d)] 0 = 1 := rfl
      rw [hcode]
      have HQ := Lib.hid (sq_bad HE.out (by decide))
      go_wp2_with fail
      go_ret2
      exact ⟨.slice none 0 0, by rw [HQ.out.1]; rfl, c3, by rw [HQ.out.2]; exact ⟨rfl, World.ownsRow_nil _ _ _ _⟩⟩
  | long =>
    rw [hk1] at HC1
    simp only [EK.val, errV] at HC1
    cases hk2 : checkK B with
    | fine =>
      have HE := Lib.hid (show codeBB A B = 2 by rw [← arg_bb, hk1, hk2]; rfl)
      go_enter Tryz.func35, Tryz.ntmps35
      go_wp2_with fail
      refine HC1.mono ?_
      rintro e w1 ⟨rfl, hb1⟩
      have hT1 := hT.below hb1 (Nat.le_refl _)
      have HC2 := checkLayer_any _ B x _ (HS2.out.below hb1) hl2 hr2 hT1.tab hT1.long
      rw [← checkK_val, hk2] at HC2
      simp only [EK.val] at HC2
      go_wp2_with fail
      refine HC2.mono ?_
      rintro e w2 ⟨rfl, hb2⟩
      have c2 := hb1.trans (hb2.mono hb1.size)
      have HA := arg2_any .long .fine x y w2 (hT.below c2 (Nat.le_refl _))
      simp only [EK.val, errV] at HA
      go_wp2_with fail
      refine HA.mono ?_
      rintro e w3 ⟨rfl, hb3⟩
      have c3 := c2.trans (hb3.mono c2.size)
      have hcode : argFrom [.long, .fine] 0 = 2 := rfl
      rw [hcode]
      have HQ := Lib.hid (sq_bad HE.out (by decide))
      go_wp2_with fail
      go_ret2
      exact ⟨.slice none 0 0, by rw [HQ.out.1]; rfl, c3, by rw [HQ.out.2]; exact ⟨rfl, World.ownsRow_nil _ _ _ _⟩⟩
    | long =>
      have HE := Lib.hid (show codeBB A B = 2 by rw [← arg_bb, hk1, hk2]; rfl)
      go_enter Tryz.func35, Tryz.ntmps35
      go_wp2_with fail
      refine HC1.mono ?_
      rintro e w1 ⟨rfl, hb1⟩
      have hT1 := hT.below hb1 (Nat.le_refl _)
      have HC2 := checkLayer_any _ B x _ (HS2.out.below hb1) hl2 hr2 hT1.tab hT1.long
      rw [← checkK_val, hk2] at HC2
      simp only [EK.val, errV] at HC2
      go_wp2_with fail
      refine HC2.mono ?_
      rintro e w2 ⟨rfl, hb2⟩
      have c2 := hb1.trans (hb2.mono hb1.size)
      have HA := arg2_any .long .long x y w2 (hT.below c2 (Nat.le_refl _))
      simp only [EK.val, errV] at HA
      go_wp2_with fail
      refine HA.mono ?_
      rintro e w3 ⟨rfl, hb3⟩
      have c3 := c2.trans (hb3.mono c2.size)
      have hcode : argFrom [.long, .long] 0 = 2 := rfl
      rw [hcode]
      have HQ := Lib.hid (sq_bad HE.out (by decide))
      go_wp2_with fail
      go_ret2
      exact ⟨.slice none 0 0, by rw [HQ.out.1]; rfl, c3, by rw [HQ.out.2]; exact ⟨rfl, World.ownsRow_nil _ _ _ _⟩⟩
    | bad j d =>
      have HE := Lib.hid (show codeBB A B = 2 by rw [← arg_bb, hk1, hk2]; rfl)
      go_enter Tryz.func35, Tryz.ntmps35
      go_wp2_with fail
      refine HC1.mono ?_
      rintro e w1 ⟨rfl, hb1⟩
      have hT1 := hT.below hb1 (Nat.le_refl _)
      have HC2 := checkLayer_any _ B x _ (HS2.out.below hb1) hl2 hr2 hT1.tab hT1.long
      rw [← checkK_val, hk2] at HC2
      simp only [EK.val, recV] at HC2
      go_wp2_with fail
      refine HC2.mono ?_
      rintro e w2 ⟨rfl, hb2⟩
      have c2 := hb1.trans (hb2.mono hb1.size)
      have HA := arg2_any .long (.bad j d) x y w2 (hT.below c2 (Nat.le_refl _))
      simp only [EK.val, errV, recV] at HA
      go_wp2_with fail
      refine HA.mono ?_
      rintro e w3 ⟨rfl, hb3⟩
      have c3 := c2.trans (hb3.mono c2.size)
      have hcode : argFrom [.long, (.bad j d)] 0 = 2 := rfl
      rw [hcode]
      have HQ := Lib.hid (sq_bad HE.out (by decide))
      go_wp2_with fail
      go_ret2
      exact ⟨.slice none 0 0, by rw [HQ.out.1]; rfl, c3, by rw [HQ.out.2]; exact ⟨rfl, World.ownsRow_nil _ _ _ _⟩⟩
  | bad i c =>
    rw [hk1] at HC1
    simp only [EK.val, recV] at HC1
    cases hk2 : checkK B with
    | fine =>
      have HE := Lib.hid (show codeBB A B = 1 by rw [← arg_bb, hk1, hk2]; rfl)
      go_enter Tryz.func35, Tryz.ntmps35
      go_wp2_with fail
      refine HC1.mono ?_
      rintro e w1 ⟨rfl, hb1⟩
      have hT1 := hT.below hb1 (Nat.le_refl _)
      have HC2 := checkLayer_any _ B x _ (HS2.out.below hb1) hl2 hr2 hT1.tab hT1.long
      rw [← checkK_val, hk2] at HC2
      simp only [EK.val] at HC2
      go_wp2_with fail
      refine HC2.mono ?_
      rintro e w2 ⟨rfl, hb2⟩
      have c2 := hb1.trans (hb2.mono hb1.size)
      have HA := arg2_any (.bad i c) .fine x y w2 (hT.below c2 (Nat.le_refl _))
      simp only [EK.val, recV] at HA
      go_wp2_with fail
      refine HA.mono ?_
      rintro e w3 ⟨rfl, hb3⟩
      have c3 := c2.trans (hb3.mono c2.size)
      have hcode : argFrom [(.bad i c), .fine] 0 = 1 := rfl
      rw [hcode]
      have HQ := Lib.hid (sq_bad HE.out (by decide))
      go_wp2_with fail
      go_ret2
      exact ⟨.slice none 0 0, by rw [HQ.out.1]; rfl, c3, by rw [HQ.out.2]; exact ⟨rfl, World.ownsRow_nil _ _ _ _⟩⟩
    | long =>
      have HE := Lib.hid (show codeBB A B = 2 by rw [← arg_bb, hk1, hk2]; rfl)
      go_enter Tryz.func35, Tryz.ntmps35
      go_wp2_with fail
      refine HC1.mono ?_
      rintro e w1 ⟨rfl, hb1⟩
      have hT1 := hT.below hb1 (Nat.le_refl _)
      have HC2 := checkLayer_any _ B x _ (HS2.out.below hb1) hl2 hr2 hT1.tab hT1.long
      rw [← checkK_val, hk2] at HC2
      simp only [EK.val, errV] at HC2
      go_wp2_with fail
      refine HC2.mono ?_
      rintro e w2 ⟨rfl, hb2⟩
      have c2 := hb1.trans (hb2.mono hb1.size)
      have HA := arg2_any (.bad i c) .long x y w2 (hT.below c2 (Nat.le_refl _))
      simp only [EK.val, recV, errV] at HA
      go_wp2_with fail
      refine HA.mono ?_
      rintro e w3 ⟨rfl, hb3⟩
      have c3 := c2.trans (hb3.mono c2.size)
      have hcode : argFrom [(.bad i c), .long] 0 = 2 := rfl
      rw [hcode]
      have HQ := Lib.hid (sq_bad HE.out (by decide))
      go_wp2_with fail
      go_ret2
      exact ⟨.slice none 0 0, by rw [HQ.out.1]; rfl, c3, by rw [HQ.out.2]; exact ⟨rfl, World.ownsRow_nil _ _ _ _⟩⟩
    | bad j d =>
      have HE := Lib.hid (show codeBB A B = 1 by rw [← arg_bb, hk1, hk2]; rfl)
      go_enter Tryz.func35, Tryz.ntmps35
      go_wp2_with fail
      refine HC1.mono ?_
      rintro e w1 ⟨rfl, hb1⟩
      have hT1 := hT.below hb1 (Nat.le_refl _)
      have HC2 := checkLayer_any _ B x _ (HS2.out.below hb1) hl2 hr2 hT1.tab hT1.long
      rw [← checkK_val, hk2] at HC2
      simp only [EK.val, recV] at HC2
      go_wp2_with fail
      refine HC2.mono ?_
      rintro e w2 ⟨rfl, hb2⟩
      have c2 := hb1.trans (hb2.mono hb1.size)
      have HA := arg2_any (.bad i c) (.bad j d) x y w2 (hT.below c2 (Nat.le_refl _))
      simp only [EK.val, recV] at HA
      go_wp2_with fail
      refine HA.mono ?_
      rintro e w3 ⟨rfl, hb3⟩
      have c3 := c2.trans (hb3.mono c2.size)
      have hcode : argFrom [(.bad i c), (.bad j d)] 0 = 1 := rfl
      rw [hcode]
      have HQ := Lib.hid (sq_bad HE.out (by decide))
      go_wp2_with fail
      go_ret2
      exact ⟨.slice none 0 0, by rw [HQ.out.1]; rfl, c3, by rw [HQ.out.2]; exact ⟨rfl, World.ownsRow_nil _ _ _ _⟩⟩

end Go.Proofs.YtibekkfbpmloiabGreatDoor.Recs

/- SquashAll, of the program and of its model. Conditions (of the program's): the table of kinds, the two sentinels. -/
namespace Go.Proofs.YtibekkfbpmloiabGreatDoor.Recs
set_option maxRecDepth 100000
open Go.RowKit Paths Errs

theorem sqa_step {LL : List (List R)} {k : Nat} (h : k < LL.length) : squashAllL (LL.take (k + 1)) = squashL (squashAllL (LL.take k)) LL[k] := by
  unfold squashAllL
  rw [List.take_succ_eq_append_getElem h, List.foldl_append]
  rfl
theorem sqa_len {LL : List (List R)} (h : ∀ l ∈ LL, l.length ≤ 16) : ∀ k, k ≤ LL.length → (squashAllL (LL.take k)).length ≤ 16 * k
  | 0, _ => by simp [squashAllL]
  | k + 1, hk => by
    have ih := sqa_len h k (by omega)
    rw [sqa_step (by omega)]
    have h1 := squash_len (squashAllL (LL.take k)) LL[k]
    have h2 := h LL[k] (List.getElem_mem _)
    omega
set_option maxHeartbeats 1600000 in
theorem combinationOfAll_any (v : Value) (LL : List (List R)) (w : World) (h : StkSl w v LL) (hok : ∀ l ∈ LL, layerOK l = true) (hl : LL.length ≤ 5) :
    Calls Tryz.prog 85 #[v] w fun e w' => ∃ x, e = .returned x ∧ Below w.heap.size w w' ∧ RowOf w' w.heap.size x (squashAllL LL).length (squashAllL LL) := by
  obtain ⟨sA, cap, rfl, hcap, h⟩ := h
  have H := Lib.hid h
  have HOK := Lib.hid hok
  clear h hok
  go_enter Tryz.func85, Tryz.ntmps85
  go_wp2
  go_loopw [3, 8] (fun f i wr => ∃ (k : Nat) (M : List R), k ≤ LL.length ∧ i = .int .i64 k ∧ Hid (M = squashAllL (LL.take k)) ∧ RowOf wr w.heap.size f M.length M ∧ Below w.heap.size w wr) (fun _ i _ => LL.length - (intOf i).toNat)
  case atStart => exact ⟨0, [], by omega, rfl, rfl, ⟨rfl, World.ownsRow_nil _ _ _ _⟩, Below.refl _ _⟩
  case round =>
    obtain ⟨k, M, hk, rfl, HM, hrow, hbw⟩ := hrel
    obtain ⟨fA, fcap, rfl⟩ := hrow.form
    by_cases hlt : k < LL.length
    · obtain ⟨b, off, rfl, hb, hcell⟩ := H.out (by omega)
      obtain ⟨u, hu0, hur⟩ := hcell k LL[k] (by simp [hlt])
      have hu : wr.cell? ⟨b, off + k, none⟩ = some u := (hbw.cell (p := ⟨b, off + k, none⟩) hb).trans hu0
      have hus := hur.below hbw
      clear hcell hu0 hur
      have hi1 : (k : Int) < (LL.length : Int) := by omega
      have hi0 : (0 : Int) ≤ (k : Int) := by omega
      have hlk := HOK.out LL[k] (List.getElem_mem hlt)
      have hFM : Fine M := by
        rw [HM.out]
        exact (squashAll_canon (fun l hm => fine_layer (HOK.out l (List.mem_of_mem_take hm)))).isFine
      have hML : M.length ≤ 16 * k := by
        rw [HM.out]
        exact sqa_len (fun l hm => layer_len (HOK.out l hm)) k hk
      have h16 := layer_len hlk
      have HCO := combination_any _ u M LL[k] wr hrow.sl hus hFM (fine_layer hlk) (by omega)
      have HN : Hid (squashL M LL[k] = squashAllL (LL.take (k + 1))) := by show _ = _; rw [sqa_step hlt, ← HM.out]
      obtain ⟨uA, ucap, rfl, -⟩ := hus
      clear hFM hML h16 hlk
      go_wp2_with fail
      refine HCO.mono ?_
      rintro e w4 ⟨g, rfl, hb4, hg⟩
      go_wp2_with fail
      exact ⟨⟨k + 1, _, by omega, by go_num, HN, ⟨hg.1, own_le hg.2 hbw.size⟩, hbw.trans (hb4.mono hbw.size)⟩, by simp [intOf]; omega⟩
    · have HF : Hid (M = squashAllL LL) := by show _ = _; rw [HM.out, List.take_of_length_le (by omega)]
      go_wp2
      go_ret
      exact ⟨_, rfl, hbw, by rw [← HF.out]; exact hrow⟩

set_option maxHeartbeats 1600000 in
theorem l06All_any (v : Value) (LL : List (List R)) (w : World) (h : StkSl w v LL) (hok : ∀ l ∈ LL, layerOK l = true) (hl : LL.length ≤ 5) :
    Calls Tryz.prog 87 #[v] w fun e w' => ∃ x, e = .returned x ∧ Below w.heap.size w w' ∧ RowOf w' w.heap.size x (squashAllL LL).length (squashAllL LL) := by
  obtain ⟨sA, cap, rfl, hcap, h⟩ := h
  have H := Lib.hid h
  have HOK := Lib.hid hok
  clear h hok
  have hown0 : (w.alloc (.cells #[] 53)).ownsRow w.heap.size 53 5 (.slice (some ⟨w.heap.size, 0, none⟩) 0 0) 0 [] := World.ownsRow_lit w #[] 0 (Nat.le_refl _) (Nat.zero_le _) rfl
  go_enter Tryz.func87, Tryz.ntmps87
  go_wp2
  go_loopw [3, 4] (fun f i wr => ∃ (k : Nat) (M : List R), k ≤ LL.length ∧ i = .int .i64 k ∧ Hid (M = squashAllL (LL.take k)) ∧ RowOf wr w.heap.size f M.length M ∧ Below w.heap.size w wr) (fun _ i _ => LL.length - (intOf i).toNat)
  case atStart => exact ⟨0, [], by omega, rfl, rfl, ⟨rfl, hown0⟩, (Below.refl _ _).alloc (Nat.le_refl _) _⟩
  case round =>
    obtain ⟨k, M, hk, rfl, HM, hrow, hbw⟩ := hrel
    obtain ⟨fA, fcap, rfl⟩ := hrow.form
    by_cases hlt : k < LL.length
    · obtain ⟨b, off, rfl, hb, hcell⟩ := H.out (by omega)
      obtain ⟨u, hu0, hur⟩ := hcell k LL[k] (by simp [hlt])
      have hu : wr.cell? ⟨b, off + k, none⟩ = some u := (hbw.cell (p := ⟨b, off + k, none⟩) hb).trans hu0
      have hus := hur.below hbw
      clear hcell hu0 hur
      have hi1 : (k : Int) < (LL.length : Int) := by omega
      have hi0 : (0 : Int) ≤ (k : Int) := by omega
      have hlk := HOK.out LL[k] (List.getElem_mem hlt)
      have hFM : Fine M := by
        rw [HM.out]
        exact (squashAll_canon (fun l hm => fine_layer (HOK.out l (List.mem_of_mem_take hm)))).isFine
      have hML : M.length ≤ 16 * k := by
        rw [HM.out]
        exact sqa_len (fun l hm => layer_len (HOK.out l hm)) k hk
      have h16 := layer_len hlk
      have HCO := l06Two_any _ u M LL[k] wr hrow.sl hus hFM (fine_layer hlk) (by omega)
      have HN : Hid (squashL M LL[k] = squashAllL (LL.take (k + 1))) := by show _ = _; rw [sqa_step hlt, ← HM.out]
      obtain ⟨uA, ucap, rfl, -⟩ := hus
      clear hFM hML h16 hlk
      go_wp2_with fail
      refine HCO.mono ?_
      rintro e w4 ⟨g, rfl, hb4, hg⟩
      go_wp2_with fail
      exact ⟨⟨k + 1, _, by omega, by go_num, HN, ⟨hg.1, own_le hg.2 hbw.size⟩, hbw.trans (hb4.mono hbw.size)⟩, by simp [intOf]; omega⟩
    · have HF : Hid (M = squashAllL LL) := by show _ = _; rw [HM.out, List.take_of_length_le (by omega)]
      go_wp2
      go_ret
      exact ⟨_, rfl, hbw, by rw [← HF.out]; exact hrow⟩

def sqaC (LL : List (List R)) : Int := if codeS LL = 0 then limE (squashAllL LL) else codeS LL
def sqaR (LL : List (List R)) : List R := if codeS LL = 0 then limR (squashAllL LL) else []
theorem sqa_bad {LL : List (List R)} {c : Int} (h : codeS LL = c) (hc : c ≠ 0) : sqaC LL = c ∧ sqaR LL = [] := by
  unfold sqaC sqaR
  rw [if_neg (by rw [h]; exact hc), if_neg (by rw [h]; exact hc), h]
  exact ⟨rfl, rfl⟩
theorem sqa_full {LL : List (List R)} (h : codeS LL = 0) (hl : 16 < (squashAllL LL).length) : sqaC LL = 7 ∧ sqaR LL = [] := by
  unfold sqaC sqaR limE limR
  rw [if_pos h, if_pos h, if_pos hl, if_pos hl]
  exact ⟨rfl, rfl⟩
theorem sqa_fine {LL : List (List R)} (h : codeS LL = 0) (hl : ¬ 16 < (squashAllL LL).length) : sqaC LL = 0 ∧ sqaR LL = squashAllL LL := by
  unfold sqaC sqaR limE limR
  rw [if_pos h, if_pos h, if_neg hl, if_neg hl]
  exact ⟨rfl, rfl⟩
theorem sqaR_len (LL : List (List R)) : (sqaR LL).length ≤ 1048576 := by
  unfold sqaR limR
  split
  · split
    · simp
    · omega
  · simp

set_option maxHeartbeats 1600000 in
theorem squashAll_impl (v : Value) (LL : List (List R)) (x y : Addr) (w : World) (h : StkSl w v LL) (hl : LL.length ≤ 1048576) (hr : ∀ l ∈ LL, l.length ≤ 1048576 ∧ ∀ r ∈ l, r.p.size ≤ maxLen) (hT : Three w x y) :
    Calls Tryz.prog 30 #[v] w fun e w' => ∃ z, e = .returned (.tuple #[z, .int .i64 (sqaC LL)]) ∧ Below w.heap.size w w' ∧ RowOf w' w.heap.size z (sqaR LL).length (sqaR LL) := by
  have HARG : euFrom [(stkE LL).u] 0 = codeS LL := arg_s LL
  by_cases h0 : codeS LL = 0
  · obtain ⟨hc, hSO⟩ := fine_s h0
    have H0 := Lib.hid h0
    have HC := stackU_any v LL x y w h hl hr hT
    rw [hc] at HC
    unfold EN.u EU.val at HC
    clear HARG h0
    go_enter Tryz.func30, Tryz.ntmps30
    go_wp2_with fail
    refine HC.mono ?_
    rintro e w1 ⟨rfl, hb1⟩
    have hT1 := hT.below hb1 (Nat.le_refl _)
    have c2 := hb1
    have HA := argU1_any .fine x y w1 hT1
    unfold EU.val at HA
    go_wp2_with fail
    refine HA.mono ?_
    rintro e w3 ⟨rfl, hb3⟩
    have c3 := c2.trans (hb3.mono c2.size)
    have hcode : euFrom [.fine] 0 = 0 := rfl
    rw [hcode]
    clear hcode
    have hst := stack_of hSO
    have HCO := combinationOfAll_any v LL w3 (h.below c3) hst.2 hst.1
    clear hst
    go_wp2_with fail
    refine HCO.mono ?_
    rintro e w4 ⟨f, rfl, hb4, hf⟩
    have c4 := c3.trans (hb4.mono c3.size)
    obtain ⟨fA, fcap, rfl⟩ := hf.form
    have HLI := limitRecords_any fA (squashAllL LL).length fcap w4
    have HF := Lib.hid hf
    clear hf HCO
    by_cases h16 : 16 < (squashAllL LL).length
    · have HQ := Lib.hid (sqa_full H0.out h16)
      rw [if_pos h16] at HLI
      clear h16
      go_wp2_with fail
      refine HLI.mono ?_
      rintro e w5 ⟨rfl, rfl⟩
      go_wp2_with fail
      go_ret2
      exact ⟨.slice none 0 0, by rw [HQ.out.1]; rfl, c4, by rw [HQ.out.2]; exact ⟨rfl, World.ownsRow_nil _ _ _ _⟩⟩
    · have HQ := Lib.hid (sqa_fine H0.out h16)
      rw [if_neg h16] at HLI
      clear h16
      go_wp2_with fail
      refine HLI.mono ?_
      rintro e w5 ⟨rfl, rfl⟩
      go_wp2_with fail
      go_ret2
      exact ⟨_, by rw [HQ.out.1]; rfl, c4, by rw [HQ.out.2]; exact ⟨HF.out.1, own_le HF.out.2 c3.size⟩⟩
  · cases hc : stkE LL <;> (
      rw [hc] at HARG
      first
      | exact absurd (HARG.symm.trans rfl) h0
      | (have HC := stackU_any v LL x y w h hl hr hT
         rw [hc] at HC
         unfold EN.u EU.val at HC
         try unfold errV at HC
         try unfold recV at HC
         go_enter Tryz.func30, Tryz.ntmps30
         go_wp2_with fail
         refine HC.mono ?_
         rintro e w1 ⟨rfl, hb1⟩
         have hT1 := hT.below hb1 (Nat.le_refl _)
         have c2 := hb1
         have HA := argU1_any ((stkE LL).u) x y w1 hT1
         rw [hc] at HA
         have hne : (codeS LL != 0) = true := (by simpa using h0)
         have HQ := Lib.hid (sqa_bad (LL := LL) rfl h0)
         rw [HARG] at HA
         try unfold EN.u at HA
         unfold EU.val at HA
         try unfold errV at HA
         try unfold recV at HA
         generalize hC : codeS LL = C at *
         have HCC := Lib.hid hC
         clear HARG h0 hC
         go_wp2_with fail
         refine HA.mono ?_
         rintro e w3 ⟨rfl, hb3⟩
         have c3 := c2.trans (hb3.mono c2.size)
         go_wp2_with fail
         go_ret2
         exact ⟨.slice none 0 0, by rw [HQ.out.1]; rfl, c3, by rw [HQ.out.2]; exact ⟨rfl, World.ownsRow_nil _ _ _ _⟩⟩))

set_option maxHeartbeats 1000000 in
theorem squashAll_spec (v : Value) (LL : List (List R)) (w : World) (h : StkSl w v LL) (hl : LL.length ≤ 1048576) (hll : ∀ l ∈ LL, l.length ≤ 1048576) :
    Calls Tryz.prog 31 #[v] w fun e w' => ∃ z, e = .returned (.tuple #[z, .int .i64 (sqaC LL)]) ∧ Below w.heap.size w w' ∧ RowOf w' w.heap.size z (sqaR LL).length (sqaR LL) := by
  have HS := Lib.hid h
  obtain ⟨vA, vcap, rfl⟩ := h.form
  have HOK := l05Stack_any _ LL w h hl hll
  have e0 : ∀ W, Below w.heap.size w W → (W.alloc (.cells #[] 53)).ownsRow w.heap.size 53 5 (.slice (some ⟨W.heap.size, 0, none⟩) 0 0) 0 [] := fun W hW => World.ownsRow_lit W #[] 0 hW.size (Nat.zero_le _) rfl
  have E0 := Lib.hid e0
  clear e0
  by_cases h1 : 4096 < LL.length
  · have hd : decide ((4096 : Int) < (LL.length : Int)) = true := by simp; omega
    have HQ := Lib.hid (sqa_bad (s_long h1) (by decide))
    clear h1
    go_enter Tryz.func31, Tryz.ntmps31
    go_wp2_with fail
    go_ret2
    exact ⟨_, by rw [HQ.out.1]; rfl, (Below.refl _ _).alloc (Nat.le_refl _) _, by rw [HQ.out.2]; exact ⟨rfl, E0.out _ (Below.refl _ _)⟩⟩
  have hd1 : decide ((4096 : Int) < (LL.length : Int)) = false := by simp; omega
  cases ho : stackOK LL with
  | false =>
    have HQ := Lib.hid (sqa_bad (s_bad h1 ho) (by decide))
    rw [ho] at HOK
    clear h1 ho
    go_enter Tryz.func31, Tryz.ntmps31
    go_wp2_with fail
    refine HOK.mono ?_
    rintro e w1 ⟨rfl, c0⟩
    go_wp2_with fail
    go_ret2
    exact ⟨_, by rw [HQ.out.1]; rfl, c0.alloc c0.size _, by rw [HQ.out.2]; exact ⟨rfl, E0.out _ c0⟩⟩
  | true =>
    have H0 := Lib.hid (s_ok h1 ho)
    have hst := stack_of ho
    have HAL : ∀ w', Below w.heap.size w w' → Calls Tryz.prog 87 #[.slice vA LL.length vcap] w' fun e w'' => ∃ x, e = .returned x ∧ Below w'.heap.size w' w'' ∧ RowOf w'' w'.heap.size x (squashAllL LL).length (squashAllL LL) := fun w' hb => l06All_any _ LL w' (HS.out.below hb) hst.2 hst.1
    rw [ho] at HOK
    clear h1 ho hst
    go_enter Tryz.func31, Tryz.ntmps31
    go_wp2_with fail
    refine HOK.mono ?_
    rintro e w1 ⟨rfl, c0⟩
    go_wp2_with fail
    refine (HAL _ c0).mono ?_
    rintro e w4 ⟨f, rfl, hb4, hf⟩
    have c4 := c0.trans (hb4.mono c0.size)
    obtain ⟨fA, fcap, rfl⟩ := hf.form
    have HF := Lib.hid hf
    clear hf
    by_cases h16 : 16 < (squashAllL LL).length
    · have HQ := Lib.hid (sqa_full H0.out h16)
      have hd : decide ((16 : Int) < ((squashAllL LL).length : Int)) = true := by simp; omega
      clear h16
      go_wp2_with fail
      go_ret2
      exact ⟨_, by rw [HQ.out.1]; rfl, c4.alloc c4.size _, by rw [HQ.out.2]; exact ⟨rfl, E0.out _ c4⟩⟩
    · have HQ := Lib.hid (sqa_fine H0.out h16)
      have hd : decide ((16 : Int) < ((squashAllL LL).length : Int)) = false := by simp; omega
      clear h16
      go_wp2_with fail
      go_ret2
      exact ⟨_, by rw [HQ.out.1]; rfl, c4, by rw [HQ.out.2]; exact ⟨HF.out.1, own_le HF.out.2 c0.size⟩⟩
end Go.Proofs.YtibekkfbpmloiabGreatDoor.Recs
