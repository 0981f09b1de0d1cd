/- Parts of several texts of mine in one file (each begins with its own remark). -/
import Derived.Test.YtibekkfbpmloiabGreatDoorCA10
import Derived.Test.YtibekkfbpmloiabGreatDoorCA14
import Derived.Test.YtibekkfbpmloiabGreatDoorCA15
import Derived.Test.YtibekkfbpmloiabGreatDoorCA16
import Derived.Test.YtibekkfbpmloiabGreatDoorCA17
import Derived.Test.YtibekkfbpmloiabGreatDoorCA2
import Derived.Test.YtibekkfbpmloiabGreatDoorCA22
import Derived.Test.YtibekkfbpmloiabGreatDoorCA3
import Derived.Test.YtibekkfbpmloiabGreatDoorCA4
import Derived.Test.YtibekkfbpmloiabGreatDoorCA5
import Derived.Test.YtibekkfbpmloiabGreatDoorCA6
import Derived.Test.YtibekkfbpmloiabGreatDoorCA9
import Derived.Test.YtibekkfbpmloiabGreatDoorCE2
import Derived.Test.YtibekkfbpmloiabGreatDoorCE6
import Derived.Test.YtibekkfbpmloiabGreatDoorCE7
import Derived.Test.YtibekkfbpmloiabGreatDoorCE8
import Derived.Test.YtibekkfbpmloiabGreatDoorChecked
import Derived.Test.YtibekkfbpmloiabGreatDoorRows
import Derived.Test.YtibekkfbpmloiabGreatDoorProg
import Derived.Test.YtibekkfbpmloiabGreatDoorShelf
import Derived.Laws.AppendOwnNone
import Derived.StillTailTactics
import Derived.Laws.OwnMore
import Derived.BigQuiet
import Derived.BigRegion
import Derived.Deep.QuietTactic
import Derived.Deep.RegionHeld3
import Derived.Deep.Slices
import Derived.OpenShut
import Derived.ShutString
import Derived.ChangeArms
import Derived.WideShapes
import Derived.Lib.LaidTab
import Derived.Deep.Draws
import Derived.Deep.LoopGhost
import Derived.WalkKit
import Derived.WalkSpells
import Derived.WalkSmall
import Derived.Lib.OthersKept
import Derived.Lib.Hide
import Derived.Lib.Strings
import Derived.Lib.Join
import Derived.Laws.BytesArg
import Derived.Deep.RegionWith
import Derived.OneCell
import Derived.Lib.SliceRun
import Derived.Lib.Overlaps
import Derived.Lib.AppendZerosOnto
import Derived.Laws.NewBlocks
import Derived.Laws.IdiomCopy
import Derived.Deep.RegionLaw
import Derived.ChangeVars
import Derived.Deep.DeepHandedRow
import Derived.LaidEql
import Derived.Stop.Asserts
import Derived.Below
import Derived.Stop.LaidErr
import Derived.Stop.LaidTwo
import Derived.WalkLawsBesides
/- Replaced, of the program. Conditions: the table of kinds, the two sentinels. -/
namespace Go.Proofs.YtibekkfbpmloiabGreatDoor.Recs
set_option maxRecDepth 100000
open Go.RowKit Paths Errs

set_option maxHeartbeats 12800000 in
theorem replaced_impl (v : Value) (LL : List (List R)) (f t : Int) (x y : Addr) (w : World) (h : StkGood w v LL) (hl : LL.length ≤ 1048576) (hr : ∀ l ∈ LL, l.length ≤ 1048576 ∧ ∀ r ∈ l, r.p.size ≤ maxLen) (hT : Three w x y) :
    Calls Tryz.prog 46 #[v, .int .i64 f, .int .i64 t] w fun e w' => ∃ z, e = .returned (.tuple #[z, .int .i64 (repC LL f t)]) ∧ Below w.heap.size w w' ∧ StkOwn w' w.heap.size w.heap.size z (repR LL f t) := by
  have HARG : euFrom [(stkE LL).u] 0 = codeS LL := arg_s LL
  have HG := Lib.hid h
  have HC := stackU_any v LL x y w h.sl hl hr hT
  obtain ⟨vA, vcap, rfl⟩ := h.sl.form
  by_cases h0 : codeS LL = 0
  case neg =>
    cases hc : stkE LL <;> (
      rw [hc] at HARG HC
      first
      | exact absurd (HARG.symm.trans rfl) h0
      | (unfold EN.u EU.val at HC
         try unfold errV at HC
         try unfold recV at HC
         go_enter Tryz.func46, Tryz.ntmps46
         go_wp2_with fail
         refine HC.mono ?_
         rintro e w1 ⟨rfl, hb1⟩
         have hT1 := hT.below hb1 (Nat.le_refl _)
         have c2 := hb1
         have HA := argU1_any ((stkE LL).u) x y w1 hT1
         rw [hc] at HA
         have hne : (codeS LL != 0) = true := (by simpa using h0)
         have HQ := Lib.hid (repC_code (LL := LL) (f := f) (t := t) rfl h0)
         have HR := Lib.hid (repR_bad (LL := LL) (f := f) (t := t) (HQ.out) h0)
         rw [HARG] at HA
         try unfold EN.u at HA
         unfold EU.val at HA
         try unfold errV at HA
         try unfold recV at HA
         generalize hC : codeS LL = C at *
         have HCC := Lib.hid hC
         clear HARG h0 hC
         go_wp2_with fail
         refine HA.mono ?_
         rintro e w3 ⟨rfl, hb3⟩
         have c3 := c2.trans (hb3.mono c2.size)
         go_wp2_with fail
         go_ret2
         exact ⟨.slice none 0 0, by rw [HQ.out]; rfl, c3, by rw [HR.out]; exact StkOwn.nil _ _ _⟩))
  obtain ⟨hc, hSO⟩ := fine_s h0
  have H0 := Lib.hid h0
  have hst := stack_of hSO
  have hL5 := hst.1
  have HST := Lib.hid hst.2
  rw [hc] at HC
  unfold EN.u EU.val at HC
  clear HARG h0 hc hSO hst
  by_cases hf : f < 0
  · have d1 : decide (f < 0) = true := decide_eq_true hf
    have HF := Lib.hid hf
    clear hf
    go_enter Tryz.func46, Tryz.ntmps46
    go_wp2_with fail
    refine HC.mono ?_
    rintro e w1 ⟨rfl, hb1⟩
    have HA := argU1_any .fine x y w1 (hT.below hb1 (Nat.le_refl _))
    unfold EU.val at HA
    go_wp2_with fail
    refine HA.mono ?_
    rintro e w3 ⟨rfl, hb3⟩
    have c3 := hb1.trans (hb3.mono hb1.size)
    have hcode : euFrom [.fine] 0 = 0 := rfl
    rw [hcode]
    clear hcode
    have HQ := Lib.hid (repC_range (f := f) (t := t) H0.out (.inl HF.out))
    have HR := Lib.hid (repR_bad HQ.out (by decide))
    go_wp2_with fail
    go_ret2
    exact ⟨.slice none 0 0, by rw [HQ.out]; rfl, c3, by rw [HR.out]; exact StkOwn.nil _ _ _⟩
  have d1 : decide (f < 0) = false := decide_eq_false hf
  by_cases htf : t < f
  · have d2 : decide (t < f) = true := decide_eq_true htf
    have HF := Lib.hid htf
    clear hf htf
    go_enter Tryz.func46, Tryz.ntmps46
    go_wp2_with fail
    refine HC.mono ?_
    rintro e w1 ⟨rfl, hb1⟩
    have HA := argU1_any .fine x y w1 (hT.below hb1 (Nat.le_refl _))
    unfold EU.val at HA
    go_wp2_with fail
    refine HA.mono ?_
    rintro e w3 ⟨rfl, hb3⟩
    have c3 := hb1.trans (hb3.mono hb1.size)
    have hcode : euFrom [.fine] 0 = 0 := rfl
    rw [hcode]
    clear hcode
    have HQ := Lib.hid (repC_range (f := f) (t := t) H0.out (.inr (.inl HF.out)))
    have HR := Lib.hid (repR_bad HQ.out (by decide))
    go_wp2_with fail
    go_ret2
    exact ⟨.slice none 0 0, by rw [HQ.out]; rfl, c3, by rw [HR.out]; exact StkOwn.nil _ _ _⟩
  have d2 : decide (t < f) = false := decide_eq_false htf
  by_cases htl0 : (LL.length : Int) < t
  · have d3 : decide ((LL.length : Int) < t) = true := decide_eq_true htl0
    have HF := Lib.hid htl0
    clear hf htf htl0
    go_enter Tryz.func46, Tryz.ntmps46
    go_wp2_with fail
    refine HC.mono ?_
    rintro e w1 ⟨rfl, hb1⟩
    have HA := argU1_any .fine x y w1 (hT.below hb1 (Nat.le_refl _))
    unfold EU.val at HA
    go_wp2_with fail
    refine HA.mono ?_
    rintro e w3 ⟨rfl, hb3⟩
    have c3 := hb1.trans (hb3.mono hb1.size)
    have hcode : euFrom [.fine] 0 = 0 := rfl
    rw [hcode]
    clear hcode
    have HQ := Lib.hid (repC_range (f := f) (t := t) H0.out (.inr (.inr HF.out)))
    have HR := Lib.hid (repR_bad HQ.out (by decide))
    go_wp2_with fail
    go_ret2
    exact ⟨.slice none 0 0, by rw [HQ.out]; rfl, c3, by rw [HR.out]; exact StkOwn.nil _ _ _⟩
  have d3 : decide ((LL.length : Int) < t) = false := decide_eq_false htl0
  have HNR : Hid (¬ (f < 0 ∨ t < f ∨ (LL.length : Int) < t)) := by show ¬ _; omega
  obtain ⟨fn, rfl⟩ : ∃ n : Nat, f = (n : Int) := ⟨f.toNat, by omega⟩
  obtain ⟨tn, rfl⟩ : ∃ n : Nat, t = (n : Int) := ⟨t.toNat, by omega⟩
  have hft : fn ≤ tn := by omega
  have htl : tn ≤ LL.length := by omega
  clear hf htf htl0
  by_cases hm : fn = tn ∧ LL.length = 5
  · have HM : Hid ((fn : Int) = (tn : Int) ∧ LL.length = 5) := ⟨by omega, hm.2⟩
    have d4 : decide ((5 : Int) < (LL.length : Int) - ((tn : Int) - (fn : Int)) + 1) = true := decide_eq_true (by omega)
    clear hm
    go_enter Tryz.func46, Tryz.ntmps46
    go_wp2_with fail
    refine HC.mono ?_
    rintro e w1 ⟨rfl, hb1⟩
    have HA := argU1_any .fine x y w1 (hT.below hb1 (Nat.le_refl _))
    unfold EU.val at HA
    go_wp2_with fail
    refine HA.mono ?_
    rintro e w3 ⟨rfl, hb3⟩
    have c3 := hb1.trans (hb3.mono hb1.size)
    have hcode : euFrom [.fine] 0 = 0 := rfl
    rw [hcode]
    clear hcode
    have HQ := Lib.hid (repC_many H0.out HNR.out HM.out)
    have HR := Lib.hid (repR_bad HQ.out (by decide))
    go_wp2_with fail
    go_ret2
    exact ⟨.slice none 0 0, by rw [HQ.out]; rfl, c3, by rw [HR.out]; exact StkOwn.nil _ _ _⟩
  have d4 : decide ((5 : Int) < (LL.length : Int) - ((tn : Int) - (fn : Int)) + 1) = false := decide_eq_false (by omega)
  have HM : Hid (¬ ((fn : Int) = (tn : Int) ∧ LL.length = 5)) := by show ¬ _; omega
  have e1 : ((fn : Int)).toNat = fn := by simp
  have e2 : ((tn : Int)).toNat = tn := by simp
  have HLM : Hid (repC LL fn tn = limE (repM LL fn tn)) := by show _ = _; rw [repC_lim H0.out HNR.out HM.out, e1, e2]
  have HRR : Hid (repC LL fn tn = 0 → repR LL fn tn = LL.take fn ++ [repM LL fn tn] ++ LL.drop tn) := fun hq => by unfold repR; rw [if_pos hq, e1, e2]
  clear e1 e2
  have hcp : LL.length ≤ vcap := by
    obtain ⟨_, _, e, hc, _⟩ := HG.out
    cases e
    exact hc
  have i1 : (0 : Int) ≤ (fn : Int) := by omega
  have i2 : (fn : Int) ≤ (tn : Int) := by omega
  have i3 : (tn : Int) ≤ (vcap : Int) := by omega
  have i4 : (fn : Int) ≤ (vcap : Int) := by omega
  have i5 : (tn : Int) ≤ (LL.length : Int) := by omega
  have i6 : (0 : Int) ≤ (tn : Int) := by omega
  have HPO : Hid (∀ l ∈ (LL.take tn).drop fn, layerOK l = true) := fun l hm => HST.out l (List.mem_of_mem_take (List.mem_of_mem_drop hm))
  have hpl : ((LL.take tn).drop fn).length ≤ 5 := by rw [List.length_drop, List.length_take]; omega
  have HL16 : Hid (∀ l ∈ LL, l.length ≤ 16) := fun l hm => layer_len (HST.out l hm)
  have HML : Hid ((LL.take fn).length = fn) := by show _ = _; rw [List.length_take]; omega
  have HDL : Hid ((LL.drop tn).length = LL.length - tn) := List.length_drop
  obtain ⟨s0, hs, hS0, hS1, hS2⟩ := info_parts ssInfo
  clear hm
  have HTAIL : Hid (∀ (vp : Value), StkGood w vp ((LL.take tn).drop fn) → ∀ W, Below w.heap.size w W → Calls Tryz.prog 85 #[vp] W fun e w' => ∃ x, e = .returned x ∧ Below W.heap.size W w' ∧ RowOf w' W.heap.size x (repM LL fn tn).length (repM LL fn tn)) := fun vp hvp W hW => combinationOfAll_any vp _ W (hvp.below hW).sl HPO.out hpl
  have HCF : Hid (∀ (vp : Value), StkGood w vp (LL.take fn) → ∀ W, Below w.heap.size w W → Calls Tryz.prog 104 #[vp] W fun e w' => ∃ x, e = .returned x ∧ Below W.heap.size W w' ∧ StkOwn w' W.heap.size W.heap.size x (LL.take fn)) := fun vp hvp W hW => copiesOf_any vp _ W (hvp.below hW) (by have := HML.out; omega) (fun l hm => HL16.out l (List.mem_of_mem_take hm))
  have HCT : Hid (∀ (vp : Value), StkGood w vp (LL.drop tn) → ∀ W, Below w.heap.size w W → Calls Tryz.prog 104 #[vp] W fun e w' => ∃ x, e = .returned x ∧ Below W.heap.size W w' ∧ StkOwn w' W.heap.size W.heap.size x (LL.drop tn)) := fun vp hvp W hW => copiesOf_any vp _ W (hvp.below hW) (by have := HDL.out; omega) (fun l hm => HL16.out l (List.mem_of_mem_drop hm))
  have hPART := HG.out.part hft htl
  have hPT := HG.out.take (k := fn) (by omega)
  by_cases hc0 : vcap = 0
  · have hL0 : LL.length = 0 := by omega
    have hfn0 : fn = 0 := by omega
    have htn0 : tn = 0 := by omega
    have HPL0 : Hid (((LL.take tn).drop fn).length = 0) := by show _ = _; rw [List.length_drop, List.length_take]; omega
    have HDL0 : Hid ((LL.drop tn).length = 0) := by show _ = _; rw [List.length_drop]; omega
    subst hc0 hfn0 htn0
    clear hL0
    have HP0 : Hid (∀ M : List (List R), M.length = 0 → StkGood w (.slice vA 0 0) M) := fun M hM => ⟨vA, 0, by rw [hM], by omega, fun h => absurd h (Nat.lt_irrefl _)⟩
    have HAL := HTAIL.out (.slice vA 0 0) (HP0.out _ HPL0.out)
    have HP2 := HCF.out (.slice vA 0 0) (HP0.out _ HML.out)
    have HP3 := HCT.out (.slice vA 0 0) (HP0.out _ HDL0.out)
    clear HTAIL HCF HCT
    go_enter Tryz.func46, Tryz.ntmps46
    go_wp2_with fail
    refine HC.mono ?_
    rintro e w1 ⟨rfl, hb1⟩
    have HA := argU1_any .fine x y w1 (hT.below hb1 (Nat.le_refl _))
    unfold EU.val at HA
    go_wp2_with fail
    refine HA.mono ?_
    rintro e w3 ⟨rfl, hb3⟩
    have c3 := hb1.trans (hb3.mono hb1.size)
    have hcode : euFrom [.fine] 0 = 0 := rfl
    rw [hcode]
    clear hcode
    go_wp2_with fail
    refine (HAL _ c3).mono ?_
    rintro e w4 ⟨g, rfl, hb4, hx⟩
    have c4 := c3.trans (hb4.mono c3.size)
    obtain ⟨xA, xc, rfl⟩ := hx.form
    have HLI := limitRecords_any xA (repM LL 0 0).length xc w4
    have HXR := Lib.hid hx
    clear hx HAL
    by_cases h16 : 16 < (repM LL 0 0).length
    · have HQ : Hid (repC LL ((0 : Nat) : Int) ((0 : Nat) : Int) = 7) := HLM.out.trans (if_pos h16)
      have HR := Lib.hid (repR_bad HQ.out (by decide))
      rw [if_pos h16] at HLI
      clear h16
      go_wp2_with fail
      refine HLI.mono ?_
      rintro e w5 ⟨rfl, rfl⟩
      go_wp2_with fail
      go_ret2
      exact ⟨.slice none 0 0, by rw [HQ.out]; rfl, c4, by rw [HR.out]; exact StkOwn.nil _ _ _⟩
    have HQ : Hid (repC LL ((0 : Nat) : Int) ((0 : Nat) : Int) = 0) := HLM.out.trans (if_neg h16)
    have HR : Hid (repR LL ((0 : Nat) : Int) ((0 : Nat) : Int) = LL.take 0 ++ [repM LL 0 0] ++ LL.drop 0) := HRR.out HQ.out
    rw [if_neg h16] at HLI
    clear h16
    go_wp2_with fail
    refine HLI.mono ?_
    rintro e w5 ⟨rfl, rfl⟩
    go_wp2_with fail
    refine (HP2 _ c4).mono ?_
    rintro e w6 ⟨z, rfl, hb6, hz⟩
    have c6 := c4.trans (hb6.mono c4.size)
    obtain ⟨us, hn0, ho0, h1, h2⟩ := hz
    rw [HML.out] at hn0 ho0
    have HN := Lib.hid hn0
    clear hn0
    obtain ⟨zA, zcap, rfl⟩ := own_form ho0
    have ho := own_down ho0 c4.size
    have eA : Below w6.heap.size w6 (w6.alloc (.cells #[.slice xA (repM LL 0 0).length xc] 27)) := (Below.refl _ _).alloc (Nat.le_refl _) _
    have hbA := c6.trans (eA.mono c6.size)
    have hoA := own_below ho eA
    have hszA := hbA.size
    have HFIN : Hid (∀ v' w9, w9.ownsRow w.heap.size 27 1 v' (0 + 1) (us ++ [.slice xA (repM LL 0 0).length xc]) → (w6.alloc (.cells #[.slice xA (repM LL 0 0).length xc] 27)).grownBy w9 (Value.slice zA 0 zcap).ownBlock → StkOwn w9 w.heap.size w.heap.size v' (LL.take 0 ++ [repM LL 0 0]) ∧ Below w.heap.size w w9) := fun v' w9 hown hg => by
      refine ⟨?_, hbA.grown hg hbA.size (fun j hj => (ho.lt j hj).1)⟩
      refine stk_snoc (LL := LL.take 0) (l := repM LL 0 0) (by rw [HML.out]; exact HN.out) (by rw [HML.out]; exact hoA) (fun i u l hi hl => ⟨rfl, own_down ((h1 i u l hi hl).below eA).2 c4.size⟩) h2 ⟨rfl, own_down (((HXR.out.below hb6).below eA)).2 c3.size⟩ (fun i u c hi hc e => ?_) (by rw [HML.out]; exact hown) hg
      have hil : i < (LL.take 0).length := by have := (List.getElem?_eq_some_iff.1 hi).1; have := HML.out; have := HN.out; omega
      have e2 := ((h1 i u _ hi (List.getElem?_eq_getElem hil)).2.lt c hc).1
      have e1 := (HXR.out.2.lt c e).2
      omega
    clear h1 h2 HLI HP2
    go_wp2_with (first
      | (at_builtin; refine wpList_append_own _ rfl _ _ 43 rfl w.heap.size 27 s0 (.slice none 0 0) 1 24 Tryz.underlying43 hs hS0 hS1 hS2 rfl (by decide) _ _ _ rfl hoA ⟨w6.heap.size, 0, none⟩ 1 1 [.slice xA (repM LL 0 0).length xc] rfl rfl (cell_one_new _ _ _) (fun q hq => by rw [List.mem_singleton.1 hq]; rfl) (by unfold maxLen; omega) (by omega) hszA ?_; intro v' w9 hown' hgrow9 hnil9))
    obtain ⟨r1, c9⟩ := HFIN.out _ _ hown' hgrow9
    clear hown' hgrow9 hnil9 HFIN hoA eA hbA hszA ho ho0
    obtain ⟨us2, hn2, ho2, k1, k2⟩ := r1
    have HL2 : Hid ((LL.take 0 ++ [repM LL 0 0]).length = 0 + 1) := by show _ = _; rw [List.length_append, HML.out]; rfl
    rw [HL2.out] at hn2 ho2
    obtain ⟨yA, yc, rfl⟩ := own_form ho2
    refine (HP3 _ c9).mono ?_
    rintro e w10 ⟨z3, rfl, hb10, hz3⟩
    have c10 := c9.trans (hb10.mono c9.size)
    obtain ⟨ms, hm30, mo, m1, m2⟩ := hz3
    have HM3 := Lib.hid hm30
    clear hm30
    have HN2 := Lib.hid hn2
    clear hn2
    have hoB := own_below ho2 hb10
    have hszB := c10.size
    clear HP3
    obtain ⟨dl, hdl⟩ : ∃ n, (LL.drop 0).length = n := ⟨_, rfl⟩
    have HM4 := HM3.out
    rw [hdl] at mo HM4
    have HDL2 := Lib.hid hdl
    have HM5 := Lib.hid HM4
    clear hdl HM4
    rcases mo.2 with ⟨rfl, h00⟩ | ⟨g3, cap3, cur3, rfl, -, hg3, hc3, -⟩
    · have HD : Hid (LL.drop 0 = []) := List.eq_nil_of_length_eq_zero (HDL2.out.trans h00)
      have HFF : Hid (StkOwn w10 w.heap.size w.heap.size (.slice yA (0 + 1) yc) (LL.take 0 ++ [repM LL 0 0] ++ LL.drop 0)) := by
        show StkOwn _ _ _ _ _
        rw [HD.out, List.append_nil]
        exact ⟨us2, by rw [HL2.out]; exact HN2.out, by rw [HL2.out]; exact hoB, fun i u l hi hl => (k1 i u l hi hl).below hb10, k2⟩
      clear k1 k2 m1 m2 mo h00
      go_wp2_with (first
        | (at_builtin; refine wpList_append_own_none rfl _ _ 43 rfl w.heap.size 27 s0 1 Tryz.underlying43 hs (.slice yA (0 + 1) yc) _ _ rfl hoB rfl ?_))
      go_ret2
      exact ⟨_, by rw [HQ.out]; rfl, c10, by rw [HR.out]; exact HFF.out⟩
    · have HSRC : Hid (∀ j u, ms[j]? = some u → w10.cell? ((⟨g3, 0, none⟩ : Addr).add j) = some u) := fun j u hj => by
        have hjl : j < ms.length := (List.getElem?_eq_some_iff.1 hj).1
        have q := mo.cellAt j (by have := HM5.out; omega)
        rw [hj] at q
        rw [Addr.add_lit, Nat.zero_add]
        exact q
      have HFIN : Hid (∀ v' w9, w9.ownsRow w.heap.size 27 1 v' (0 + 1 + dl) (us2 ++ ms) → w10.grownBy w9 (Value.slice yA (0 + 1) yc).ownBlock → StkOwn w9 w.heap.size w.heap.size v' (LL.take 0 ++ [repM LL 0 0] ++ LL.drop 0) ∧ Below w.heap.size w w9) := fun v' w11 hown hg => by
        refine ⟨?_, c10.grown hg c10.size (fun j hj => (ho2.lt j hj).1)⟩
        refine stk_append (LL := LL.take 0 ++ [repM LL 0 0]) (MM := LL.drop 0) (by rw [HL2.out]; exact HN2.out) (by rw [HL2.out]; exact hoB) (fun i u l hi hl => (k1 i u l hi hl).below hb10) k2 HM3.out (fun i u l hi hl => ⟨rfl, own_down (m1 i u l hi hl).2 c9.size⟩) m2 (fun i k u u' c hi hk hc e => ?_) (by rw [HL2.out, HDL2.out]; exact hown) hg
        have hil : i < (LL.take 0 ++ [repM LL 0 0]).length := by have := (List.getElem?_eq_some_iff.1 hi).1; have := HL2.out; have := HN2.out; omega
        have hkl : k < (LL.drop 0).length := by have := (List.getElem?_eq_some_iff.1 hk).1; have := HM3.out; omega
        have e2 := ((k1 i u _ hi (List.getElem?_eq_getElem hil)).2.lt c hc).2
        have e1 := ((m1 k u' _ hk (List.getElem?_eq_getElem hkl)).2.lt c e).1
        omega
      have hone : ∀ u ∈ ms, u.oneCell' = true := fun u hu => by
        obtain ⟨i, hi, rfl⟩ := List.getElem_of_mem hu
        obtain ⟨_, _, q⟩ := own_form (m1 i _ _ (List.getElem?_eq_getElem hi) (List.getElem?_eq_getElem (by have := HM3.out; omega))).2
        rw [q]
        rfl
      clear k1 k2 m1 m2
      go_wp2_with (first
        | (at_builtin; refine wpList_append_own _ rfl _ _ 43 rfl w.heap.size 27 s0 (.slice none 0 0) 1 24 Tryz.underlying43 hs hS0 hS1 hS2 rfl (by decide) _ _ _ rfl hoB ⟨g3, 0, none⟩ dl cap3 ms rfl (by have := HM5.out; omega) HSRC.out hone (by unfold maxLen; have := HDL.out; have := HDL2.out; omega) (by have := HDL.out; have := HDL2.out; omega) hszB ?_; intro v' w11 hown' hgrow11 hnil11))
      obtain ⟨r1, c11⟩ := HFIN.out _ _ hown' hgrow11
      go_ret2
      exact ⟨_, by rw [HQ.out]; rfl, c11, by rw [HR.out]; exact r1⟩
  have hpos : 0 < vcap := by omega
  obtain ⟨b, off, rfl⟩ : ∃ b off, vA = some ⟨b, off, none⟩ := by
    obtain ⟨_, _, e, _, q⟩ := HG.out
    cases e
    obtain ⟨b, off, e, _⟩ := q hpos
    exact ⟨b, off, e⟩
  by_cases hcf : vcap = fn
  · have hP1 := Lib.hid (hPART.1 hcf)
    have HP3G : Hid (StkGood w (.slice (some ⟨b, off, none⟩) (LL.length - tn) 0) (LL.drop tn)) := ⟨_, 0, by rw [HDL.out], by rw [HDL.out]; omega, fun h => absurd h (Nat.lt_irrefl _)⟩
    have hP2 := Lib.hid hPT
    clear hPART hPT
    have hcf2 : fn = vcap := hcf.symm
    clear hcf
    subst hcf2
    have HAL := HTAIL.out (.slice (some ⟨b, off, none⟩) (tn - fn) 0) (by have q := hP1.out; rw [Nat.sub_self] at q; exact q)
    have HP2 := HCF.out (.slice (some ⟨b, off, none⟩) fn fn) (hP2.out)
    have HP3 := HCT.out (.slice (some ⟨b, off, none⟩) (LL.length - tn) 0) (HP3G.out)
    clear HTAIL HCF HCT
    go_enter Tryz.func46, Tryz.ntmps46
    go_wp2_with fail
    refine HC.mono ?_
    rintro e w1 ⟨rfl, hb1⟩
    have HA := argU1_any .fine x y w1 (hT.below hb1 (Nat.le_refl _))
    unfold EU.val at HA
    go_wp2_with fail
    refine HA.mono ?_
    rintro e w3 ⟨rfl, hb3⟩
    have c3 := hb1.trans (hb3.mono hb1.size)
    have hcode : euFrom [.fine] 0 = 0 := rfl
    rw [hcode]
    clear hcode
    go_wp2_with fail
    refine (HAL _ c3).mono ?_
    rintro e w4 ⟨g, rfl, hb4, hx⟩
    have c4 := c3.trans (hb4.mono c3.size)
    obtain ⟨xA, xc, rfl⟩ := hx.form
    have HLI := limitRecords_any xA (repM LL fn tn).length xc w4
    have HXR := Lib.hid hx
    clear hx HAL
    by_cases h16 : 16 < (repM LL fn tn).length
    · have HQ : Hid (repC LL fn tn = 7) := HLM.out.trans (if_pos h16)
      have HR := Lib.hid (repR_bad HQ.out (by decide))
      rw [if_pos h16] at HLI
      clear h16
      go_wp2_with fail
      refine HLI.mono ?_
      rintro e w5 ⟨rfl, rfl⟩
      go_wp2_with fail
      go_ret2
      exact ⟨.slice none 0 0, by rw [HQ.out]; rfl, c4, by rw [HR.out]; exact StkOwn.nil _ _ _⟩
    have HQ : Hid (repC LL fn tn = 0) := HLM.out.trans (if_neg h16)
    have HR : Hid (repR LL fn tn = LL.take fn ++ [repM LL fn tn] ++ LL.drop tn) := HRR.out HQ.out
    rw [if_neg h16] at HLI
    clear h16
    go_wp2_with fail
    refine HLI.mono ?_
    rintro e w5 ⟨rfl, rfl⟩
    go_wp2_with fail
    refine (HP2 _ c4).mono ?_
    rintro e w6 ⟨z, rfl, hb6, hz⟩
    have c6 := c4.trans (hb6.mono c4.size)
    obtain ⟨us, hn0, ho0, h1, h2⟩ := hz
    rw [HML.out] at hn0 ho0
    have HN := Lib.hid hn0
    clear hn0
    obtain ⟨zA, zcap, rfl⟩ := own_form ho0
    have ho := own_down ho0 c4.size
    have eA : Below w6.heap.size w6 (w6.alloc (.cells #[.slice xA (repM LL fn tn).length xc] 27)) := (Below.refl _ _).alloc (Nat.le_refl _) _
    have hbA := c6.trans (eA.mono c6.size)
    have hoA := own_below ho eA
    have hszA := hbA.size
    have HFIN : Hid (∀ v' w9, w9.ownsRow w.heap.size 27 1 v' (fn + 1) (us ++ [.slice xA (repM LL fn tn).length xc]) → (w6.alloc (.cells #[.slice xA (repM LL fn tn).length xc] 27)).grownBy w9 (Value.slice zA fn zcap).ownBlock → StkOwn w9 w.heap.size w.heap.size v' (LL.take fn ++ [repM LL fn tn]) ∧ Below w.heap.size w w9) := fun v' w9 hown hg => by
      refine ⟨?_, hbA.grown hg hbA.size (fun j hj => (ho.lt j hj).1)⟩
      refine stk_snoc (LL := LL.take fn) (l := repM LL fn tn) (by rw [HML.out]; exact HN.out) (by rw [HML.out]; exact hoA) (fun i u l hi hl => ⟨rfl, own_down ((h1 i u l hi hl).below eA).2 c4.size⟩) h2 ⟨rfl, own_down (((HXR.out.below hb6).below eA)).2 c3.size⟩ (fun i u c hi hc e => ?_) (by rw [HML.out]; exact hown) hg
      have hil : i < (LL.take fn).length := by have := (List.getElem?_eq_some_iff.1 hi).1; have := HML.out; have := HN.out; omega
      have e2 := ((h1 i u _ hi (List.getElem?_eq_getElem hil)).2.lt c hc).1
      have e1 := (HXR.out.2.lt c e).2
      omega
    clear h1 h2 HLI HP2
    go_wp2_with (first
      | (at_builtin; refine wpList_append_own _ rfl _ _ 43 rfl w.heap.size 27 s0 (.slice none 0 0) 1 24 Tryz.underlying43 hs hS0 hS1 hS2 rfl (by decide) _ _ _ rfl hoA ⟨w6.heap.size, 0, none⟩ 1 1 [.slice xA (repM LL fn tn).length xc] rfl rfl (cell_one_new _ _ _) (fun q hq => by rw [List.mem_singleton.1 hq]; rfl) (by unfold maxLen; omega) (by omega) hszA ?_; intro v' w9 hown' hgrow9 hnil9))
    obtain ⟨r1, c9⟩ := HFIN.out _ _ hown' hgrow9
    clear hown' hgrow9 hnil9 HFIN hoA eA hbA hszA ho ho0
    obtain ⟨us2, hn2, ho2, k1, k2⟩ := r1
    have HL2 : Hid ((LL.take fn ++ [repM LL fn tn]).length = fn + 1) := by show _ = _; rw [List.length_append, HML.out]; rfl
    rw [HL2.out] at hn2 ho2
    obtain ⟨yA, yc, rfl⟩ := own_form ho2
    refine (HP3 _ c9).mono ?_
    rintro e w10 ⟨z3, rfl, hb10, hz3⟩
    have c10 := c9.trans (hb10.mono c9.size)
    obtain ⟨ms, hm30, mo, m1, m2⟩ := hz3
    have HM3 := Lib.hid hm30
    clear hm30
    have HN2 := Lib.hid hn2
    clear hn2
    have hoB := own_below ho2 hb10
    have hszB := c10.size
    clear HP3
    obtain ⟨dl, hdl⟩ : ∃ n, (LL.drop tn).length = n := ⟨_, rfl⟩
    have HM4 := HM3.out
    rw [hdl] at mo HM4
    have HDL2 := Lib.hid hdl
    have HM5 := Lib.hid HM4
    clear hdl HM4
    rcases mo.2 with ⟨rfl, h00⟩ | ⟨g3, cap3, cur3, rfl, -, hg3, hc3, -⟩
    · have HD : Hid (LL.drop tn = []) := List.eq_nil_of_length_eq_zero (HDL2.out.trans h00)
      have HFF : Hid (StkOwn w10 w.heap.size w.heap.size (.slice yA (fn + 1) yc) (LL.take fn ++ [repM LL fn tn] ++ LL.drop tn)) := by
        show StkOwn _ _ _ _ _
        rw [HD.out, List.append_nil]
        exact ⟨us2, by rw [HL2.out]; exact HN2.out, by rw [HL2.out]; exact hoB, fun i u l hi hl => (k1 i u l hi hl).below hb10, k2⟩
      clear k1 k2 m1 m2 mo h00
      go_wp2_with (first
        | (at_builtin; refine wpList_append_own_none rfl _ _ 43 rfl w.heap.size 27 s0 1 Tryz.underlying43 hs (.slice yA (fn + 1) yc) _ _ rfl hoB rfl ?_))
      go_ret2
      exact ⟨_, by rw [HQ.out]; rfl, c10, by rw [HR.out]; exact HFF.out⟩
    · have HSRC : Hid (∀ j u, ms[j]? = some u → w10.cell? ((⟨g3, 0, none⟩ : Addr).add j) = some u) := fun j u hj => by
        have hjl : j < ms.length := (List.getElem?_eq_some_iff.1 hj).1
        have q := mo.cellAt j (by have := HM5.out; omega)
        rw [hj] at q
        rw [Addr.add_lit, Nat.zero_add]
        exact q
      have HFIN : Hid (∀ v' w9, w9.ownsRow w.heap.size 27 1 v' (fn + 1 + dl) (us2 ++ ms) → w10.grownBy w9 (Value.slice yA (fn + 1) yc).ownBlock → StkOwn w9 w.heap.size w.heap.size v' (LL.take fn ++ [repM LL fn tn] ++ LL.drop tn) ∧ Below w.heap.size w w9) := fun v' w11 hown hg => by
        refine ⟨?_, c10.grown hg c10.size (fun j hj => (ho2.lt j hj).1)⟩
        refine stk_append (LL := LL.take fn ++ [repM LL fn tn]) (MM := LL.drop tn) (by rw [HL2.out]; exact HN2.out) (by rw [HL2.out]; exact hoB) (fun i u l hi hl => (k1 i u l hi hl).below hb10) k2 HM3.out (fun i u l hi hl => ⟨rfl, own_down (m1 i u l hi hl).2 c9.size⟩) m2 (fun i k u u' c hi hk hc e => ?_) (by rw [HL2.out, HDL2.out]; exact hown) hg
        have hil : i < (LL.take fn ++ [repM LL fn tn]).length := by have := (List.getElem?_eq_some_iff.1 hi).1; have := HL2.out; have := HN2.out; omega
        have hkl : k < (LL.drop tn).length := by have := (List.getElem?_eq_some_iff.1 hk).1; have := HM3.out; omega
        have e2 := ((k1 i u _ hi (List.getElem?_eq_getElem hil)).2.lt c hc).2
        have e1 := ((m1 k u' _ hk (List.getElem?_eq_getElem hkl)).2.lt c e).1
        omega
      have hone : ∀ u ∈ ms, u.oneCell' = true := fun u hu => by
        obtain ⟨i, hi, rfl⟩ := List.getElem_of_mem hu
        obtain ⟨_, _, q⟩ := own_form (m1 i _ _ (List.getElem?_eq_getElem hi) (List.getElem?_eq_getElem (by have := HM3.out; omega))).2
        rw [q]
        rfl
      clear k1 k2 m1 m2
      go_wp2_with (first
        | (at_builtin; refine wpList_append_own _ rfl _ _ 43 rfl w.heap.size 27 s0 (.slice none 0 0) 1 24 Tryz.underlying43 hs hS0 hS1 hS2 rfl (by decide) _ _ _ rfl hoB ⟨g3, 0, none⟩ dl cap3 ms rfl (by have := HM5.out; omega) HSRC.out hone (by unfold maxLen; have := HDL.out; have := HDL2.out; omega) (by have := HDL.out; have := HDL2.out; omega) hszB ?_; intro v' w11 hown' hgrow11 hnil11))
      obtain ⟨r1, c11⟩ := HFIN.out _ _ hown' hgrow11
      go_ret2
      exact ⟨_, by rw [HQ.out]; rfl, c11, by rw [HR.out]; exact r1⟩
  obtain ⟨b', off', e', hP1⟩ := hPART.2 hcf
  cases e'
  have HP1 := Lib.hid hP1
  have HP2G := Lib.hid hPT
  clear hPART hPT hP1
  by_cases hct : vcap = tn
  · have HP3G : Hid (StkGood w (.slice (some ⟨b, off, none⟩) 0 0) (LL.drop tn)) := ⟨_, 0, by rw [HDL.out, show LL.length - tn = 0 by omega], by rw [HDL.out]; omega, fun h => absurd h (Nat.lt_irrefl _)⟩
    have hct2 : tn = vcap := hct.symm
    clear hct
    subst hct2
    have HAL := HTAIL.out (.slice (some ⟨b, off + fn, none⟩) (tn - fn) (tn - fn)) (HP1.out)
    have HP2 := HCF.out (.slice (some ⟨b, off, none⟩) fn tn) (HP2G.out)
    have HP3 := HCT.out (.slice (some ⟨b, off, none⟩) 0 0) (HP3G.out)
    clear HTAIL HCF HCT
    go_enter Tryz.func46, Tryz.ntmps46
    go_wp2_with fail
    refine HC.mono ?_
    rintro e w1 ⟨rfl, hb1⟩
    have HA := argU1_any .fine x y w1 (hT.below hb1 (Nat.le_refl _))
    unfold EU.val at HA
    go_wp2_with fail
    refine HA.mono ?_
    rintro e w3 ⟨rfl, hb3⟩
    have c3 := hb1.trans (hb3.mono hb1.size)
    have hcode : euFrom [.fine] 0 = 0 := rfl
    rw [hcode]
    clear hcode
    go_wp2_with fail
    refine (HAL _ c3).mono ?_
    rintro e w4 ⟨g, rfl, hb4, hx⟩
    have c4 := c3.trans (hb4.mono c3.size)
    obtain ⟨xA, xc, rfl⟩ := hx.form
    have HLI := limitRecords_any xA (repM LL fn tn).length xc w4
    have HXR := Lib.hid hx
    clear hx HAL
    by_cases h16 : 16 < (repM LL fn tn).length
    · have HQ : Hid (repC LL fn tn = 7) := HLM.out.trans (if_pos h16)
      have HR := Lib.hid (repR_bad HQ.out (by decide))
      rw [if_pos h16] at HLI
      clear h16
      go_wp2_with fail
      refine HLI.mono ?_
      rintro e w5 ⟨rfl, rfl⟩
      go_wp2_with fail
      go_ret2
      exact ⟨.slice none 0 0, by rw [HQ.out]; rfl, c4, by rw [HR.out]; exact StkOwn.nil _ _ _⟩
    have HQ : Hid (repC LL fn tn = 0) := HLM.out.trans (if_neg h16)
    have HR : Hid (repR LL fn tn = LL.take fn ++ [repM LL fn tn] ++ LL.drop tn) := HRR.out HQ.out
    rw [if_neg h16] at HLI
    clear h16
    go_wp2_with fail
    refine HLI.mono ?_
    rintro e w5 ⟨rfl, rfl⟩
    go_wp2_with fail
    refine (HP2 _ c4).mono ?_
    rintro e w6 ⟨z, rfl, hb6, hz⟩
    have c6 := c4.trans (hb6.mono c4.size)
    obtain ⟨us, hn0, ho0, h1, h2⟩ := hz
    rw [HML.out] at hn0 ho0
    have HN := Lib.hid hn0
    clear hn0
    obtain ⟨zA, zcap, rfl⟩ := own_form ho0
    have ho := own_down ho0 c4.size
    have eA : Below w6.heap.size w6 (w6.alloc (.cells #[.slice xA (repM LL fn tn).length xc] 27)) := (Below.refl _ _).alloc (Nat.le_refl _) _
    have hbA := c6.trans (eA.mono c6.size)
    have hoA := own_below ho eA
    have hszA := hbA.size
    have HFIN : Hid (∀ v' w9, w9.ownsRow w.heap.size 27 1 v' (fn + 1) (us ++ [.slice xA (repM LL fn tn).length xc]) → (w6.alloc (.cells #[.slice xA (repM LL fn tn).length xc] 27)).grownBy w9 (Value.slice zA fn zcap).ownBlock → StkOwn w9 w.heap.size w.heap.size v' (LL.take fn ++ [repM LL fn tn]) ∧ Below w.heap.size w w9) := fun v' w9 hown hg => by
      refine ⟨?_, hbA.grown hg hbA.size (fun j hj => (ho.lt j hj).1)⟩
      refine stk_snoc (LL := LL.take fn) (l := repM LL fn tn) (by rw [HML.out]; exact HN.out) (by rw [HML.out]; exact hoA) (fun i u l hi hl => ⟨rfl, own_down ((h1 i u l hi hl).below eA).2 c4.size⟩) h2 ⟨rfl, own_down (((HXR.out.below hb6).below eA)).2 c3.size⟩ (fun i u c hi hc e => ?_) (by rw [HML.out]; exact hown) hg
      have hil : i < (LL.take fn).length := by have := (List.getElem?_eq_some_iff.1 hi).1; have := HML.out; have := HN.out; omega
      have e2 := ((h1 i u _ hi (List.getElem?_eq_getElem hil)).2.lt c hc).1
      have e1 := (HXR.out.2.lt c e).2
      omega
    clear h1 h2 HLI HP2
    go_wp2_with (first
      | (at_builtin; refine wpList_append_own _ rfl _ _ 43 rfl w.heap.size 27 s0 (.slice none 0 0) 1 24 Tryz.underlying43 hs hS0 hS1 hS2 rfl (by decide) _ _ _ rfl hoA ⟨w6.heap.size, 0, none⟩ 1 1 [.slice xA (repM LL fn tn).length xc] rfl rfl (cell_one_new _ _ _) (fun q hq => by rw [List.mem_singleton.1 hq]; rfl) (by unfold maxLen; omega) (by omega) hszA ?_; intro v' w9 hown' hgrow9 hnil9))
    obtain ⟨r1, c9⟩ := HFIN.out _ _ hown' hgrow9
    clear hown' hgrow9 hnil9 HFIN hoA eA hbA hszA ho ho0
    obtain ⟨us2, hn2, ho2, k1, k2⟩ := r1
    have HL2 : Hid ((LL.take fn ++ [repM LL fn tn]).length = fn + 1) := by show _ = _; rw [List.length_append, HML.out]; rfl
    rw [HL2.out] at hn2 ho2
    obtain ⟨yA, yc, rfl⟩ := own_form ho2
    refine (HP3 _ c9).mono ?_
    rintro e w10 ⟨z3, rfl, hb10, hz3⟩
    have c10 := c9.trans (hb10.mono c9.size)
    obtain ⟨ms, hm30, mo, m1, m2⟩ := hz3
    have HM3 := Lib.hid hm30
    clear hm30
    have HN2 := Lib.hid hn2
    clear hn2
    have hoB := own_below ho2 hb10
    have hszB := c10.size
    clear HP3
    obtain ⟨dl, hdl⟩ : ∃ n, (LL.drop tn).length = n := ⟨_, rfl⟩
    have HM4 := HM3.out
    rw [hdl] at mo HM4
    have HDL2 := Lib.hid hdl
    have HM5 := Lib.hid HM4
    clear hdl HM4
    rcases mo.2 with ⟨rfl, h00⟩ | ⟨g3, cap3, cur3, rfl, -, hg3, hc3, -⟩
    · have HD : Hid (LL.drop tn = []) := List.eq_nil_of_length_eq_zero (HDL2.out.trans h00)
      have HFF : Hid (StkOwn w10 w.heap.size w.heap.size (.slice yA (fn + 1) yc) (LL.take fn ++ [repM LL fn tn] ++ LL.drop tn)) := by
        show StkOwn _ _ _ _ _
        rw [HD.out, List.append_nil]
        exact ⟨us2, by rw [HL2.out]; exact HN2.out, by rw [HL2.out]; exact hoB, fun i u l hi hl => (k1 i u l hi hl).below hb10, k2⟩
      clear k1 k2 m1 m2 mo h00
      go_wp2_with (first
        | (at_builtin; refine wpList_append_own_none rfl _ _ 43 rfl w.heap.size 27 s0 1 Tryz.underlying43 hs (.slice yA (fn + 1) yc) _ _ rfl hoB rfl ?_))
      go_ret2
      exact ⟨_, by rw [HQ.out]; rfl, c10, by rw [HR.out]; exact HFF.out⟩
    · have HSRC : Hid (∀ j u, ms[j]? = some u → w10.cell? ((⟨g3, 0, none⟩ : Addr).add j) = some u) := fun j u hj => by
        have hjl : j < ms.length := (List.getElem?_eq_some_iff.1 hj).1
        have q := mo.cellAt j (by have := HM5.out; omega)
        rw [hj] at q
        rw [Addr.add_lit, Nat.zero_add]
        exact q
      have HFIN : Hid (∀ v' w9, w9.ownsRow w.heap.size 27 1 v' (fn + 1 + dl) (us2 ++ ms) → w10.grownBy w9 (Value.slice yA (fn + 1) yc).ownBlock → StkOwn w9 w.heap.size w.heap.size v' (LL.take fn ++ [repM LL fn tn] ++ LL.drop tn) ∧ Below w.heap.size w w9) := fun v' w11 hown hg => by
        refine ⟨?_, c10.grown hg c10.size (fun j hj => (ho2.lt j hj).1)⟩
        refine stk_append (LL := LL.take fn ++ [repM LL fn tn]) (MM := LL.drop tn) (by rw [HL2.out]; exact HN2.out) (by rw [HL2.out]; exact hoB) (fun i u l hi hl => (k1 i u l hi hl).below hb10) k2 HM3.out (fun i u l hi hl => ⟨rfl, own_down (m1 i u l hi hl).2 c9.size⟩) m2 (fun i k u u' c hi hk hc e => ?_) (by rw [HL2.out, HDL2.out]; exact hown) hg
        have hil : i < (LL.take fn ++ [repM LL fn tn]).length := by have := (List.getElem?_eq_some_iff.1 hi).1; have := HL2.out; have := HN2.out; omega
        have hkl : k < (LL.drop tn).length := by have := (List.getElem?_eq_some_iff.1 hk).1; have := HM3.out; omega
        have e2 := ((k1 i u _ hi (List.getElem?_eq_getElem hil)).2.lt c hc).2
        have e1 := ((m1 k u' _ hk (List.getElem?_eq_getElem hkl)).2.lt c e).1
        omega
      have hone : ∀ u ∈ ms, u.oneCell' = true := fun u hu => by
        obtain ⟨i, hi, rfl⟩ := List.getElem_of_mem hu
        obtain ⟨_, _, q⟩ := own_form (m1 i _ _ (List.getElem?_eq_getElem hi) (List.getElem?_eq_getElem (by have := HM3.out; omega))).2
        rw [q]
        rfl
      clear k1 k2 m1 m2
      go_wp2_with (first
        | (at_builtin; refine wpList_append_own _ rfl _ _ 43 rfl w.heap.size 27 s0 (.slice none 0 0) 1 24 Tryz.underlying43 hs hS0 hS1 hS2 rfl (by decide) _ _ _ rfl hoB ⟨g3, 0, none⟩ dl cap3 ms rfl (by have := HM5.out; omega) HSRC.out hone (by unfold maxLen; have := HDL.out; have := HDL2.out; omega) (by have := HDL.out; have := HDL2.out; omega) hszB ?_; intro v' w11 hown' hgrow11 hnil11))
      obtain ⟨r1, c11⟩ := HFIN.out _ _ hown' hgrow11
      go_ret2
      exact ⟨_, by rw [HQ.out]; rfl, c11, by rw [HR.out]; exact r1⟩
  have HP3G := Lib.hid (HG.out.drop (k := tn) htl (by omega))
  have HAL := HTAIL.out (.slice (some ⟨b, off + fn, none⟩) (tn - fn) (vcap - fn)) (HP1.out)
  have HP2 := HCF.out (.slice (some ⟨b, off, none⟩) fn vcap) (HP2G.out)
  have HP3 := HCT.out (.slice (some ⟨b, off + tn, none⟩) (LL.length - tn) (vcap - tn)) (HP3G.out)
  clear HTAIL HCF HCT
  go_enter Tryz.func46, Tryz.ntmps46
  go_wp2_with fail
  refine HC.mono ?_
  rintro e w1 ⟨rfl, hb1⟩
  have HA := argU1_any .fine x y w1 (hT.below hb1 (Nat.le_refl _))
  unfold EU.val at HA
  go_wp2_with fail
  refine HA.mono ?_
  rintro e w3 ⟨rfl, hb3⟩
  have c3 := hb1.trans (hb3.mono hb1.size)
  have hcode : euFrom [.fine] 0 = 0 := rfl
  rw [hcode]
  clear hcode
  go_wp2_with fail
  refine (HAL _ c3).mono ?_
  rintro e w4 ⟨g, rfl, hb4, hx⟩
  have c4 := c3.trans (hb4.mono c3.size)
  obtain ⟨xA, xc, rfl⟩ := hx.form
  have HLI := limitRecords_any xA (repM LL fn tn).length xc w4
  have HXR := Lib.hid hx
  clear hx HAL
  by_cases h16 : 16 < (repM LL fn tn).length
  · have HQ : Hid (repC LL fn tn = 7) := HLM.out.trans (if_pos h16)
    have HR := Lib.hid (repR_bad HQ.out (by decide))
    rw [if_pos h16] at HLI
    clear h16
    go_wp2_with fail
    refine HLI.mono ?_
    rintro e w5 ⟨rfl, rfl⟩
    go_wp2_with fail
    go_ret2
    exact ⟨.slice none 0 0, by rw [HQ.out]; rfl, c4, by rw [HR.out]; exact StkOwn.nil _ _ _⟩
  have HQ : Hid (repC LL fn tn = 0) := HLM.out.trans (if_neg h16)
  have HR : Hid (repR LL fn tn = LL.take fn ++ [repM LL fn tn] ++ LL.drop tn) := HRR.out HQ.out
  rw [if_neg h16] at HLI
  clear h16
  go_wp2_with fail
  refine HLI.mono ?_
  rintro e w5 ⟨rfl, rfl⟩
  go_wp2_with fail
  refine (HP2 _ c4).mono ?_
  rintro e w6 ⟨z, rfl, hb6, hz⟩
  have c6 := c4.trans (hb6.mono c4.size)
  obtain ⟨us, hn0, ho0, h1, h2⟩ := hz
  rw [HML.out] at hn0 ho0
  have HN := Lib.hid hn0
  clear hn0
  obtain ⟨zA, zcap, rfl⟩ := own_form ho0
  have ho := own_down ho0 c4.size
  have eA : Below w6.heap.size w6 (w6.alloc (.cells #[.slice xA (repM LL fn tn).length xc] 27)) := (Below.refl _ _).alloc (Nat.le_refl _) _
  have hbA := c6.trans (eA.mono c6.size)
  have hoA := own_below ho eA
  have hszA := hbA.size
  have HFIN : Hid (∀ v' w9, w9.ownsRow w.heap.size 27 1 v' (fn + 1) (us ++ [.slice xA (repM LL fn tn).length xc]) → (w6.alloc (.cells #[.slice xA (repM LL fn tn).length xc] 27)).grownBy w9 (Value.slice zA fn zcap).ownBlock → StkOwn w9 w.heap.size w.heap.size v' (LL.take fn ++ [repM LL fn tn]) ∧ Below w.heap.size w w9) := fun v' w9 hown hg => by
    refine ⟨?_, hbA.grown hg hbA.size (fun j hj => (ho.lt j hj).1)⟩
    refine stk_snoc (LL := LL.take fn) (l := repM LL fn tn) (by rw [HML.out]; exact HN.out) (by rw [HML.out]; exact hoA) (fun i u l hi hl => ⟨rfl, own_down ((h1 i u l hi hl).below eA).2 c4.size⟩) h2 ⟨rfl, own_down (((HXR.out.below hb6).below eA)).2 c3.size⟩ (fun i u c hi hc e => ?_) (by rw [HML.out]; exact hown) hg
    have hil : i < (LL.take fn).length := by have := (List.getElem?_eq_some_iff.1 hi).1; have := HML.out; have := HN.out; omega
    have e2 := ((h1 i u _ hi (List.getElem?_eq_getElem hil)).2.lt c hc).1
    have e1 := (HXR.out.2.lt c e).2
    omega
  clear h1 h2 HLI HP2
  go_wp2_with (first
    | (at_builtin; refine wpList_append_own _ rfl _ _ 43 rfl w.heap.size 27 s0 (.slice none 0 0) 1 24 Tryz.underlying43 hs hS0 hS1 hS2 rfl (by decide) _ _ _ rfl hoA ⟨w6.heap.size, 0, none⟩ 1 1 [.slice xA (repM LL fn tn).length xc] rfl rfl (cell_one_new _ _ _) (fun q hq => by rw [List.mem_singleton.1 hq]; rfl) (by unfold maxLen; omega) (by omega) hszA ?_; intro v' w9 hown' hgrow9 hnil9))
  obtain ⟨r1, c9⟩ := HFIN.out _ _ hown' hgrow9
  clear hown' hgrow9 hnil9 HFIN hoA eA hbA hszA ho ho0
  obtain ⟨us2, hn2, ho2, k1, k2⟩ := r1
  have HL2 : Hid ((LL.take fn ++ [repM LL fn tn]).length = fn + 1) := by show _ = _; rw [List.length_append, HML.out]; rfl
  rw [HL2.out] at hn2 ho2
  obtain ⟨yA, yc, rfl⟩ := own_form ho2
  refine (HP3 _ c9).mono ?_
  rintro e w10 ⟨z3, rfl, hb10, hz3⟩
  have c10 := c9.trans (hb10.mono c9.size)
  obtain ⟨ms, hm30, mo, m1, m2⟩ := hz3
  have HM3 := Lib.hid hm30
  clear hm30
  have HN2 := Lib.hid hn2
  clear hn2
  have hoB := own_below ho2 hb10
  have hszB := c10.size
  clear HP3
  obtain ⟨dl, hdl⟩ : ∃ n, (LL.drop tn).length = n := ⟨_, rfl⟩
  have HM4 := HM3.out
  rw [hdl] at mo HM4
  have HDL2 := Lib.hid hdl
  have HM5 := Lib.hid HM4
  clear hdl HM4
  rcases mo.2 with ⟨rfl, h00⟩ | ⟨g3, cap3, cur3, rfl, -, hg3, hc3, -⟩
  · have HD : Hid (LL.drop tn = []) := List.eq_nil_of_length_eq_zero (HDL2.out.trans h00)
    have HFF : Hid (StkOwn w10 w.heap.size w.heap.size (.slice yA (fn + 1) yc) (LL.take fn ++ [repM LL fn tn] ++ LL.drop tn)) := by
      show StkOwn _ _ _ _ _
      rw [HD.out, List.append_nil]
      exact ⟨us2, by rw [HL2.out]; exact HN2.out, by rw [HL2.out]; exact hoB, fun i u l hi hl => (k1 i u l hi hl).below hb10, k2⟩
    clear k1 k2 m1 m2 mo h00
    go_wp2_with (first
      | (at_builtin; refine wpList_append_own_none rfl _ _ 43 rfl w.heap.size 27 s0 1 Tryz.underlying43 hs (.slice yA (fn + 1) yc) _ _ rfl hoB rfl ?_))
    go_ret2
    exact ⟨_, by rw [HQ.out]; rfl, c10, by rw [HR.out]; exact HFF.out⟩
  · have HSRC : Hid (∀ j u, ms[j]? = some u → w10.cell? ((⟨g3, 0, none⟩ : Addr).add j) = some u) := fun j u hj => by
      have hjl : j < ms.length := (List.getElem?_eq_some_iff.1 hj).1
      have q := mo.cellAt j (by have := HM5.out; omega)
      rw [hj] at q
      rw [Addr.add_lit, Nat.zero_add]
      exact q
    have HFIN : Hid (∀ v' w9, w9.ownsRow w.heap.size 27 1 v' (fn + 1 + dl) (us2 ++ ms) → w10.grownBy w9 (Value.slice yA (fn + 1) yc).ownBlock → StkOwn w9 w.heap.size w.heap.size v' (LL.take fn ++ [repM LL fn tn] ++ LL.drop tn) ∧ Below w.heap.size w w9) := fun v' w11 hown hg => by
      refine ⟨?_, c10.grown hg c10.size (fun j hj => (ho2.lt j hj).1)⟩
      refine stk_append (LL := LL.take fn ++ [repM LL fn tn]) (MM := LL.drop tn) (by rw [HL2.out]; exact HN2.out) (by rw [HL2.out]; exact hoB) (fun i u l hi hl => (k1 i u l hi hl).below hb10) k2 HM3.out (fun i u l hi hl => ⟨rfl, own_down (m1 i u l hi hl).2 c9.size⟩) m2 (fun i k u u' c hi hk hc e => ?_) (by rw [HL2.out, HDL2.out]; exact hown) hg
      have hil : i < (LL.take fn ++ [repM LL fn tn]).length := by have := (List.getElem?_eq_some_iff.1 hi).1; have := HL2.out; have := HN2.out; omega
      have hkl : k < (LL.drop tn).length := by have := (List.getElem?_eq_some_iff.1 hk).1; have := HM3.out; omega
      have e2 := ((k1 i u _ hi (List.getElem?_eq_getElem hil)).2.lt c hc).2
      have e1 := ((m1 k u' _ hk (List.getElem?_eq_getElem hkl)).2.lt c e).1
      omega
    have hone : ∀ u ∈ ms, u.oneCell' = true := fun u hu => by
      obtain ⟨i, hi, rfl⟩ := List.getElem_of_mem hu
      obtain ⟨_, _, q⟩ := own_form (m1 i _ _ (List.getElem?_eq_getElem hi) (List.getElem?_eq_getElem (by have := HM3.out; omega))).2
      rw [q]
      rfl
    clear k1 k2 m1 m2
    go_wp2_with (first
      | (at_builtin; refine wpList_append_own _ rfl _ _ 43 rfl w.heap.size 27 s0 (.slice none 0 0) 1 24 Tryz.underlying43 hs hS0 hS1 hS2 rfl (by decide) _ _ _ rfl hoB ⟨g3, 0, none⟩ dl cap3 ms rfl (by have := HM5.out; omega) HSRC.out hone (by unfold maxLen; have := HDL.out; have := HDL2.out; omega) (by have := HDL.out; have := HDL2.out; omega) hszB ?_; intro v' w11 hown' hgrow11 hnil11))
    obtain ⟨r1, c11⟩ := HFIN.out _ _ hown' hgrow11
    go_ret2
    exact ⟨_, by rw [HQ.out]; rfl, c11, by rw [HR.out]; exact r1⟩
end Go.Proofs.YtibekkfbpmloiabGreatDoor.Recs
