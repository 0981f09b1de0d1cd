/- Parts of several texts of mine in one file (each begins with its own remark). -/
import Derived.Test.YthopokiablgjoaaGreatDoorCA1
import Derived.Test.YthopokiablgjoaaGreatDoorCA10
import Derived.Test.YthopokiablgjoaaGreatDoorCA12
import Derived.Test.YthopokiablgjoaaGreatDoorCA13
import Derived.Test.YthopokiablgjoaaGreatDoorCA14
import Derived.Test.YthopokiablgjoaaGreatDoorCA2
import Derived.Test.YthopokiablgjoaaGreatDoorCA20
import Derived.Test.YthopokiablgjoaaGreatDoorCA3
import Derived.Test.YthopokiablgjoaaGreatDoorCA4
import Derived.Test.YthopokiablgjoaaGreatDoorCA5
import Derived.Test.YthopokiablgjoaaGreatDoorCA7
import Derived.Test.YthopokiablgjoaaGreatDoorCA8
import Derived.Test.YthopokiablgjoaaGreatDoorCA9
import Derived.Test.YthopokiablgjoaaGreatDoorChecked
import Derived.Test.YthopokiablgjoaaGreatDoorRows
import Derived.Test.YthopokiablgjoaaGreatDoorProg
import Derived.Test.YthopokiablgjoaaGreatDoorShelf
import Derived.Laws.AppendOwnNone
import Derived.StillTailTactics
import Derived.Laws.OwnMore
import Derived.BigQuiet
import Derived.BigRegion
import Derived.Deep.QuietTactic
import Derived.Deep.RegionHeld3
import Derived.Deep.Slices
import Derived.OpenShut
import Derived.ShutString
import Derived.ChangeArms
import Derived.WideShapes
import Derived.Lib.LaidTab
import Derived.Deep.Draws
import Derived.Deep.LoopGhost
import Derived.WalkKit
import Derived.WalkSpells
import Derived.WalkSmall
import Derived.Lib.OthersKept
import Derived.Lib.Hide
import Derived.Lib.Strings
import Derived.Lib.Join
import Derived.Laws.BytesArg
import Derived.Deep.RegionWith
import Derived.OneCell
import Derived.Lib.SliceRun
import Derived.Lib.Overlaps
import Derived.Lib.AppendZerosOnto
import Derived.Laws.NewBlocks
import Derived.Laws.IdiomCopy
import Derived.Deep.RegionLaw
import Derived.ChangeVars
import Derived.Deep.DeepHandedRow
import Derived.LaidEql
import Derived.Stop.Asserts
import Derived.Below
import Derived.Stop.LaidErr
import Derived.Stop.LaidTwo
import Derived.WalkLawsBesides
/- Replaced, of the model. -/
namespace Go.Proofs.YthopokiablgjoaaGreatDoor.Recs
set_option maxRecDepth 100000
open Go.RowKit Paths

theorem inB_yes {n a b : Int} (h : a ≤ n ∧ n ≤ b) : inB n a b = true := decide_eq_true h
theorem inB_no {n a b : Int} (h : ¬ (a ≤ n ∧ n ≤ b)) : inB n a b = false := decide_eq_false h

set_option maxHeartbeats 6400000 in
theorem replaced_spec (v : Value) (LL : List (List R)) (f t : Int) (w : World) (h : StkGood w v LL) (hl : LL.length ≤ 1048576) (hll : ∀ l ∈ LL, l.length ≤ 1048576) :
    Calls Tryz.prog 41 #[v, .int .i64 f, .int .i64 t] w fun e w' => ∃ z, e = .returned (.tuple #[z, .int .i64 (repC LL f t)]) ∧ Below w.heap.size w w' ∧ StkOwn w' w.heap.size w.heap.size z (repR LL f t) := by
  have HG := Lib.hid h
  have HOK := l05Stack_any _ LL w h.sl hl hll
  obtain ⟨vA, vcap, rfl⟩ := h.sl.form
  have E0 : Hid (∀ W, Below w.heap.size w W → StkOwn (W.alloc (.cells #[] 23)) w.heap.size w.heap.size (.slice (some ⟨W.heap.size, 0, none⟩) 0 0) []) := fun W hW => ⟨[], rfl, World.ownsRow_lit W #[] 0 hW.size (Nat.zero_le _) rfl, fun i u l h => by simp at h, fun i k u u' c h => by simp at h⟩
  have c0 := Below.refl w.heap.size w
  by_cases h1 : 4096 < LL.length
  · have hd : decide ((4096 : Int) < (LL.length : Int)) = true := decide_eq_true (by omega)
    have H1 := Lib.hid h1
    clear h1
    go_enter Tryz.func41, Tryz.ntmps41
    have HQ := Lib.hid (repC_code (f := f) (t := t) (s_long H1.out) (by decide))
    have HR := Lib.hid (repR_bad HQ.out (by decide))
    go_wp2_with fail
    go_ret2
    exact ⟨_, by rw [HQ.out]; rfl, c0.alloc c0.size _, by rw [HR.out]; exact E0.out _ c0⟩
  have hd1 : decide ((4096 : Int) < (LL.length : Int)) = false := decide_eq_false (by omega)
  cases ho : stackOK LL with
  | false =>
    have H1 := Lib.hid (s_bad h1 ho)
    rw [ho] at HOK
    clear h1 ho
    go_enter Tryz.func41, Tryz.ntmps41
    go_wp2_with fail
    refine HOK.mono ?_
    rintro e w1 ⟨rfl, c1⟩
    have HQ := Lib.hid (repC_code (f := f) (t := t) H1.out (by decide))
    have HR := Lib.hid (repR_bad HQ.out (by decide))
    go_wp2_with fail
    go_ret2
    exact ⟨_, by rw [HQ.out]; rfl, c1.alloc c1.size _, by rw [HR.out]; exact E0.out _ c1⟩
  | true =>
    have H0 := Lib.hid (s_ok h1 ho)
    have hst := stack_of ho
    have hL5 := hst.1
    have HST := Lib.hid hst.2
    rw [ho] at HOK
    clear h1 ho hst
    by_cases hf : 0 ≤ f ∧ f ≤ (LL.length : Int)
    case neg =>
      have HI1 := fun W => l01In_any f 0 (LL.length : Int) W
      rw [inB_no hf] at HI1
      have HF := Lib.hid hf
      clear hf
      go_enter Tryz.func41, Tryz.ntmps41
      go_wp2_with fail
      refine HOK.mono ?_
      rintro e w1 ⟨rfl, c1⟩
      go_wp2_with fail
      refine (HI1 _).mono ?_
      rintro e w2 ⟨rfl, rfl⟩
      have HQ := Lib.hid (repC_range (f := f) (t := t) H0.out (by have := HF.out; omega))
      have HR := Lib.hid (repR_bad HQ.out (by decide))
      go_wp2_with fail
      go_ret2
      exact ⟨_, by rw [HQ.out]; rfl, c1.alloc c1.size _, by rw [HR.out]; exact E0.out _ c1⟩
    have HI1 := fun W => l01In_any f 0 (LL.length : Int) W
    rw [inB_yes hf] at HI1
    by_cases htt : f ≤ t ∧ t ≤ (LL.length : Int)
    case neg =>
      have HI2 := fun W => l01In_any t f (LL.length : Int) W
      rw [inB_no htt] at HI2
      have HF := Lib.hid htt
      clear hf htt
      go_enter Tryz.func41, Tryz.ntmps41
      go_wp2_with fail
      refine HOK.mono ?_
      rintro e w1 ⟨rfl, c1⟩
      go_wp2_with fail
      refine (HI1 _).mono ?_
      rintro e w2 ⟨rfl, rfl⟩
      go_wp2_with fail
      refine (HI2 _).mono ?_
      rintro e w3 ⟨rfl, rfl⟩
      have HQ := Lib.hid (repC_range (f := f) (t := t) H0.out (by have := HF.out; omega))
      have HR := Lib.hid (repR_bad HQ.out (by decide))
      go_wp2_with fail
      go_ret2
      exact ⟨_, by rw [HQ.out]; rfl, c1.alloc c1.size _, by rw [HR.out]; exact E0.out _ c1⟩
    have HI2 := fun W => l01In_any t f (LL.length : Int) W
    rw [inB_yes htt] at HI2
    have HNR : Hid (¬ (f < 0 ∨ t < f ∨ (LL.length : Int) < t)) := by show ¬ _; omega
    obtain ⟨fn, rfl⟩ : ∃ n : Nat, f = (n : Int) := ⟨f.toNat, by omega⟩
    obtain ⟨tn, rfl⟩ : ∃ n : Nat, t = (n : Int) := ⟨t.toNat, by omega⟩
    have hft : fn ≤ tn := by omega
    have htl : tn ≤ LL.length := by omega
    clear hf htt
    by_cases hm : fn = tn ∧ LL.length = 5
    · have HM : Hid ((fn : Int) = (tn : Int) ∧ LL.length = 5) := ⟨by omega, hm.2⟩
      have q1 : ((fn : Int) == (tn : Int)) = true := beq_iff_eq.2 (by omega)
      have q2 : ((LL.length : Int) == 5) = true := beq_iff_eq.2 (by omega)
      have q3 : (fn == tn) = true := beq_iff_eq.2 hm.1
      have q4 : (LL.length == 5) = true := beq_iff_eq.2 hm.2
      clear hm
      go_enter Tryz.func41, Tryz.ntmps41
      go_wp2_with fail
      refine HOK.mono ?_
      rintro e w1 ⟨rfl, c1⟩
      go_wp2_with fail
      refine (HI1 _).mono ?_
      rintro e w2 ⟨rfl, rfl⟩
      go_wp2_with fail
      refine (HI2 _).mono ?_
      rintro e w3 ⟨rfl, rfl⟩
      have HQ := Lib.hid (repC_many H0.out HNR.out HM.out)
      have HR := Lib.hid (repR_bad HQ.out (by decide))
      go_wp2_with fail
      go_ret2
      exact ⟨_, by rw [HQ.out]; rfl, c1.alloc c1.size _, by rw [HR.out]; exact E0.out _ c1⟩
    have HM : Hid (¬ ((fn : Int) = (tn : Int) ∧ LL.length = 5)) := by show ¬ _; omega
    have HLM := Lib.hid (repC_lim H0.out HNR.out HM.out)
    have hcp : LL.length ≤ vcap := by
      obtain ⟨_, _, e, hc, _⟩ := HG.out
      cases e
      exact hc
    have i1 : (0 : Int) ≤ (fn : Int) := by omega
    have i2 : (fn : Int) ≤ (tn : Int) := by omega
    have i3 : (tn : Int) ≤ (vcap : Int) := by omega
    have HPO : Hid (∀ l ∈ (LL.take tn).drop fn, layerOK l = true) := fun l hm => HST.out l (List.mem_of_mem_take (List.mem_of_mem_drop hm))
    have hpl : ((LL.take tn).drop fn).length ≤ 5 := by rw [List.length_drop, List.length_take]; omega
    have HG2 : Hid (∀ W, Below w.heap.size w W → StkGood W (.slice vA LL.length vcap) LL) := fun W hW => HG.out.below hW
    have HL16 : Hid (∀ l ∈ LL, l.length ≤ 16) := fun l hm => layer_len (HST.out l hm)
    have e1 : ((fn : Int)).toNat = fn := by simp
    have e2 : ((tn : Int)).toNat = tn := by simp
    have HTAIL : Hid (∀ (vp : Value), (∀ W, Below w.heap.size w W → StkGood W vp ((LL.take tn).drop fn)) → ∀ W, Below w.heap.size w W → Calls Tryz.prog 84 #[vp] W fun e w' => ∃ x, e = .returned x ∧ Below W.heap.size W w' ∧ RowOf w' W.heap.size x (repM LL fn tn).length (repM LL fn tn)) := fun vp hvp W hW => l06All_any vp _ W (hvp W hW).sl HPO.out hpl
    have hPART := HG.out.part hft htl
    clear hm
    have hMM : fn = tn → ¬ LL.length = 5 := by have := HM.out; omega
    by_cases hcf : vcap = fn
    · have HPG := Lib.hid (hPART.1 hcf)
      have hcf2 : fn = vcap := hcf.symm
      clear hPART hcf
      subst hcf2
      have HAL := HTAIL.out (.slice vA (tn - fn) 0) (fun W hW => by have q := HPG.out.below hW; rw [Nat.sub_self] at q; exact q)
      by_cases hq : fn = tn
      · have q2 : ((LL.length : Int) == 5) = false := beq_eq_false_iff_ne.2 (by have := hMM hq; omega)
        have q4 : (LL.length == 5) = false := beq_eq_false_iff_ne.2 (by have := hMM hq; omega)
        have q3 : ((fn : Int) == (tn : Int)) = true := beq_iff_eq.2 (by omega)
        have q5 : (fn == tn) = true := beq_iff_eq.2 hq
        clear hMM
        have HQQ := Lib.hid hq
        clear hq
        go_enter Tryz.func41, Tryz.ntmps41
        go_wp2_with fail
        refine HOK.mono ?_
        rintro e w1 ⟨rfl, c1⟩
        go_wp2_with fail
        refine (HI1 _).mono ?_
        rintro e w2 ⟨rfl, rfl⟩
        go_wp2_with fail
        refine (HI2 _).mono ?_
        rintro e w3 ⟨rfl, rfl⟩
        go_wp2_with fail
        refine (HAL _ c1).mono ?_
        rintro e w4 ⟨x, rfl, hb4, hx⟩
        have c4 := c1.trans (hb4.mono c1.size)
        obtain ⟨xA, xc, rfl⟩ := hx.form
        have HXR : Hid (RowOf w4 w.heap.size (.slice xA (repM LL fn tn).length xc) (repM LL fn tn).length (repM LL fn tn)) := ⟨rfl, own_down hx.2 c1.size⟩
        clear hx
        by_cases h16 : 16 < (repM LL fn tn).length
        · have hd6 : decide ((16 : Int) < ((repM LL fn tn).length : Int)) = true := decide_eq_true (by omega)
          have HQ : Hid (repC LL fn tn = 7) := by show _ = _; rw [HLM.out, e1, e2]; exact if_pos h16
          have HR := Lib.hid (repR_bad HQ.out (by decide))
          clear h16
          go_wp2_with fail
          go_ret2
          exact ⟨_, by rw [HQ.out]; rfl, c4.alloc c4.size _, by rw [HR.out]; exact E0.out _ c4⟩
        · have hd6 : decide ((16 : Int) < ((repM LL fn tn).length : Int)) = false := decide_eq_false (by omega)
          have HQ : Hid (repC LL fn tn = 0) := by show _ = _; rw [HLM.out, e1, e2]; exact if_neg h16
          have HR : Hid (repR LL fn tn = LL.take fn ++ [repM LL fn tn] ++ LL.drop tn) := by show _ = _; unfold repR; rw [if_pos HQ.out, e1, e2]
          have HPU := l06Put_any _ _ LL (repM LL fn tn) fn tn w.heap.size w4 (HG2.out _ c4) hL5 HL16.out (by omega) htl HXR.out c4.size
          clear h16
          go_wp2_with fail
          refine HPU.mono ?_
          rintro e w5 ⟨z, rfl, hb5, hz⟩
          go_wp2_with fail
          go_ret2
          exact ⟨z, by rw [HQ.out]; rfl, c4.trans (hb5.mono c4.size), by rw [HR.out]; exact hz.down c4.size (Nat.le_refl _)⟩
      · have q3 : ((fn : Int) == (tn : Int)) = false := beq_eq_false_iff_ne.2 (by omega)
        have q5 : (fn == tn) = false := beq_eq_false_iff_ne.2 hq
        clear hMM
        have HQQ := Lib.hid hq
        clear hq
        go_enter Tryz.func41, Tryz.ntmps41
        go_wp2_with fail
        refine HOK.mono ?_
        rintro e w1 ⟨rfl, c1⟩
        go_wp2_with fail
        refine (HI1 _).mono ?_
        rintro e w2 ⟨rfl, rfl⟩
        go_wp2_with fail
        refine (HI2 _).mono ?_
        rintro e w3 ⟨rfl, rfl⟩
        go_wp2_with fail
        refine (HAL _ c1).mono ?_
        rintro e w4 ⟨x, rfl, hb4, hx⟩
        have c4 := c1.trans (hb4.mono c1.size)
        obtain ⟨xA, xc, rfl⟩ := hx.form
        have HXR : Hid (RowOf w4 w.heap.size (.slice xA (repM LL fn tn).length xc) (repM LL fn tn).length (repM LL fn tn)) := ⟨rfl, own_down hx.2 c1.size⟩
        clear hx
        by_cases h16 : 16 < (repM LL fn tn).length
        · have hd6 : decide ((16 : Int) < ((repM LL fn tn).length : Int)) = true := decide_eq_true (by omega)
          have HQ : Hid (repC LL fn tn = 7) := by show _ = _; rw [HLM.out, e1, e2]; exact if_pos h16
          have HR := Lib.hid (repR_bad HQ.out (by decide))
          clear h16
          go_wp2_with fail
          go_ret2
          exact ⟨_, by rw [HQ.out]; rfl, c4.alloc c4.size _, by rw [HR.out]; exact E0.out _ c4⟩
        · have hd6 : decide ((16 : Int) < ((repM LL fn tn).length : Int)) = false := decide_eq_false (by omega)
          have HQ : Hid (repC LL fn tn = 0) := by show _ = _; rw [HLM.out, e1, e2]; exact if_neg h16
          have HR : Hid (repR LL fn tn = LL.take fn ++ [repM LL fn tn] ++ LL.drop tn) := by show _ = _; unfold repR; rw [if_pos HQ.out, e1, e2]
          have HPU := l06Put_any _ _ LL (repM LL fn tn) fn tn w.heap.size w4 (HG2.out _ c4) hL5 HL16.out (by omega) htl HXR.out c4.size
          clear h16
          go_wp2_with fail
          refine HPU.mono ?_
          rintro e w5 ⟨z, rfl, hb5, hz⟩
          go_wp2_with fail
          go_ret2
          exact ⟨z, by rw [HQ.out]; rfl, c4.trans (hb5.mono c4.size), by rw [HR.out]; exact hz.down c4.size (Nat.le_refl _)⟩
    · obtain ⟨b, off, rfl, hpg⟩ := hPART.2 hcf
      have HPG := Lib.hid hpg
      clear hPART hpg
      have HAL := HTAIL.out (.slice (some ⟨b, off + fn, none⟩) (tn - fn) (vcap - fn)) (fun W hW => HPG.out.below hW)
      by_cases hq : fn = tn
      · have q2 : ((LL.length : Int) == 5) = false := beq_eq_false_iff_ne.2 (by have := hMM hq; omega)
        have q4 : (LL.length == 5) = false := beq_eq_false_iff_ne.2 (by have := hMM hq; omega)
        have q3 : ((fn : Int) == (tn : Int)) = true := beq_iff_eq.2 (by omega)
        have q5 : (fn == tn) = true := beq_iff_eq.2 hq
        clear hMM
        have HQQ := Lib.hid hq
        clear hq
        go_enter Tryz.func41, Tryz.ntmps41
        go_wp2_with fail
        refine HOK.mono ?_
        rintro e w1 ⟨rfl, c1⟩
        go_wp2_with fail
        refine (HI1 _).mono ?_
        rintro e w2 ⟨rfl, rfl⟩
        go_wp2_with fail
        refine (HI2 _).mono ?_
        rintro e w3 ⟨rfl, rfl⟩
        go_wp2_with fail
        refine (HAL _ c1).mono ?_
        rintro e w4 ⟨x, rfl, hb4, hx⟩
        have c4 := c1.trans (hb4.mono c1.size)
        obtain ⟨xA, xc, rfl⟩ := hx.form
        have HXR : Hid (RowOf w4 w.heap.size (.slice xA (repM LL fn tn).length xc) (repM LL fn tn).length (repM LL fn tn)) := ⟨rfl, own_down hx.2 c1.size⟩
        clear hx
        by_cases h16 : 16 < (repM LL fn tn).length
        · have hd6 : decide ((16 : Int) < ((repM LL fn tn).length : Int)) = true := decide_eq_true (by omega)
          have HQ : Hid (repC LL fn tn = 7) := by show _ = _; rw [HLM.out, e1, e2]; exact if_pos h16
          have HR := Lib.hid (repR_bad HQ.out (by decide))
          clear h16
          go_wp2_with fail
          go_ret2
          exact ⟨_, by rw [HQ.out]; rfl, c4.alloc c4.size _, by rw [HR.out]; exact E0.out _ c4⟩
        · have hd6 : decide ((16 : Int) < ((repM LL fn tn).length : Int)) = false := decide_eq_false (by omega)
          have HQ : Hid (repC LL fn tn = 0) := by show _ = _; rw [HLM.out, e1, e2]; exact if_neg h16
          have HR : Hid (repR LL fn tn = LL.take fn ++ [repM LL fn tn] ++ LL.drop tn) := by show _ = _; unfold repR; rw [if_pos HQ.out, e1, e2]
          have HPU := l06Put_any _ _ LL (repM LL fn tn) fn tn w.heap.size w4 (HG2.out _ c4) hL5 HL16.out (by omega) htl HXR.out c4.size
          clear h16
          go_wp2_with fail
          refine HPU.mono ?_
          rintro e w5 ⟨z, rfl, hb5, hz⟩
          go_wp2_with fail
          go_ret2
          exact ⟨z, by rw [HQ.out]; rfl, c4.trans (hb5.mono c4.size), by rw [HR.out]; exact hz.down c4.size (Nat.le_refl _)⟩
      · have q3 : ((fn : Int) == (tn : Int)) = false := beq_eq_false_iff_ne.2 (by omega)
        have q5 : (fn == tn) = false := beq_eq_false_iff_ne.2 hq
        clear hMM
        have HQQ := Lib.hid hq
        clear hq
        go_enter Tryz.func41, Tryz.ntmps41
        go_wp2_with fail
        refine HOK.mono ?_
        rintro e w1 ⟨rfl, c1⟩
        go_wp2_with fail
        refine (HI1 _).mono ?_
        rintro e w2 ⟨rfl, rfl⟩
        go_wp2_with fail
        refine (HI2 _).mono ?_
        rintro e w3 ⟨rfl, rfl⟩
        go_wp2_with fail
        refine (HAL _ c1).mono ?_
        rintro e w4 ⟨x, rfl, hb4, hx⟩
        have c4 := c1.trans (hb4.mono c1.size)
        obtain ⟨xA, xc, rfl⟩ := hx.form
        have HXR : Hid (RowOf w4 w.heap.size (.slice xA (repM LL fn tn).length xc) (repM LL fn tn).length (repM LL fn tn)) := ⟨rfl, own_down hx.2 c1.size⟩
        clear hx
        by_cases h16 : 16 < (repM LL fn tn).length
        · have hd6 : decide ((16 : Int) < ((repM LL fn tn).length : Int)) = true := decide_eq_true (by omega)
          have HQ : Hid (repC LL fn tn = 7) := by show _ = _; rw [HLM.out, e1, e2]; exact if_pos h16
          have HR := Lib.hid (repR_bad HQ.out (by decide))
          clear h16
          go_wp2_with fail
          go_ret2
          exact ⟨_, by rw [HQ.out]; rfl, c4.alloc c4.size _, by rw [HR.out]; exact E0.out _ c4⟩
        · have hd6 : decide ((16 : Int) < ((repM LL fn tn).length : Int)) = false := decide_eq_false (by omega)
          have HQ : Hid (repC LL fn tn = 0) := by show _ = _; rw [HLM.out, e1, e2]; exact if_neg h16
          have HR : Hid (repR LL fn tn = LL.take fn ++ [repM LL fn tn] ++ LL.drop tn) := by show _ = _; unfold repR; rw [if_pos HQ.out, e1, e2]
          have HPU := l06Put_any _ _ LL (repM LL fn tn) fn tn w.heap.size w4 (HG2.out _ c4) hL5 HL16.out (by omega) htl HXR.out c4.size
          clear h16
          go_wp2_with fail
          refine HPU.mono ?_
          rintro e w5 ⟨z, rfl, hb5, hz⟩
          go_wp2_with fail
          go_ret2
          exact ⟨z, by rw [HQ.out]; rfl, c4.trans (hb5.mono c4.size), by rw [HR.out]; exact hz.down c4.size (Nat.le_refl _)⟩
end Go.Proofs.YthopokiablgjoaaGreatDoor.Recs
