/- Parts of several texts of mine in one file (each begins with its own remark). -/
import Derived.Test.YtibekkfbpmloiabGreatDoorHA1
import Derived.Test.YtibekkfbpmloiabGreatDoorHA2
import Derived.Test.YtibekkfbpmloiabGreatDoorHA3
import Derived.Test.YtibekkfbpmloiabGreatDoorHA4
import Derived.Test.YtibekkfbpmloiabGreatDoorHA6
import Derived.Test.YtibekkfbpmloiabGreatDoorHA9
import Derived.Test.YtibekkfbpmloiabGreatDoorChecked
import Derived.Test.YtibekkfbpmloiabGreatDoorShelf
import Derived.StillTailTactics
import Derived.Laws.OwnMore
import Derived.BigQuiet
import Derived.BigRegion
import Derived.Deep.QuietTactic
import Derived.Deep.RegionHeld3
import Derived.Deep.Slices
import Derived.OpenShut
import Derived.ShutString
import Derived.ChangeArms
import Derived.WideShapes
import Derived.Lib.LaidTab
import Derived.Deep.Draws
import Derived.Deep.LoopGhost
import Derived.WalkKit
import Derived.WalkSpells
import Derived.WalkSmall
import Derived.Lib.OthersKept
import Derived.Lib.Hide
import Derived.Lib.Strings
import Derived.Lib.Join
import Derived.Laws.BytesArg
import Derived.WalkLawsBesides
/- Layers: the first fault of one, of the model. -/
namespace Go.Proofs.YtibekkfbpmloiabGreatDoor.Recs
set_option maxRecDepth 100000
open Go.RowKit Paths

theorem beforeL_pos {l : List R} {k : Nat} (h : k + 1 < l.length) : beforeL l (k + 1) = some (l[k]'(by omega)) := by
  unfold beforeL
  rw [if_neg (by omega), Nat.add_sub_cancel, List.getElem?_eq_getElem]
theorem code_many {l : List R} {r : R} : codeAt l 16 r = 6 := rfl
theorem code_rec {l : List R} {i : Nat} {r : R} (h : i ≠ 16) (hf : r.fault ≠ 0) : codeAt l i r = r.fault := by
  unfold codeAt; rw [if_neg h, if_pos hf]
theorem code_same {l : List R} {i : Nat} {r : R} (h : i ≠ 16) (hf : r.fault = 0) (hs : (beforeL l i).any (fun x => x.p = r.p) = true) : codeAt l i r = 18 := by
  unfold codeAt; rw [if_neg h, if_neg (by simp [hf]), if_pos hs]
theorem code_order {l : List R} {i : Nat} {r : R} (h : i ≠ 16) (hf : r.fault = 0) (hs : (beforeL l i).any (fun x => x.p = r.p) = false)
    (ho : (beforeL l i).any (fun x => !lessP (cutAt 47 x.p.data.toList) (cutAt 47 r.p.data.toList)) = true) : codeAt l i r = 11 := by
  unfold codeAt; rw [if_neg h, if_neg (by simp [hf]), if_neg (by simp [hs]), if_pos ho]
/-- What is left once the record's order is fine. -/
def codeUp (l : List R) (i : Nat) (r : R) : Int :=
  if parentL r.p.data.toList = [] then 0 else if atL (l.take i) (parO r.p) < 0 then 12
  else if (l[(atL (l.take i) (parO r.p)).toNat]?).any (fun x => x.k ≠ 3) then 13 else 0
theorem code_up {l : List R} {i : Nat} {r : R} (h : i ≠ 16) (hf : r.fault = 0) (hs : (beforeL l i).any (fun x => x.p = r.p) = false)
    (ho : (beforeL l i).any (fun x => !lessP (cutAt 47 x.p.data.toList) (cutAt 47 r.p.data.toList)) = false) : codeAt l i r = codeUp l i r := by
  unfold codeAt; rw [if_neg h, if_neg (by simp [hf]), if_neg (by simp [hs]), if_neg (by simp [ho])]; rfl
theorem codeUp_root {l : List R} {i : Nat} {r : R} (h : parentL r.p.data.toList = []) : codeUp l i r = 0 := if_pos h
theorem codeUp_orphan {l : List R} {i : Nat} {r : R} (h : parentL r.p.data.toList ≠ []) (ha : atL (l.take i) (parO r.p) < 0) : codeUp l i r = 12 := by
  unfold codeUp; rw [if_neg h, if_pos ha]
theorem codeUp_in {l : List R} {i j : Nat} {r : R} (h : parentL r.p.data.toList ≠ []) (hj : j < l.length) (ha : atL (l.take i) (parO r.p) = (j : Int)) : codeUp l i r = if l[j].k ≠ 3 then 13 else 0 := by
  unfold codeUp; rw [if_neg h, if_neg (by omega), ha, Int.toNat_natCast, List.getElem?_eq_getElem hj]; simp
theorem RecSl.take {w : World} {A : Option Addr} {cap : Nat} {l : List R} {k : Nat} (h : RecSl w (.slice A l.length cap) l) (hk : k ≤ l.length) : RecSl w (.slice A k cap) (l.take k) := by
  obtain ⟨A', cap', e, hc, h⟩ := h
  cases e
  refine ⟨A, cap, by rw [List.length_take, Nat.min_eq_left hk], by rw [List.length_take]; omega, fun hn => ?_⟩
  rw [List.length_take] at hn
  obtain ⟨b, off, e, hb, hcell⟩ := h (by omega)
  refine ⟨b, off, e, hb, fun j p hj => hcell j p ?_⟩
  rw [List.getElem?_take] at hj
  split at hj
  · exact hj
  · cases hj
theorem path_short {p : ByteArray} (h : pathB p.data.toList = true) : p.size ≤ 65536 := by
  rcases Nat.lt_or_ge 65536 p.size with h1 | h1
  · rw [pathB_long (by omega)] at h; cases h
  · exact h1

theorem below_drewN {B : Nat} {a w : World} (h : Below B a w) (q : Nat) : Below B a (w.drewN q) := ⟨h.os, h.tape, h.output, h.size, h.block⟩
theorem all_next {l : List R} {k : Nat} (h : ∀ j (h : j < l.length), j < k → codeAt l j l[j] = 0) (hk : k < l.length) (hc : codeAt l k l[k] = 0) : Hid (∀ j (h : j < l.length), j < k + 1 → codeAt l j l[j] = 0) := by
  intro j hj hlt
  rcases Nat.lt_or_ge j k with h1 | h1
  · exact h j hj h1
  · obtain rfl : j = k := by omega
    exact hc
theorem ret_pair {x : Int × Int} {a b : Int} (h : x = (a, b)) : Ending.returned (.tuple #[.int .i64 a, .int .i64 b]) = .returned (.tuple #[.int .i64 x.1, .int .i64 x.2]) := by rw [h]

set_option maxHeartbeats 1600000 in
theorem l03Fault_any (v : Value) (l : List R) (w : World) (h : RecSl w v l) (hl : l.length ≤ 1048576) :
    Calls Tryz.prog 123 #[v] w fun e w' => e = .returned (.tuple #[.int .i64 (layerFaultL l).1, .int .i64 (layerFaultL l).2]) ∧ Below w.heap.size w w' := by
  have hsl := h
  obtain ⟨A, cap, rfl, hcap, h⟩ := h
  have HSl := Lib.hid hsl
  have H := Lib.hid h
  clear h hsl
  go_enter Tryz.func123, Tryz.ntmps123
  go_wp2
  go_loopw [4] (fun i wr => ∃ k : Nat, k ≤ l.length ∧ i = .int .i64 k ∧ Hid (layerFaultL l = faultFrom l k) ∧ Hid (∀ j (h : j < l.length), j < k → codeAt l j l[j] = 0) ∧ Below w.heap.size w wr) (fun i _ => l.length - (intOf i).toNat)
  case atStart => exact ⟨0, by omega, rfl, rfl, fun j h hj => by omega, Below.refl _ _⟩
  case round =>
    obtain ⟨k, hk, rfl, HK, HC, hbw⟩ := hrel
    by_cases hlt : k < l.length
    · obtain ⟨b, off, rfl, hb, hcell⟩ := H.out (by omega)
      obtain ⟨c0, c1, c2, c3, c4⟩ := (hcell k l[k] (by simp [hlt])).below hbw hb
      have hi1 : (k : Int) < (l.length : Int) := by omega
      have hi0 : (0 : Int) ≤ (k : Int) := by omega
      by_cases h16 : k = 16
      · subst h16
        have HE : Hid (layerFaultL l = (16, 6)) := by show _ = _; rw [HK.out, faultFrom_bad hlt (by rw [code_many]; decide), code_many]; rfl
        go_wp2
        go_ret2
        exact ⟨ret_pair HE.out, hbw⟩
      have hd16 : ((k : Int) == 16) = false := by simp; omega
      have hlbw := Nat.lt_of_lt_of_le hb hbw.size
      by_cases hf : l[k].fault = 0
      · have hd : (faultI l[k].k l[k].p.data.toList l[k].b.size l[k].m l[k].o != 0) = false := by have h := hf; unfold R.fault at h; simpa using h
        go_wp2_with fail
        refine (l02Fault_any _ _ _ _ _ _).mono ?_
        rintro e w1 ⟨rfl, hb1⟩
        have HR := Lib.hid (hcell k l[k] (by simp [hlt]))
        have hbw1 := hbw.trans (hb1.mono hbw.size)
        clear c0 c1 c2 c3 c4
        obtain ⟨c0, c1, c2, c3, c4⟩ := HR.out.below hbw1 hb
        have hP := (fault_path hf).1
        cases k with
        | zero =>
          go_wp2_with fail
          go_quiet (fail)
          have hbw2 := below_drewN hbw1 nq
          generalize w1.drewN nq = W2 at *
          go_wp2_with fail
          go_quiet (fail)
          have hbw3 := below_drewN hbw2 nq
          clear c0 c1 c2 c3 c4
          obtain ⟨c0, c1, c2, c3, c4⟩ := HR.out.below hbw3 hb
          generalize W2.drewN nq = W3 at *
          go_wp2_with fail
          have HU : Hid (codeAt l 0 l[0] = codeUp l 0 l[0]) := code_up h16 hf rfl rfl
          refine (l01Parent_any _ _ (by have := path_short hP; unfold maxLen; omega)).mono ?_
          rintro e w5 ⟨rfl, rfl⟩
          by_cases hpar : parentL l[0].p.data.toList = []
          · have HN : Hid (codeAt l (0) l[0] = 0) := by show _ = _; rw [HU.out, codeUp_root hpar]
            have HF := Lib.hid (HK.out.trans (faultFrom_good hlt HN.out))
            have hemp : (parentL l[0].p.data.toList).isEmpty = true := by rw [hpar]; rfl
            unfold strV
            go_wp2_with fail
            exact ⟨⟨0 + 1, by omega, by go_num, HF, all_next HC.out hlt HN.out, hbw3⟩, by simp [intOf]; omega⟩
          · have hemp : (parentL l[0].p.data.toList).isEmpty = false := by simpa using hpar
            have hslr := (HSl.out.below hbw3).take (k := 0) (by omega)
            unfold strV
            go_wp2_with fail
            refine (l03At_any _ (l.take (0)) _ _ (by exact hslr) (by rw [List.length_take]; omega)).mono ?_
            rintro e w6 ⟨rfl, rfl⟩
            rcases atL_cases (l.take (0)) (parO l[0].p) with ⟨ha, _⟩ | ⟨j, hj, ha, _⟩
            · have HE : Hid (layerFaultL l = (((0 : Nat) : Int), 12)) := by
                have hc := HU.out.trans (codeUp_orphan hpar (by rw [ha]; decide))
                show _ = _
                rw [HK.out, faultFrom_bad hlt (by rw [hc]; decide), hc]
              have ha' : atL (l.take (0)) ⟨(parentL l[0].p.data.toList).toArray⟩ = -1 := ha
              rw [ha']
              go_wp2_with fail
              go_ret2
              exact ⟨ret_pair HE.out, hbw3⟩
            · rw [List.length_take] at hj
              omega
        | succ k =>
          obtain ⟨d0, d1, d2, d3, d4⟩ := (hcell k (l[k]'(by omega)) (by simp)).below hbw1 hb
          have hd0 : decide ((0 : Int) < ((k + 1 : Nat) : Int)) = true := by simp
          have e1 : ((k + 1 : Nat) : Int) - 1 = (k : Int) := by omega
          rcases Bool.eq_false_or_eq_true (l[k + 1].p.toList == l[k].p.toList) with he | he
          · have HE : Hid (layerFaultL l = (((k + 1 : Nat) : Int), 18)) := by
              have hc := code_same (l := l) h16 hf (by rw [beforeL_pos hlt]; simpa using (str_eq_of he).symm)
              show _ = _
              rw [HK.out, faultFrom_bad hlt (by rw [hc]; decide), hc]
            go_wp2_with fail
            go_quiet (fail)
            go_wp2_with fail
            go_ret2
            exact ⟨ret_pair HE.out, below_drewN hbw1 _⟩
          · go_wp2_with fail
            go_quiet (fail)
            go_wp2_with fail
            have hbw2 := below_drewN hbw1 nq
            clear c0 c1 c2 c3 c4 d0 d1 d2 d3 d4
            obtain ⟨c0, c1, c2, c3, c4⟩ := HR.out.below hbw2 hb
            obtain ⟨d0, d1, d2, d3, d4⟩ := (hcell k (l[k]'(by omega)) (by simp)).below hbw2 hb
            generalize w1.drewN nq = W2 at *
            have hsame : (beforeL l (k + 1)).any (fun x => x.p = l[k + 1].p) = false := by
              rw [beforeL_pos hlt]
              simp only [Option.any_some, decide_eq_false_iff_not]
              intro e
              rw [e] at he
              simp at he
            have hlt2 := Nat.lt_of_lt_of_le hb hbw2.size
            have hs1 := path_short hP
            have hs2 := path_short (fault_path (codeAt_zero (HC.out k (by omega) (by omega))).2).1
            have i1 : (0 : Int) ≤ (k : Int) + 1 := by omega
            have i2 : (k : Int) + 1 < (l.length : Int) := by omega
            have i3 : (0 : Int) ≤ (k : Int) := by omega
            have i4 : (k : Int) < (l.length : Int) := by omega
            have hw : IntKind.i64.wrap (k : Int) = (k : Int) := by simp [IntKind.wrap, IntKind.bits, IntKind.signed]; omega
            rcases Bool.eq_false_or_eq_true (lessP (cutAt 47 l[k].p.data.toList) (cutAt 47 l[k + 1].p.data.toList)) with hless | hless
            · go_region_held3 (fun w' => w'.cell? ⟨b, off + k * 5 + 1, none⟩ = some (.string l[k].p) ∧ w'.cell? ⟨b, off + (k + 1) * 5 + 1, none⟩ = some (.string l[k + 1].p)) (first | exact ⟨d1, c1⟩ | exact ⟨(hb3.cell (p := ⟨b, off + k * 5 + 1, none⟩) hlt2).trans d1, (hb3.cell (p := ⟨b, off + (k + 1) * 5 + 1, none⟩) hlt2).trans c1⟩ | go_keep) (first | (go_at_call 76; refine (l01Less_any _ _ _ hs2 hs1).mono ?_; rintro e w3 ⟨rfl, hb3⟩))
              have hbw4 := hbw2.drew.trans (hb3.mono hbw2.size)
              clear c0 c1 c2 c3 c4 d0 d1 d2 d3 d4
              obtain ⟨c0, c1, c2, c3, c4⟩ := HR.out.below hbw4 hb
              have HU : Hid (codeAt l (k + 1) l[k + 1] = codeUp l (k + 1) l[k + 1]) := code_up h16 hf hsame (by rw [beforeL_pos hlt]; simp [hless])
              go_wp2_with fail
              refine (l01Parent_any _ _ (by have := path_short hP; unfold maxLen; omega)).mono ?_
              rintro e w5 ⟨rfl, rfl⟩
              by_cases hpar : parentL l[k + 1].p.data.toList = []
              · have HN : Hid (codeAt l (k + 1) l[k + 1] = 0) := by show _ = _; rw [HU.out, codeUp_root hpar]
                have HF := Lib.hid (HK.out.trans (faultFrom_good hlt HN.out))
                have hemp : (parentL l[k + 1].p.data.toList).isEmpty = true := by rw [hpar]; rfl
                unfold strV
                go_wp2_with fail
                exact ⟨⟨k + 1 + 1, by omega, by go_num, HF, all_next HC.out hlt HN.out, hbw4⟩, by simp [intOf]; omega⟩
              · have hemp : (parentL l[k + 1].p.data.toList).isEmpty = false := by simpa using hpar
                have hslr := (HSl.out.below hbw4).take (k := k + 1) (by omega)
                unfold strV
                go_wp2_with fail
                refine (l03At_any _ (l.take (k + 1)) _ _ (by exact hslr) (by rw [List.length_take]; omega)).mono ?_
                rintro e w6 ⟨rfl, rfl⟩
                rcases atL_cases (l.take (k + 1)) (parO l[k + 1].p) with ⟨ha, _⟩ | ⟨j, hj, ha, _⟩
                · have HE : Hid (layerFaultL l = (((k + 1 : Nat) : Int), 12)) := by
                    have hc := HU.out.trans (codeUp_orphan hpar (by rw [ha]; decide))
                    show _ = _
                    rw [HK.out, faultFrom_bad hlt (by rw [hc]; decide), hc]
                  have ha' : atL (l.take (k + 1)) ⟨(parentL l[k + 1].p.data.toList).toArray⟩ = -1 := ha
                  rw [ha']
                  go_wp2_with fail
                  go_ret2
                  exact ⟨ret_pair HE.out, hbw4⟩
                · rw [List.length_take] at hj
                  have hjl : j < l.length := by omega
                  have ha' : atL (l.take (k + 1)) ⟨(parentL l[k + 1].p.data.toList).toArray⟩ = (j : Int) := ha
                  have HV := Lib.hid (HU.out.trans (codeUp_in hpar hjl ha))
                  rw [ha']
                  clear ha ha'
                  obtain ⟨f0, _⟩ := (hcell j l[j] (by simp [hjl])).below hbw4 hb
                  have j1 : (0 : Int) ≤ (j : Int) := by omega
                  have j2 : (j : Int) < (l.length : Int) := by omega
                  have j3 : decide ((j : Int) < 0) = false := by simp
                  by_cases h3 : l[j].k = 3
                  · have HN : Hid (codeAt l (k + 1) l[k + 1] = 0) := by show _ = _; rw [HV.out, if_neg (by simpa using h3)]
                    have HF := Lib.hid (HK.out.trans (faultFrom_good hlt HN.out))
                    have j4 : (l[j].k != 3) = false := by simpa using h3
                    clear h3
                    go_wp2_with fail
                    exact ⟨⟨k + 1 + 1, by omega, by go_num, HF, all_next HC.out hlt HN.out, hbw4⟩, by simp [intOf]; omega⟩
                  · have HE : Hid (layerFaultL l = (((k + 1 : Nat) : Int), 13)) := by
                      have hc := HV.out.trans (if_pos h3)
                      show _ = _
                      rw [HK.out, faultFrom_bad hlt (by rw [hc]; decide), hc]
                    have j4 : (l[j].k != 3) = true := by simpa using h3
                    clear h3
                    go_wp2_with fail
                    go_ret2
                    exact ⟨ret_pair HE.out, hbw4⟩
            · go_region_held3 (fun w' => w'.cell? ⟨b, off + k * 5 + 1, none⟩ = some (.string l[k].p) ∧ w'.cell? ⟨b, off + (k + 1) * 5 + 1, none⟩ = some (.string l[k + 1].p)) (first | exact ⟨d1, c1⟩ | exact ⟨(hb3.cell (p := ⟨b, off + k * 5 + 1, none⟩) hlt2).trans d1, (hb3.cell (p := ⟨b, off + (k + 1) * 5 + 1, none⟩) hlt2).trans c1⟩ | go_keep) (first | (go_at_call 76; refine (l01Less_any _ _ _ hs2 hs1).mono ?_; rintro e w3 ⟨rfl, hb3⟩))
              have hbw4 := hbw2.drew.trans (hb3.mono hbw2.size)
              clear c0 c1 c2 c3 c4 d0 d1 d2 d3 d4
              obtain ⟨c0, c1, c2, c3, c4⟩ := HR.out.below hbw4 hb
              have HE : Hid (layerFaultL l = (((k + 1 : Nat) : Int), 11)) := by
                have hc := code_order (l := l) h16 hf hsame (by rw [beforeL_pos hlt]; simp [hless])
                show _ = _
                rw [HK.out, faultFrom_bad hlt (by rw [hc]; decide), hc]
              go_wp2_with fail
              go_ret2
              exact ⟨ret_pair HE.out, hbw4⟩
      · have HE : Hid (layerFaultL l = ((k : Int), faultI l[k].k l[k].p.data.toList l[k].b.size l[k].m l[k].o)) := by show _ = _; rw [HK.out, faultFrom_bad hlt (by rw [code_rec h16 hf]; exact hf), code_rec h16 hf]; rfl
        have hd : (faultI l[k].k l[k].p.data.toList l[k].b.size l[k].m l[k].o != 0) = true := by have h := hf; unfold R.fault at h; simpa using h
        clear hf
        go_wp2_with fail
        refine (l02Fault_any _ _ _ _ _ _).mono ?_
        rintro e w1 ⟨rfl, hb1⟩
        go_wp2_with fail
        go_ret2
        exact ⟨ret_pair HE.out, hbw.trans (hb1.mono hbw.size)⟩
    · obtain rfl : k = l.length := by omega
      have HE : Hid (layerFaultL l = (0, 0)) := by show _ = _; rw [HK.out, faultFrom_end (Nat.le_refl _)]
      go_wp2
      go_ret2
      exact ⟨ret_pair HE.out, hbw⟩
end Go.Proofs.YtibekkfbpmloiabGreatDoor.Recs

/- Paths: IsBelow, of the program and of its model. -/
namespace Go.Proofs.YtibekkfbpmloiabGreatDoor.Paths
open Go.RowKit

theorem mk_inj {A B : List (List UInt8)} (h : (A.map fun l => (⟨l.toArray⟩ : ByteArray)) = B.map fun l => (⟨l.toArray⟩ : ByteArray)) : A = B := by
  have := congrArg (List.map (·.data.toList)) h
  simpa [Function.comp_def] using this

theorem slicesEqual_any (v1 v2 : Value) (A B : List (List UInt8)) (w : World) (h1 : Strs w v1 A) (h2 : Strs w v2 B) (hl : A.length ≤ 1000) (hl2 : B.length ≤ 1000) : Calls Tryz.prog 172 #[v1, v2] w fun e w' => e = .returned (.bool (decide (A = B))) ∧ ∃ n, w' = w.drewN n := by
  obtain ⟨a1, c1, rfl, hc1, h1⟩ := h1
  obtain ⟨a2, c2, rfl, hc2, h2⟩ := h2
  by_cases hne : A.length = B.length
  case neg =>
    refine (Tryz.slices_Equal_string_lens a1 a2 _ c1 _ c2 w hne).mono ?_
    rintro e w' ⟨rfl, rfl⟩
    exact ⟨ret_bool (by simp; intro e; exact hne (by rw [e])), 0, rfl⟩
  by_cases h0 : A.length = 0
  · have hB : B = [] := List.eq_nil_of_length_eq_zero (by omega)
    have hA : A = [] := List.eq_nil_of_length_eq_zero h0
    subst hA hB
    refine (Tryz.slices_Equal_string_empty a1 a2 c1 _ c2 w (by simp)).mono ?_
    rintro e w' ⟨rfl, rfl⟩
    exact ⟨rfl, 0, rfl⟩
  obtain ⟨b1, o1, rfl, hb1, hcell1⟩ := h1 (by omega)
  obtain ⟨b2, o2, rfl, hb2, hcell2⟩ := h2 (by omega)
  refine (Tryz.slices_Equal_string b1 o1 _ c1 b2 o2 _ c2 (A.map fun l => (⟨l.toArray⟩ : ByteArray)) (B.map fun l => (⟨l.toArray⟩ : ByteArray)) w (by simp) (by simp) (by omega) (by omega) ?_ ?_).mono ?_
  · intro j hj
    rw [List.length_map] at hj
    rw [hcell1 j A[j] (by simp [hj])]
    simp [strV, List.getD, hj]
  · intro j hj
    rw [List.length_map] at hj
    rw [hcell2 j B[j] (by simp [hj])]
    simp [strV, List.getD, hj]
  · rintro e w' ⟨rfl, n, rfl⟩
    refine ⟨ret_bool ?_, n, rfl⟩
    rw [List.take_of_length_le (by simp), List.take_of_length_le (by simp)]
    by_cases h : A = B
    · rw [h]; simp
    · rw [decide_eq_false h, decide_eq_false (fun e => h (mk_inj e))]

def isBelowB (s t : ByteArray) : Bool := pathB s.data.toList && (decide (t.size = 0) || (pathB t.data.toList && belowL s.data.toList t.data.toList))
theorem below_root {s t : ByteArray} (h : t.size = 0) : isBelowB s t = pathB s.data.toList := by unfold isBelowB; rw [decide_eq_true h]; simp
theorem below_bad {s t : ByteArray} (h : t.size ≠ 0) (k : pathB t.data.toList = false) : isBelowB s t = false := by unfold isBelowB; rw [decide_eq_false h, k]; simp
theorem below_none {s t : ByteArray} (k : pathB s.data.toList = false) : isBelowB s t = false := by unfold isBelowB; rw [k]; rfl
theorem below_two {s t : ByteArray} (h : t.size ≠ 0) (k : pathB s.data.toList = true) (m : pathB t.data.toList = true) : isBelowB s t = belowL s.data.toList t.data.toList := by
  unfold isBelowB
  rw [k, decide_eq_false h, m]
  rfl

set_option maxHeartbeats 1000000 in
theorem isBelow_impl (s t : ByteArray) (w : World) (hs : s.size ≤ maxLen) (ht : t.size ≤ maxLen) : Calls Tryz.prog 110 #[.string s, .string t] w fun e w' => e = .returned (.bool (isBelowB s t)) ∧ Below w.heap.size w w' := by
  have hq := fun (w : World) (a : Option Addr) (n c n' c' : Nat) => Lib.run_eql_slice_nil (P := Tryz.prog) w 32 9 a n c n' c' Tryz.underlying32
  by_cases h0 : t.size = 0
  · have he := isEmpty_true h0
    have hT := pathB_empty h0
    have HR := Lib.hid (below_root (s := s) h0)
    clear h0
    go_enter Tryz.func110, Tryz.ntmps110
    go_wp2_with fail
    refine (splitPath_any s _ hs).mono ?_
    rintro e w1 ⟨v1, rfl, hp1⟩
    go_wp2_with fail
    refine (splitPath_any t _ ht).mono ?_
    rintro e w2 ⟨v2, rfl, hb2, ho2, hn2, _⟩
    obtain rfl := hn2 hT
    obtain ⟨A1, cap1, rfl, hA1⟩ := split_nil hp1
    obtain ⟨hb1, ho1, _, _⟩ := hp1
    have hb12 := hb1.trans (hb2.mono hb1.size)
    rcases Bool.eq_false_or_eq_true (pathB s.data.toList) with h1 | h1
    · rw [partsOf_yes h1] at *
      have l1 := cutAt_pos 47 s.data.toList
      have l4 := (pathB_parts h1).1
      have hd : decide ((0 : Int) < ((cutAt 47 s.data.toList).length : Int)) = true := by simp; omega
      obtain ⟨g, cap, e, hcap, _, hg, _⟩ := own_slice ho1 (by omega)
      cases e
      have st := Lib.hid ((Strs.own (own_below ho1 hb2)).take (k := 0) (by omega))
      simp only [List.take_zero] at st
      have st2 : Hid (Strs w2 (.slice none 0 0) []) := ⟨none, 0, rfl, by simp, fun h => by simp at h⟩
      clear ho1 ho2 hn2
      generalize cutAt 47 s.data.toList = L at *
      go_wp2_with fail
      refine (slicesEqual_any _ _ [] [] _ st.out st2.out (by simp) (by simp)).mono ?_
      rintro e w3 ⟨rfl, n, rfl⟩
      go_wp2_with fail
      go_ret
      exact ⟨ret_bool (by rw [HR.out, h1]), below_drewN hb12 _⟩
    · rw [partsOf_no h1] at *
      clear ho1 ho2 hn2
      go_wp2_with fail
      go_ret
      exact ⟨ret_bool (by rw [HR.out, h1]), hb12⟩
  · have he := isEmpty_false (by omega : 0 < t.size)
    have H0 := Lib.hid h0
    clear h0
    go_enter Tryz.func110, Tryz.ntmps110
    go_wp2_with fail
    refine (splitPath_any s _ hs).mono ?_
    rintro e w1 ⟨v1, rfl, hp1⟩
    go_wp2_with fail
    refine (splitPath_any t _ ht).mono ?_
    rintro e w2 ⟨v2, rfl, hp2⟩
    obtain ⟨A1, cap1, rfl, hA1⟩ := split_nil hp1
    obtain ⟨A2, cap2, rfl, hA2⟩ := split_nil hp2
    obtain ⟨hb1, ho1, _, _⟩ := hp1
    obtain ⟨hb2, ho2, _, _⟩ := hp2
    have hb12 := hb1.trans (hb2.mono hb1.size)
    rcases Bool.eq_false_or_eq_true (pathB t.data.toList) with h2 | h2
    case inr =>
      have HL := Lib.hid (below_bad (s := s) H0.out h2)
      rw [h2] at hA2
      clear ho1 ho2
      go_wp2_with fail
      go_ret
      exact ⟨ret_bool HL.out.symm, hb12⟩
    rw [h2] at hA2
    rcases Bool.eq_false_or_eq_true (pathB s.data.toList) with h1 | h1
    case inr =>
      have HL := Lib.hid (below_none (t := t) h1)
      rw [partsOf_no h1] at *
      have hd : decide (((partsOf t.data.toList).length : Int) < 0) = false := by simp
      clear ho1 ho2
      go_wp2_with fail
      go_ret
      exact ⟨ret_bool HL.out.symm, hb12⟩
    have HL := Lib.hid ((below_two H0.out h1 h2).trans (below_cut _ _).symm)
    rw [partsOf_yes h1] at *
    rw [partsOf_yes h2] at *
    have l1 := (pathB_parts h1).1
    have l2 := (pathB_parts h2).1
    have l0 := cutAt_pos 47 s.data.toList
    generalize hX : cutAt 47 s.data.toList = X at *
    generalize hY : cutAt 47 t.data.toList = Y at *
    have HX := Lib.hid hX
    have HY := Lib.hid hY
    clear hX hY
    obtain ⟨g, cap, e, hcap, _, hg, _⟩ := own_slice ho1 (by omega)
    cases e
    by_cases hlt : Y.length < X.length
    · have st := Lib.hid ((Strs.own (own_below ho1 hb2)).take (k := Y.length) (by omega))
      have st2 := Lib.hid (Strs.own ho2)
      have HF : Hid (belowP X Y = decide (X.take Y.length = Y)) := by
        show _ = _
        unfold belowP
        rw [decide_eq_true hlt, Bool.true_and, Bool.eq_iff_iff]
        simp
      clear ho1 ho2
      go_wp2_with fail
      refine (slicesEqual_any _ _ _ _ _ st.out st2.out (by simp; omega) (by omega)).mono ?_
      rintro e w3 ⟨rfl, n, rfl⟩
      go_wp2_with fail
      go_ret
      exact ⟨ret_bool (by rw [HL.out, HF.out]), below_drewN hb12 _⟩
    · have HF : Hid (belowP X Y = false) := by
        show _ = _
        unfold belowP
        rw [decide_eq_false hlt]
        rfl
      clear ho1 ho2
      go_wp2_with fail
      go_ret
      exact ⟨ret_bool (by rw [HL.out, HF.out]), hb12⟩

theorem below_hit {s t : ByteArray} (hlt : t.size < s.size) (h : (s.extract 0 t.size).toList = t.toList) : ((s[t.size].toNat : Int) == 47) = belowL s.data.toList t.data.toList := by
  rw [Lib.toList_data, Lib.toList_data, extract_take] at h
  unfold belowL
  rw [← Lib.size_eq, ← Lib.size_eq, decide_eq_true hlt, h, drop_cons s t.size hlt, Bool.eq_iff_iff]
  simp only [beq_self_eq_true, Bool.and_self, Bool.true_and, List.head?_cons, beq_iff_eq, Option.some.injEq]
  constructor
  · intro e
    exact UInt8.toNat_inj.1 (by show _ = 47; omega)
  · intro e
    rw [e]
    rfl
theorem below_miss {s t : ByteArray} (h : ¬ (s.extract 0 t.size).toList = t.toList) : false = belowL s.data.toList t.data.toList := by
  rw [Lib.toList_data, Lib.toList_data, extract_take] at h
  unfold belowL
  rw [← Lib.size_eq t, beq_false_of_ne h]
  simp
theorem l01Below_two (s t : ByteArray) (w : World) (h : 0 < t.size) (_hs : s.size ≤ 65536) (_ht : t.size ≤ 65536) : Calls Tryz.prog 180 #[.string s, .string t] w fun e w' => e = .returned (.bool (belowL s.data.toList t.data.toList)) ∧ w = w' := by
  have he := isEmpty_false h
  by_cases hlt : t.size < s.size
  · have hi0 : (0 : Int) ≤ (t.size : Int) := by omega
    have hi1 : (t.size : Int) < (s.size : Int) := by omega
    go_enter Tryz.func180, Tryz.ntmps180
    go_wp2
    · have h3 : (s.extract 0 t.size).toList = t.toList := by assumption
      go_ret
      exact ⟨ret_bool (below_hit hlt h3), rfl⟩
    · have h3 : ¬ (s.extract 0 t.size).toList = t.toList := by assumption
      go_ret
      exact ⟨ret_bool (below_miss h3), rfl⟩
  · have HF : Hid (belowL s.data.toList t.data.toList = false) := by
      show _ = _
      unfold belowL
      rw [← Lib.size_eq, ← Lib.size_eq, decide_eq_false hlt]
      rfl
    go_enter Tryz.func180, Tryz.ntmps180
    go_wp2
    go_ret
    exact ⟨ret_bool HF.out.symm, rfl⟩

end Go.Proofs.YtibekkfbpmloiabGreatDoor.Paths
