/- Parts of several texts of mine in one file (each begins with its own remark). -/
import Derived.Test.YtciflchaepchiaaDoorFA10
import Derived.Test.YtciflchaepchiaaDoorFA12
import Derived.Test.YtciflchaepchiaaDoorFA2
import Derived.Test.YtciflchaepchiaaDoorFA3
import Derived.Test.YtciflchaepchiaaDoorFA4
import Derived.Test.YtciflchaepchiaaDoorFA5
import Derived.Test.YtciflchaepchiaaDoorFA6
import Derived.Test.YtciflchaepchiaaDoorFA7
import Derived.Test.YtciflchaepchiaaDoorFA8
import Derived.Test.YtciflchaepchiaaDoorFA9
import Derived.Test.YtciflchaepchiaaDoorChecked
import Derived.Test.YtciflchaepchiaaDoorShelf
import Derived.Test.YtciflchaepchiaaDoorProg
import Derived.Test.YtciflchaepchiaaDoorRows
import Derived.WalkMore
import Derived.ScopeJumps
import Derived.Deep.Cut
import Derived.Deep.RegionHeld3
import Derived.Laws.BytesArg
import Derived.Lib.ConvBytes
import Derived.Deep.Slices
import Derived.OpenShut
import Derived.ShutString
import Derived.ChangeArms
import Derived.WideShapes
import Derived.Lib.LaidTab
import Derived.BigQuiet
import Derived.Deep.QuietTactic
import Derived.StillTailTactics
import Derived.Deep.Draws
import Derived.Deep.LoopGhost
import Derived.WalkKit
import Derived.WalkSpells
import Derived.WalkSmall
import Derived.Lib.OthersKept
import Derived.Lib.Hide
import Derived.Lib.Strings
import Derived.Lib.Join
import Derived.WalkLawsBesides
import Derived.Below
import Derived.Shelf.Strings.Builder1
import Derived.Stop.LaidErr
import Derived.Laws.OwnMore
import Derived.BigRegion
import Derived.LaidEql
import Derived.Stop.Asserts
import Derived.Stop.LaidTwo
import Derived.ChangeVars
import Derived.Deep.DeepHandedRow
/- The layer in a text, or its first error, of the model: l09Whole, DecodeLayer, FirstFault. No condition. -/
namespace Go.Proofs.YtciflchaepchiaaDoor.Recs
set_option maxRecDepth 100000
open Go.RowKit Paths

theorem wf_no {n a : Nat} {t : List UInt8} {L : List R} (h : fitT (t.drop a) = false ∨ t.length < a + sizT (t.drop a) + 2) : wholeF (n + 1) t a L = ([], a, 3) := by rw [wholeF, if_pos h]
theorem wf_sum {n a : Nat} {t : List UInt8} {L : List R} (h1 : fitT (t.drop a) = true) (h2 : a + sizT (t.drop a) + 2 ≤ t.length) (h3 : ((t.drop (a + sizT (t.drop a))).take 2) ≠ twoB (sumL ((t.drop a).take (sizT (t.drop a))))) : wholeF (n + 1) t a L = ([], a, 15) := by
  rw [wholeF, if_neg (by rw [h1]; simp; omega), if_pos h3]
theorem wf_bad {n a : Nat} {t : List UInt8} {L : List R} (h1 : fitT (t.drop a) = true) (h2 : a + sizT (t.drop a) + 2 ≤ t.length) (h3 : ((t.drop (a + sizT (t.drop a))).take 2) = twoB (sumL ((t.drop a).take (sizT (t.drop a))))) (h4 : nxtC L (recT (t.drop a)) ≠ 0) : wholeF (n + 1) t a L = ([], a, nxtC L (recT (t.drop a))) := by
  rw [wholeF, if_neg (by rw [h1]; simp; omega), if_neg (by rw [h3]; simp), if_pos h4]
theorem wf_go {n a : Nat} {t : List UInt8} {L : List R} (h1 : fitT (t.drop a) = true) (h2 : a + sizT (t.drop a) + 2 ≤ t.length) (h3 : ((t.drop (a + sizT (t.drop a))).take 2) = twoB (sumL ((t.drop a).take (sizT (t.drop a))))) (h4 : nxtC L (recT (t.drop a)) = 0) : wholeF (n + 1) t a L = wholeF n t (a + sizT (t.drop a) + 2) (L ++ [recT (t.drop a)]) := by
  rw [wholeF, if_neg (by rw [h1]; simp; omega), if_neg (by rw [h3]; simp), if_neg (by rw [h4]; simp)]
theorem lf_bad {L : List R} {r : R} (hL : layerOK L = true) (h : nxtC L r ≠ 0) : (layerFaultL (L ++ [r])).1 = (L.length : Int) ∧ (layerFaultL (L ++ [r])).2 = nxtC L r := by
  rw [behind_fault hL, if_pos h]; exact ⟨rfl, rfl⟩
theorem lf_ok {L : List R} {r : R} (hL : layerOK L = true) (h : nxtC L r = 0) : (layerFaultL (L ++ [r])).1 = 0 ∧ (layerFaultL (L ++ [r])).2 = 0 := by
  rw [behind_fault hL, if_neg (by rw [h]; simp)]; exact ⟨rfl, rfl⟩
def WV (t : ByteArray) (w : World) (e : Ending) (w' : World) : Prop := ∃ v, e = .returned (.tuple #[v, .int .i64 ((wholeL t.data.toList).2.1 : Int), .int .i64 (wholeL t.data.toList).2.2]) ∧ RowOf w' w.heap.size v (wholeL t.data.toList).1.length (wholeL t.data.toList).1 ∧ Below w.heap.size w w'
theorem wv_bad {t : ByteArray} {w w' : World} {a : Nat} {c : Int} (h : wholeL t.data.toList = ([], a, c)) (hb : Below w.heap.size w w') : WV t w (.returned (.tuple #[.slice none 0 0, .int .i64 (a : Int), .int .i64 c])) w' := by
  unfold WV
  rw [h]
  exact ⟨_, rfl, ⟨rfl, World.ownsRow_nil _ _ _ _⟩, hb⟩

set_option maxHeartbeats 6400000 in
theorem l09Whole_any (t : ByteArray) (w : World) (hs : t.size ≤ 65536) :
    Calls Tryd.prog 41 #[.string t] w (WV t w) := by
  obtain ⟨i0, hi, hI0, hI1, hI2⟩ := info_parts recInfo
  have hsz : t.data.toList.length = t.size := (Lib.size_eq t).symm
  by_cases h4 : t.size < 4
  · have HE := Lib.hid (show wholeL t.data.toList = ([], 0, 3) by unfold wholeL; rw [hsz]; exact if_pos (.inl h4))
    have hd : decide ((t.size : Int) < 4) = true := by simp; omega
    have hd' : decide (t.size < 4) = true := by simp; omega
    go_enter Tryd.func41, Tryd.ntmps41
    go_wp2_with fail
    refine bodyPost_ret (v := .tuple #[.slice none 0 0, .int .i64 0, .int .i64 3]) (by simp [results, Tryd.results41, go_sem]) rfl (wv_bad (a := 0) HE.out (Below.refl _ _))
  have hd2 : decide ((t.size : Int) < 4) = false := by simp; omega
  have hd2' : decide (t.size < 4) = false := by simp; omega
  have k0 : (3 : Int) ≤ (t.size : Int) := by omega
  have k1 : (3 : Int) < (t.size : Int) := by omega
  have hp3 := pre_eq t
  replace hp3 : ((t.extract 0 3).toList == (⟨#[76, 89, 82]⟩ : ByteArray).toList) = decide (t.data.toList.take 3 = [76, 89, 82]) := hp3
  rw [show (⟨#[76, 89, 82]⟩ : ByteArray).toList = [76, 89, 82] by rw [Lib.toList_data]] at hp3
  by_cases h5 : t.data.toList.take 3 = [76, 89, 82]
  · rw [decide_eq_true h5] at hp3
    have HE := Lib.hid (show wholeL t.data.toList = wholeF (byAt t.data.toList 3) t.data.toList 4 [] by unfold wholeL; rw [hsz]; exact if_neg (by rintro (h | h); exact h4 h; exact h h5))
    have i3' : 3 < t.size := by omega
    have HBY := Lib.hid (byAt_of t i3')
    have hE0 : (w.alloc (.cells #[] 27)).ownsRow w.heap.size 27 5 (.slice (some ⟨w.heap.size, 0, none⟩) 0 0) 0 [] := World.ownsRow_lit w #[] 0 (Nat.le_refl _) (Nat.zero_le _) rfl
    have HE0 := Lib.hid hE0
    have eA : Below w.heap.size w (w.alloc (.cells #[] 27)) := (Below.refl _ _).alloc (Nat.le_refl _) _
    have hp3n : ((t.extract 0 3).toList != ([76, 89, 82] : List UInt8)) = false := by rw [bne, hp3]; rfl
    clear h5 hE0 h4
    go_enter Tryd.func41, Tryd.ntmps41
    go_wp2_with fail
    obtain ⟨n, hn⟩ : ∃ n, t[3].toNat = n := ⟨_, rfl⟩
    (try rw [hn])
    have hn8 : n < 256 := by rw [← hn]; exact t[3].toNat_lt
    rw [hn] at HBY
    clear hn
    have hwn : wrap64 (n : Int) = (n : Int) := by unfold wrap64; omega
    (try rw [hwn])
    rw [HBY.out] at HE
    clear hwn
    go_loopw [5, 6, 7] (fun f a i wr => ∃ (k m : Nat) (L : List R), k ≤ n ∧ i = .int .i64 k ∧ a = .int .i64 m ∧ m ≤ t.size ∧ RowOf wr w.heap.size f L.length L ∧ Hid (layerOK L = true ∧ wholeL t.data.toList = wholeF k t.data.toList m L) ∧ Below w.heap.size w wr) (fun _ _ i _ => (intOf i).toNat)
    case atStart => exact ⟨n, 4, [], by omega, rfl, rfl, by omega, ⟨rfl, HE0.out⟩, ⟨by unfold layerOK layerFaultL; rw [faultFrom_end (by simp)]; rfl, HE.out⟩, eA⟩
    case round =>
      clear HE0 eA HE hp3 hp3n
      obtain ⟨k, m, L, hk, rfl, rfl, hm, hrow, HWF, hbw⟩ := hrel
      obtain ⟨fA, fcap, rfl⟩ := hrow.form
      have hL16 := layer_len HWF.out.1
      by_cases hlt : 0 < k
      · obtain ⟨k, rfl⟩ : ∃ k', k = k' + 1 := ⟨k - 1, by omega⟩
        have HRD := l09Read_any t m wr hm (by omega)
        have hdk : decide ((0 : Int) < ((k + 1 : Nat) : Int)) = true := decide_eq_true (by omega)
        have hrs : ∀ (r : R), r.val = .agg #[.int .i64 r.k, .string r.p, .string r.b, .int .i64 r.m, .bool r.o] := fun r => rfl
        by_cases h1 : fitT (t.data.toList.drop m) = true
        · rw [(ra_fit h1).1, rdE_fit h1, h1] at HRD
          have hfz := (fit_sizes h1).2.2
          rw [List.length_drop, hsz] at hfz
          have HW1 := Lib.hid (fun h => @wf_no k m t.data.toList L (.inr h))
          have HW2 := Lib.hid (fun h2 h3 => @wf_sum k m t.data.toList L h1 h2 h3)
          have HW3 := Lib.hid (fun h2 h3 h4 => @wf_bad k m t.data.toList L h1 h2 h3 h4)
          have HW4 := Lib.hid (fun h2 h3 h4 => @wf_go k m t.data.toList L h1 h2 h3 h4)
          obtain ⟨z, hz⟩ : ∃ z, sizT (t.data.toList.drop m) = z := ⟨_, rfl⟩
          obtain ⟨r, hr⟩ : ∃ r, recT (t.data.toList.drop m) = r := ⟨_, rfl⟩
          rw [hz] at HRD HW1 HW2 HW3 HW4 hfz
          rw [hr] at HRD HW3 HW4
          clear hz hr h1
          have HLB := Lib.hid (fun h => @lf_bad L r HWF.out.1 h)
          have HLO := Lib.hid (fun h => @lf_ok L r HWF.out.1 h)
          have HBO := Lib.hid (fun h => @behind_ok L r HWF.out.1 h)
          obtain ⟨E, hE⟩ : ∃ E, m + z = E := ⟨_, rfl⟩
          have hEi : (m : Int) + (z : Int) = (E : Int) := by omega
          rw [hEi] at HRD
          rw [hE] at HW1 HW2 HW3 HW4
          have hEs : E ≤ t.size := by omega
          have hmE : m ≤ E := by omega
          clear hEi
          generalize HNC : nxtC L r = nc at *
          obtain ⟨rk, rm, rp, rb, ro⟩ := r
          rw [hrs] at HRD
          clear hrs
          simp only at HRD
          have hwE : IntKind.i64.wrap ((E : Int) + 2) = (E : Int) + 2 := IntWalk.i64_in _ (by omega)
          by_cases h2 : E + 2 ≤ t.size
          · have hd : decide ((t.size : Int) < (E : Int) + 2) = false := by simp; omega
            have hd' : decide (t.size < E + 2) = false := by simp; omega
            have i1 : (0 : Int) ≤ (E : Int) := by omega
            have i2 : (E : Int) ≤ (E : Int) + 2 := by omega
            have i3 : (E : Int) + 2 ≤ (t.size : Int) := by omega
            have i4 : (0 : Int) ≤ (m : Int) := by omega
            have i5 : (m : Int) ≤ (E : Int) := by omega
            have i6 : (E : Int) ≤ (t.size : Int) := by omega
            have e1 : (t.extract m E).data.toList = (t.data.toList.drop m).take z := by rw [ext_take]; congr 1; omega
            have e2 : (t.extract E (E + 2)).data.toList = (t.data.toList.drop E).take 2 := by rw [ext_take]; congr 1; omega
            obtain ⟨sm, hsm⟩ : ∃ sm, sumL ((t.data.toList.drop m).take z) = sm := ⟨_, rfl⟩
            have hsl := sum_lt ((t.data.toList.drop m).take z)
            rw [hsm] at hsl HW2 HW3 HW4
            have HSM : Hid (∀ W, Calls Tryd.prog 51 #[.string (t.extract m E)] W fun e w' => e = .returned (.int .i64 (sm : Int)) ∧ W = w') := fun W => by
              have h := l09Sum_any (t.extract m E) W (by unfold maxLen; simp; omega)
              rw [e1, hsm] at h
              exact h
            clear hsm e1
            have HE2 := Lib.hid e2
            clear e2
            go_wp2_with fail
            refine HRD.mono ?_
            rintro e w1 ⟨rfl, hb1⟩
            have cc1 := hbw.trans (hb1.mono hbw.size)
            have hrow1 := hrow.below hb1
            have HBXA : Hid (RBox (w1.alloc (.cells #[.int .i64 rk, .string rp, .string rb, .int .i64 rm, .bool ro] 27)) w1.heap.size ⟨rk, rm, rp, rb, ro⟩) := heap_alloc_new w1 _
            have HCA : Hid (Below w.heap.size w (w1.alloc (.cells #[.int .i64 rk, .string rp, .string rb, .int .i64 rm, .bool ro] 27))) := bel_alloc_own cc1
            have HRA : Hid (RowOf (w1.alloc (.cells #[.int .i64 rk, .string rp, .string rb, .int .i64 rm, .bool ro] 27)) w.heap.size (.slice fA L.length fcap) L.length L) := hrow1.below ((Below.refl _ _).alloc (Nat.le_refl _) _)
            obtain ⟨g, hg⟩ : ∃ g, w1.heap.size = g := ⟨_, rfl⟩
            rw [hg] at HBXA
            clear cc1 hrow1 hb1 hbw hrow HRD
            go_wp2_with fail
            generalize w1.alloc (.cells #[.int .i64 rk, .string rp, .string rb, .int .i64 rm, .bool ro] 27) = W at *
            by_cases h3 : (t.data.toList.drop E).take 2 = twoB (sm : Int)
            · have HBE : Hid (∀ B : ByteArray, B.data.toList = twoB (sm : Int) → B = t.extract E (E + 2)) := fun B hB => str_of_list (by rw [hB, HE2.out, h3])
              have hbt : ((t.extract E (E + 2)).toList == (t.extract E (E + 2)).toList) = true := by simp
              have HXW := HCA.out
              go_region_held3 (fun _ => True) (trivial) (first | (go_at_call 44; refine (l09Two_any (sm : Int) _ (by omega) (by omega)).mono ?_; rintro e w4 ⟨B, rfl, hB, -, hb4⟩; obtain rfl := HBE.out B hB; clear hB) | (go_at_call 51; refine (HSM.out _).mono ?_; rintro e w3 ⟨rfl, rfl⟩))
              obtain ⟨HZ⟩ : Nonempty (Hid (Below W.heap.size W w4)) := ⟨by first | exact hb4 | exact Below.trans ((Below.refl W.heap.size W).drew) (hb4.mono (by simp)) | exact hb4.drew⟩
              have e9 : ((E : Int) + 2).toNat = E + 2 := by omega
              (try rw [e9])
              (try rw [hbt])
              clear hb4 hbt HBE
              have HC4 := Lib.hid (HCA.out.trans (HZ.out.mono HCA.out.size))
              have hbx4 := HBXA.out.grown (o := none) (grown_of_below HZ.out) (by simp)
              have hrow4 := HRA.out.below HZ.out
              obtain ⟨s0, s1, s2, s3, s4⟩ := hbx4.cells
              have hr3 : (w4.alloc (.cells #[.int .i64 rk, .string rp, .string rb, .int .i64 rm, .bool ro] 27)).ownsRow w.heap.size 27 5 (.slice fA L.length fcap) L.length (flat L) := hrow4.2.alloc _
              have hnews := rec_cells_new w4 ⟨rk, rm, rp, rb, ro⟩ 27
              have hone := rec_one (⟨rk, rm, rp, rb, ro⟩ : R)
              have hbz : w.heap.size ≤ (w4.alloc (.cells #[.int .i64 rk, .string rp, .string rb, .int .i64 rm, .bool ro] 27)).heap.size := (bel_alloc_own HC4.out).size
              have HCW : Hid (Below w.heap.size w (w4.alloc (.cells #[.int .i64 rk, .string rp, .string rb, .int .i64 rm, .bool ro] 27))) := bel_alloc_own HC4.out
              clear HXW hbx4
              go_wp2_with (first
                | (at_builtin; refine wpList_append_own _ rfl _ _ 37 rfl w.heap.size 27 i0 (.agg #[.int .i64 0, .string ByteArray.empty, .string ByteArray.empty, .int .i64 0, .bool false]) 5 56 Tryd.underlying37 hi hI0 hI1 hI2 rfl (by decide) _ _ _ rfl hr3 ⟨w4.heap.size, 0, none⟩ 1 1 (R.cs (⟨rk, rm, rp, rb, ro⟩ : R)) rfl rfl hnews hone (by unfold maxLen; omega) (by omega) hbz ?_; intro v' w9 hown' hgrow9 hnil9; obtain ⟨vA, vc, rfl⟩ := own_form hown'))
              have HC9 : Hid (Below w.heap.size w w9) := HCW.out.grown hgrow9 HCW.out.size (fun j hj => (hrow4.2.lt j hj).1)
              have HR9 : Hid (RowOf w9 w.heap.size (.slice vA (L.length + 1) vc) (L ++ [(⟨rk, rm, rp, rb, ro⟩ : R)]).length (L ++ [(⟨rk, rm, rp, rb, ro⟩ : R)])) := row_snoc hown'
              have HLF := l03Fault_any (.slice vA (L.length + 1) vc) (L ++ [(⟨rk, rm, rp, rb, ro⟩ : R)]) w9 HR9.out.sl (by rw [List.length_append, List.length_singleton]; omega)
              clear hown' hgrow9 hnil9 hr3 hrow4
              by_cases h4 : nc = 0
              · have hlo := HLO.out h4
                rw [hlo.1, hlo.2] at HLF
                have HE : Hid (layerOK (L ++ [(⟨rk, rm, rp, rb, ro⟩ : R)]) = true ∧ wholeL t.data.toList = wholeF k t.data.toList (E + 2) (L ++ [(⟨rk, rm, rp, rb, ro⟩ : R)])) := ⟨HBO.out h4, HWF.out.2.trans (HW4.out (by omega) h3 h4)⟩
                clear hlo
                refine HLF.mono ?_
                rintro e w5 ⟨rfl, hb5⟩
                go_wp2_with fail
                exact ⟨⟨k, E + 2, L ++ [(⟨rk, rm, rp, rb, ro⟩ : R)], by omega, by go_num, by go_num, h2, HR9.out.below hb5, HE, HC9.out.trans (hb5.mono HC9.out.size)⟩, by simp [intOf]⟩
              · have hlo := HLB.out h4
                rw [hlo.1, hlo.2] at HLF
                have HE : Hid (wholeL t.data.toList = ([], m, nc)) := HWF.out.2.trans (HW3.out (by omega) h3 h4)
                have hnc : (nc != 0) = true := by simpa using h4
                have hll : ((L.length : Int) == ((L.length + 1 : Nat) : Int) - 1) = true := by simp
                have hwl : IntKind.i64.wrap (((L.length + 1 : Nat) : Int) - 1) = (L.length : Int) := by rw [IntWalk.i64_in _ (by omega)]; omega
                clear hlo
                refine HLF.mono ?_
                rintro e w5 ⟨rfl, hb5⟩
                go_wp2_with fail
                refine bodyPost_ret (v := .tuple #[.slice none 0 0, .int .i64 m, .int .i64 nc]) (by simp [results, Tryd.results41, go_sem]) rfl (wv_bad HE.out (HC9.out.trans (hb5.mono HC9.out.size)))
            · have HBE : Hid (∀ B : ByteArray, B.data.toList = twoB (sm : Int) → ((t.extract E (E + 2)).toList == B.toList) = false) := fun B hB => str_beq_no (by rw [hB, HE2.out]; exact h3)
              have HE := Lib.hid (HWF.out.2.trans (HW2.out (by omega) h3))
              have HXW := HCA.out
              go_region_held3 (fun _ => True) (trivial) (first | (go_at_call 44; refine (l09Two_any (sm : Int) _ (by omega) (by omega)).mono ?_; rintro e w4 ⟨B, rfl, hB, -, hb4⟩; have hbt := HBE.out B hB; clear hB) | (go_at_call 51; refine (HSM.out _).mono ?_; rintro e w3 ⟨rfl, rfl⟩))
              obtain ⟨HZ⟩ : Nonempty (Hid (Below W.heap.size W w4)) := ⟨by first | exact hb4 | exact Below.trans ((Below.refl W.heap.size W).drew) (hb4.mono (by simp)) | exact hb4.drew⟩
              have e9 : ((E : Int) + 2).toNat = E + 2 := by omega
              (try rw [e9])
              (try rw [hbt])
              clear hb4 hbt HBE
              have HC4 := Lib.hid (HCA.out.trans (HZ.out.mono HCA.out.size))
              go_wp2_with fail
              refine bodyPost_ret (v := .tuple #[.slice none 0 0, .int .i64 m, .int .i64 15]) (by simp [results, Tryd.results41, go_sem]) rfl (wv_bad HE.out HC4.out)
          · have hd : decide ((t.size : Int) < (E : Int) + 2) = true := by simp; omega
            have hd' : decide (t.size < E + 2) = true := by simp; omega
            have HE := Lib.hid (HWF.out.2.trans (HW1.out (by omega)))
            clear HW1 HW2 HW3 HW4 HLB HLO HBO HWF h2
            go_wp2_with fail
            refine HRD.mono ?_
            rintro e w1 ⟨rfl, hb1⟩
            go_wp2_with fail
            have HB := Lib.hid (bel_alloc_own (x := .cells #[.int .i64 rk, .string rp, .string rb, .int .i64 rm, .bool ro] 27) (hbw.trans (hb1.mono hbw.size)))
            refine bodyPost_ret (v := .tuple #[.slice none 0 0, .int .i64 m, .int .i64 3]) (by simp [results, Tryd.results41, go_sem]) rfl (wv_bad HE.out HB.out)
        · have hf : fitT (t.data.toList.drop m) = false := by simpa using h1
          have HE := Lib.hid (HWF.out.2.trans (wf_no (.inl hf)))
          rw [(ra_no hf).1, rdE_no hf, hf, zero_eq] at HRD
          rw [hrs] at HRD
          simp only at HRD
          clear h1 hf HWF
          go_wp2_with fail
          refine HRD.mono ?_
          rintro e w1 ⟨rfl, hb1⟩
          go_wp2_with fail
          have HB := Lib.hid (bel_alloc_own (x := .cells #[.int .i64 0, .string ⟨#[]⟩, .string ⟨#[]⟩, .int .i64 0, .bool false] 27) (hbw.trans (hb1.mono hbw.size)))
          refine bodyPost_ret (v := .tuple #[.slice none 0 0, .int .i64 m, .int .i64 3]) (by simp [results, Tryd.results41, go_sem]) rfl (wv_bad HE.out HB.out)
      · obtain rfl : k = 0 := by omega
        have hdk : decide ((0 : Int) < ((0 : Nat) : Int)) = false := by simp
        have HE0 := Lib.hid (HWF.out.2.trans (whole_end t.data.toList m L))
        have hwm : IntKind.i64.wrap ((m : Int) + 2) = (m : Int) + 2 := IntWalk.i64_in _ (by omega)
        by_cases h2 : t.size = m + 2
        · have hne : ((m : Int) + 2 != (t.size : Int)) = false := by simp; omega
          have i1 : (0 : Int) ≤ (m : Int) := by omega
          have i2 : (m : Int) ≤ (t.size : Int) := by omega
          have e1 : (t.extract 0 m).data.toList = t.data.toList.take m := by rw [ext_take]; simp
          have e2 : (t.extract m t.size).data.toList = t.data.toList.drop m := ext_drop t m
          obtain ⟨sm, hsm⟩ : ∃ sm, sumL (t.data.toList.take m) = sm := ⟨_, rfl⟩
          have hsl := sum_lt (t.data.toList.take m)
          have HEC : Hid (endC t.data.toList m = if t.data.toList.drop m ≠ twoB (sm : Int) then 15 else 0) := by show _ = _; unfold endC; rw [if_neg (by omega), hsm]
          rw [hsm] at hsl
          have HSM : Hid (∀ W, Calls Tryd.prog 51 #[.string (t.extract 0 m)] W fun e w' => e = .returned (.int .i64 (sm : Int)) ∧ W = w') := fun W => by
            have h := l09Sum_any (t.extract 0 m) W (by unfold maxLen; simp; omega)
            rw [e1, hsm] at h
            exact h
          clear hsm e1
          have HE2 := Lib.hid e2
          clear e2 h2 hL16 hdk hk hlt
          go_wp2_with fail
          by_cases h3 : t.data.toList.drop m = twoB (sm : Int)
          · have HBE : Hid (∀ B : ByteArray, B.data.toList = twoB (sm : Int) → B = t.extract m t.size) := fun B hB => str_of_list (by rw [hB, HE2.out, h3])
            have hbt : ((t.extract m t.size).toList == (t.extract m t.size).toList) = true := by simp
            have HE : Hid (wholeL t.data.toList = (L, 0, 0)) := by show _ = _; rw [HE0.out, if_pos (by rw [HEC.out, if_neg (by rw [h3]; simp)])]
            have HXW := hbw
            go_region_held3 (fun _ => True) (trivial) (first | (go_at_call 44; refine (l09Two_any (sm : Int) _ (by omega) (by omega)).mono ?_; rintro e w4 ⟨B, rfl, hB, -, hb4⟩; obtain rfl := HBE.out B hB; clear hB) | (go_at_call 51; refine (HSM.out _).mono ?_; rintro e w3 ⟨rfl, rfl⟩))
            obtain ⟨HZ⟩ : Nonempty (Hid (Below wr.heap.size wr w4)) := ⟨by first | exact hb4 | exact Below.trans ((Below.refl wr.heap.size wr).drew) (hb4.mono (by simp)) | exact hb4.drew⟩
            (try rw [hbt])
            go_wp2_with fail
            refine bodyPost_ret (v := .tuple #[.slice fA L.length fcap, .int .i64 0, .int .i64 0]) (by simp [results, Tryd.results41, go_sem]) rfl ⟨_, by rw [HE.out]; rfl, by rw [HE.out]; exact hrow.below HZ.out, hbw.trans (HZ.out.mono hbw.size)⟩
          · have HBE : Hid (∀ B : ByteArray, B.data.toList = twoB (sm : Int) → ((t.extract m t.size).toList == B.toList) = false) := fun B hB => str_beq_no (by rw [hB, HE2.out]; exact h3)
            have HE : Hid (wholeL t.data.toList = ([], m, 15)) := by show _ = _; rw [HE0.out, show endC t.data.toList m = 15 by rw [HEC.out, if_pos h3], if_neg (by decide)]
            have HXW := hbw
            go_region_held3 (fun _ => True) (trivial) (first | (go_at_call 44; refine (l09Two_any (sm : Int) _ (by omega) (by omega)).mono ?_; rintro e w4 ⟨B, rfl, hB, -, hb4⟩; have hbt := HBE.out B hB; clear hB) | (go_at_call 51; refine (HSM.out _).mono ?_; rintro e w3 ⟨rfl, rfl⟩))
            obtain ⟨HZ⟩ : Nonempty (Hid (Below wr.heap.size wr w4)) := ⟨by first | exact hb4 | exact Below.trans ((Below.refl wr.heap.size wr).drew) (hb4.mono (by simp)) | exact hb4.drew⟩
            (try rw [hbt])
            go_wp2_with fail
            refine bodyPost_ret (v := .tuple #[.slice none 0 0, .int .i64 m, .int .i64 15]) (by simp [results, Tryd.results41, go_sem]) rfl (wv_bad HE.out (hbw.trans (HZ.out.mono hbw.size)))
        · have hne : ((m : Int) + 2 != (t.size : Int)) = true := by simp; omega
          have HE : Hid (wholeL t.data.toList = ([], m, 3)) := by show _ = _; rw [HE0.out, show endC t.data.toList m = 3 by unfold endC; rw [if_pos (by omega)], if_neg (by decide)]
          go_wp2_with fail
          refine bodyPost_ret (v := .tuple #[.slice none 0 0, .int .i64 m, .int .i64 3]) (by simp [results, Tryd.results41, go_sem]) rfl (wv_bad HE.out hbw)
  · rw [decide_eq_false h5] at hp3
    have HE := Lib.hid (show wholeL t.data.toList = ([], 0, 3) by unfold wholeL; rw [hsz]; exact if_pos (.inr h5))
    have hp3n : ((t.extract 0 3).toList != ([76, 89, 82] : List UInt8)) = true := by rw [bne, hp3]; rfl
    clear h5
    go_enter Tryd.func41, Tryd.ntmps41
    go_wp2_with fail
    refine bodyPost_ret (v := .tuple #[.slice none 0 0, .int .i64 0, .int .i64 3]) (by simp [results, Tryd.results41, go_sem]) rfl (wv_bad (a := 0) HE.out (Below.refl _ _))
end Go.Proofs.YtciflchaepchiaaDoor.Recs

/- DecodeLayer and FirstFault of the model; how long a layer in a text is. No condition. -/
namespace Go.Proofs.YtciflchaepchiaaDoor.Recs
set_option maxRecDepth 100000
open Go.RowKit Paths

theorem dec_short {t : ByteArray} (h : ¬ 65536 < t.size) : decL t = (wholeL t.data.toList).1 ∧ decA t = (wholeL t.data.toList).2.1 ∧ decC t = (wholeL t.data.toList).2.2 := by
  unfold decL decA decC
  rw [if_neg h, if_neg h, if_neg h]
  exact ⟨rfl, rfl, rfl⟩
theorem dec_long {t : ByteArray} (h : 65536 < t.size) : decL t = [] ∧ decA t = 0 ∧ decC t = 2 := by
  unfold decL decA decC
  rw [if_pos h, if_pos h, if_pos h]
  exact ⟨rfl, rfl, rfl⟩

theorem ret_two {a b c d : Int} (h : a = b) (k : c = d) : Ending.returned (.tuple #[.int .i64 a, .int .i64 c]) = .returned (.tuple #[.int .i64 b, .int .i64 d]) := by rw [h, k]

set_option maxHeartbeats 800000 in
theorem firstFault_spec (t : ByteArray) (w : World) :
    Calls Tryd.prog 24 #[.string t] w fun e w' => e = .returned (.tuple #[.int .i64 (decA t), .int .i64 (decC t)]) ∧ Below w.heap.size w w' := by
  by_cases h1 : 65536 < t.size
  · have HD := Lib.hid (dec_long h1)
    have hd : decide ((65536 : Int) < (t.size : Int)) = true := by simp; omega
    go_enter Tryd.func24, Tryd.ntmps24
    go_wp2_with fail
    go_ret2
    exact ⟨ret_two (by rw [HD.out.2.1]; rfl) (by rw [HD.out.2.2]), Below.refl _ _⟩
  have hd1 : decide ((65536 : Int) < (t.size : Int)) = false := by simp; omega
  obtain ⟨dl, da, dc⟩ := dec_short h1
  have HC := l09Whole_any t w (by omega)
  have HD : Hid (decA t = (wholeL t.data.toList).2.1 ∧ decC t = (wholeL t.data.toList).2.2) := ⟨da, dc⟩
  clear dl da dc
  go_enter Tryd.func24, Tryd.ntmps24
  go_wp2_with fail
  refine HC.mono ?_
  rintro e w1 ⟨v, rfl, hr, hb⟩
  go_wp2_with fail
  go_ret2
  exact ⟨ret_two (by rw [HD.out.1]) (by rw [HD.out.2]), hb⟩
end Go.Proofs.YtciflchaepchiaaDoor.Recs
