/- Parts of several texts of mine in one file (each begins with its own remark). -/
import Derived.Test.YtciflchaepchiaaDoorFA10
import Derived.Test.YtciflchaepchiaaDoorFA2
import Derived.Test.YtciflchaepchiaaDoorFA3
import Derived.Test.YtciflchaepchiaaDoorFA4
import Derived.Test.YtciflchaepchiaaDoorFA5
import Derived.Test.YtciflchaepchiaaDoorFA6
import Derived.Test.YtciflchaepchiaaDoorFA7
import Derived.Test.YtciflchaepchiaaDoorFA8
import Derived.Test.YtciflchaepchiaaDoorFA9
import Derived.Test.YtciflchaepchiaaDoorChecked
import Derived.Test.YtciflchaepchiaaDoorShelf
import Derived.Test.YtciflchaepchiaaDoorProg
import Derived.Test.YtciflchaepchiaaDoorRows
import Derived.Deep.Cut
import Derived.Deep.RegionHeld3
import Derived.Laws.BytesArg
import Derived.Lib.ConvBytes
import Derived.Deep.Slices
import Derived.OpenShut
import Derived.ShutString
import Derived.ChangeArms
import Derived.WideShapes
import Derived.Lib.LaidTab
import Derived.BigQuiet
import Derived.Deep.QuietTactic
import Derived.StillTailTactics
import Derived.Deep.Draws
import Derived.Deep.LoopGhost
import Derived.WalkKit
import Derived.WalkSpells
import Derived.WalkSmall
import Derived.Lib.OthersKept
import Derived.Lib.Hide
import Derived.Lib.Strings
import Derived.Lib.Join
import Derived.WalkLawsBesides
import Derived.Below
import Derived.Shelf.Strings.Builder1
import Derived.Stop.LaidErr
import Derived.Laws.OwnMore
import Derived.BigRegion
import Derived.LaidEql
import Derived.Stop.Asserts
import Derived.Stop.LaidTwo
import Derived.ChangeVars
import Derived.Deep.DeepHandedRow
/- The next record of a layer's text, of the program. Condition: the table of kinds. -/
namespace Go.Proofs.YtciflchaepchiaaDoor.Recs
set_option maxRecDepth 100000
open Go.RowKit Paths

/-- What nextRecord answers: the record, its size with its sum's, the code. -/
def nxR (L : List R) (t : List UInt8) : R × Int × Int :=
  if fitT t = false ∨ t.length < sizT t + 2 then (zR, 0, 3)
  else if withSumL (t.take (sizT t)) ≠ t.take (sizT t + 2) then (zR, 0, 15)
  else (recT t, (sizT t : Int) + 2, nxtC L (recT t))
theorem nx_form {L : List R} {t : List UInt8} (h : fitT t = false ∨ t.length < sizT t + 2) : nxR L t = (zR, 0, 3) := if_pos h
theorem nx_sum {L : List R} {t : List UInt8} (h1 : fitT t = true) (h2 : sizT t + 2 ≤ t.length) (h3 : withSumL (t.take (sizT t)) ≠ t.take (sizT t + 2)) : nxR L t = (zR, 0, 15) := by
  unfold nxR
  rw [if_neg (by rw [h1]; simp; omega), if_pos h3]
theorem nx_rec {L : List R} {t : List UInt8} (h1 : fitT t = true) (h2 : sizT t + 2 ≤ t.length) (h3 : withSumL (t.take (sizT t)) = t.take (sizT t + 2)) : nxR L t = (recT t, (sizT t : Int) + 2, nxtC L (recT t)) := by
  unfold nxR
  rw [if_neg (by rw [h1]; simp; omega), if_neg (by rw [h3]; simp)]
theorem ret_nx {x : R × Int × Int} {r : R} {a b : Int} (h : x = (r, a, b)) : Ending.returned (.tuple #[r.val, .int .i64 a, .int .i64 b]) = .returned (.tuple #[x.1.val, .int .i64 x.2.1, .int .i64 x.2.2]) := by rw [h]

set_option maxHeartbeats 3200000 in
theorem nextRecord_any (v : Value) (L : List R) (t : ByteArray) (w : World) (h : RecSl w v L) (hL : layerOK L = true) (_hs : t.size ≤ 65536) (ht : Tab w) :
    Calls Tryd.prog 58 #[v, .string t] w fun e w' => e = .returned (.tuple #[(nxR L t.data.toList).1.val, .int .i64 (nxR L t.data.toList).2.1, .int .i64 (nxR L t.data.toList).2.2]) ∧ Below w.heap.size w w' := by
  have HRS := Lib.hid h
  have h16 := layer_len hL
  have HPS : Hid (∀ x ∈ L, x.p.size ≤ maxLen) := fun x hx => by
    have := (fault_enc (layer_rec hL hx)).2.2.2.2.2.1
    unfold maxLen; omega
  obtain ⟨A, cap, rfl, hcap, h⟩ := h
  have hsz : t.data.toList.length = t.size := (Lib.size_eq t).symm
  have HW : Hid (Below w.heap.size w (w.alloc (.cells #[.int .i64 0, .string ⟨#[]⟩, .string ⟨#[]⟩, .int .i64 0, .bool false] 27))) := (Below.refl _ _).alloc (Nat.le_refl _) _
  have HR := recordAt_any t (w.alloc (.cells #[.int .i64 0, .string ⟨#[]⟩, .string ⟨#[]⟩, .int .i64 0, .bool false] 27))
  by_cases h1 : fitT t.data.toList = true
  · rw [(ra_fit h1).1, (ra_fit h1).2] at HR
    obtain ⟨r, hr⟩ : ∃ r, recT t.data.toList = r := ⟨_, rfl⟩
    have hps : r.p.size ≤ maxLen := by rw [← hr]; have := recT_path t.data.toList; unfold maxLen; omega
    have hsl := siz_lt t.data.toList
    have HF := Lib.hid (fun h => nx_form (L := L) (t := t.data.toList) (.inr h))
    have HS := Lib.hid (fun h2 h3 => nx_sum (L := L) (t := t.data.toList) h1 h2 h3)
    have HN := Lib.hid (fun h2 h3 => nx_rec (L := L) (t := t.data.toList) h1 h2 h3)
    obtain ⟨z, hz⟩ : ∃ z, sizT t.data.toList = z := ⟨_, rfl⟩
    rw [hz] at HR HF HS HN hsl
    rw [hr] at HR HN
    have e0 : (((z : Nat) : Int) == 0) = false := by simp; omega
    have hw2 : IntKind.i64.wrap ((z : Int) + 2) = (z : Int) + 2 := IntWalk.i64_in _ (by omega)
    clear hr hz h1
    have hbn : behC L r = nxtC L r := beh_nxt hL
    obtain ⟨k, m, p, b, o⟩ := r
    unfold R.val at HR
    simp only at HR hps
    by_cases h2 : z + 2 ≤ t.size
    · have hd : decide ((t.size : Int) < (z : Int) + 2) = false := by simp; omega
      have hd' : decide (t.size < z + 2) = false := by simp; omega
      have i0 : (0 : Int) ≤ (z : Int) := by omega
      have i1 : (z : Int) ≤ (t.size : Int) := by omega
      have i2 : (z : Int) + 2 ≤ (t.size : Int) := by omega
      have i3 : (0 : Int) ≤ (z : Int) + 2 := by omega
      have HWS : Hid (∀ w, Calls Tryd.prog 40 #[.string (t.extract 0 z)] w fun e w' => ∃ B : ByteArray, e = .returned (.string B) ∧ B.data.toList = withSumL (t.data.toList.take z) ∧ Below w.heap.size w w') := fun w => by
        have h := withSum_any (t.extract 0 z) w (by simp; omega)
        have e1 : (t.extract 0 z).data.toList = t.data.toList.take z := by rw [ext_take]; simp
        rw [e1] at h
        exact h
      have HE2 : Hid ((t.extract 0 (z + 2)).data.toList = t.data.toList.take (z + 2)) := by show _ = _; rw [ext_take]; simp
      by_cases h3 : withSumL (t.data.toList.take z) = t.data.toList.take (z + 2)
      · have HE := Lib.hid (HN.out (by omega) h3)
        have HB : Hid (∀ B : ByteArray, B.data.toList = withSumL (t.data.toList.take z) → B = t.extract 0 (z + 2)) := fun B hB => str_of_list (by rw [hB, h3, HE2.out])
        have hbt : ((t.extract 0 (z + 2)).toList != (t.extract 0 (z + 2)).toList) = false := by simp
        have hbt' : ((t.extract 0 (z + 2)).toList == (t.extract 0 (z + 2)).toList) = true := by simp
        clear h3 HE2 HF HS HN hsz hsl h2 hL
        go_enter Tryd.func58, Tryd.ntmps58
        go_wp2_with fail
        refine HR.mono ?_
        rintro e w1 ⟨rfl, hb1⟩
        have hz1 : w.heap.size < w1.heap.size := by have := hb1.size; simp at this; omega
        have HX := Lib.hid (HW.out.trans (hb1.mono (by simp)))
        have HXa : Hid (Below w.heap.size w (w1.alloc (.cells #[.int .i64 k, .string p, .string b, .int .i64 m, .bool o] 27))) := bel_alloc_own HX.out
        have HO : Hid (RBox w1 w.heap.size zR) := (hb1.block _ (by simp)).trans (heap_alloc_new w (.cells #[.int .i64 0, .string ⟨#[]⟩, .string ⟨#[]⟩, .int .i64 0, .bool false] 27))
        have HOa : Hid (RBox (w1.alloc (.cells #[.int .i64 k, .string p, .string b, .int .i64 m, .bool o] 27)) w.heap.size zR) := ((((Below.refl w1.heap.size w1).alloc (Nat.le_refl _) _).block _ hz1).trans HO.out)
        have HBa : Hid (RBox (w1.alloc (.cells #[.int .i64 k, .string p, .string b, .int .i64 m, .bool o] 27)) w1.heap.size ⟨k, m, p, b, o⟩) := heap_alloc_new w1 _
        clear hb1 HW HR HX HO
        have hneq : w.heap.size ≠ w1.heap.size := by omega
        obtain ⟨g, hg⟩ : ∃ g, w1.heap.size = g := ⟨_, rfl⟩
        rw [hg] at HBa hneq hz1
        go_wp2_with fail
        generalize w1.alloc (.cells #[.int .i64 k, .string p, .string b, .int .i64 m, .bool o] 27) = W at *
        have HXW := HXa.out
        go_region_held3 (fun _ => True) (trivial) (first | (go_at_call 40; refine (HWS.out _).mono ?_; rintro e w2 ⟨B, rfl, hB, hb2⟩; obtain rfl := HB.out B hB; clear hB))
        have e9 : ((z : Int) + 2).toNat = z + 2 := by omega
        rw [e9, hbt']
        obtain ⟨HZ⟩ : Nonempty (Hid (Below W.heap.size W w2)) := ⟨by first | exact hb2 | exact Below.trans ((Below.refl W.heap.size W).drew) (hb2.mono (by simp)) | exact hb2.drew⟩
        clear hb2 HXW hbt hbt'
        have HTb : Hid (Below w.heap.size w w2) := HXa.out.trans (HZ.out.mono HXa.out.size)
        have HO2 := Lib.hid (HOa.out.grown (o := none) (grown_of_below HZ.out) (by simp))
        have HB2 := Lib.hid (HBa.out.grown (o := none) (grown_of_below HZ.out) (by simp))
        clear HOa HBa HXa HZ HWS HB
        generalize (t.extract 0 (z + 2)) = T2 at *
        generalize (t.extract 0 z) = T1 at *
        go_wp2_with fail
        have HTab : Hid (Tab w2) := ht.below HTb.out (Nat.le_refl _)
        have HSl : Hid (RecSl w2 (.slice A L.length cap) L) := HRS.out.below HTb.out
        have HCG : Hid (∀ W', Below w2.heap.size w2 W' → RecCells W' g 0 ⟨k, m, p, b, o⟩) := fun W' h => (HB2.out.cells).below h HB2.out.lt
        have HOG : Hid (∀ W', Below w2.heap.size w2 W' → RBox W' w.heap.size zR) := fun W' h => HO2.out.grown (o := none) (grown_of_below h) (by simp)
        have HZ : Hid (Below w2.heap.size w2 w2) := Below.refl _ _
        have HFB : Hid (∀ W', Below w2.heap.size w2 W' → Calls Tryd.prog 53 #[.slice A L.length cap, .agg #[.int .i64 k, .string p, .string b, .int .i64 m, .bool o]] W' fun e w' => e = .returned (.int .i64 (nxtC L ⟨k, m, p, b, o⟩)) ∧ Below W'.heap.size W' w') := fun W' h => by
          have hx := faultBehind_any (.slice A L.length cap) L ⟨k, m, p, b, o⟩ W' (HSl.out.below h) (by omega) hps HPS.out (HTab.out.below h (Nat.le_refl _))
          rw [hbn] at hx
          exact hx
        clear HTab HSl HB2 HO2
        generalize nxtC L ⟨k, m, p, b, o⟩ = c at *
        go_region_held3 (fun W' => W'.cell? ⟨g, 0, none⟩ = some (.int .i64 k) ∧ W'.cell? ⟨g, 1, none⟩ = some (.string p) ∧ W'.cell? ⟨g, 2, none⟩ = some (.string b) ∧ W'.cell? ⟨g, 3, none⟩ = some (.int .i64 m) ∧ W'.cell? ⟨g, 4, none⟩ = some (.bool o)) (first | exact HCG.out _ HZ.out | exact HCG.out _ HZ.out.drew | go_keep) (first | (go_at_call 53; refine (HFB.out _ (by first | exact HZ.out | exact HZ.out.drew)).mono ?_; rintro e w3 ⟨rfl, hb3⟩; replace HZ : Hid (Below w2.heap.size w2 w3) := (by first | exact bel_t HZ.out hb3 | exact bel_t HZ.out.drew hb3); clear hb3; obtain ⟨o0, o1, o2, o3, o4⟩ := (HOG.out _ HZ.out).cells; have u0 := (HOG.out _ HZ.out).frozen 0; have u1 := (HOG.out _ HZ.out).frozen 1; have u2 := (HOG.out _ HZ.out).frozen 2; have u3 := (HOG.out _ HZ.out).frozen 3; have u4 := (HOG.out _ HZ.out).frozen 4))
        go_wp2_with fail
        refine bodyPost_ret (v := .tuple #[.agg #[.int .i64 k, .string p, .string b, .int .i64 m, .bool o], .int .i64 ((z : Int) + 2), .int .i64 c]) (by simp [results, Tryd.results58, go_sem, o0, o1, o2, o3, o4]) rfl ⟨ret_nx HE.out, ?_⟩
        repeat (refine Below.setCell ?_ (by simp) _)
        exact HTb.out.trans (HZ.out.mono HTb.out.size)
      · have HE := Lib.hid (HS.out (by omega) h3)
        have HB : Hid (∀ B : ByteArray, B.data.toList = withSumL (t.data.toList.take z) → (B.toList == (t.extract 0 (z + 2)).toList) = false) := fun B hB => str_beq_no (by rw [hB, HE2.out]; exact h3)
        clear h3 HE2 HF HS HN hsz hsl h2 hL hbn
        go_enter Tryd.func58, Tryd.ntmps58
        go_wp2_with fail
        refine HR.mono ?_
        rintro e w1 ⟨rfl, hb1⟩
        have hz1 : w.heap.size < w1.heap.size := by have := hb1.size; simp at this; omega
        have HX := Lib.hid (HW.out.trans (hb1.mono (by simp)))
        have HXa : Hid (Below w.heap.size w (w1.alloc (.cells #[.int .i64 k, .string p, .string b, .int .i64 m, .bool o] 27))) := bel_alloc_own HX.out
        have HO : Hid (RBox w1 w.heap.size zR) := (hb1.block _ (by simp)).trans (heap_alloc_new w (.cells #[.int .i64 0, .string ⟨#[]⟩, .string ⟨#[]⟩, .int .i64 0, .bool false] 27))
        have HOa : Hid (RBox (w1.alloc (.cells #[.int .i64 k, .string p, .string b, .int .i64 m, .bool o] 27)) w.heap.size zR) := ((((Below.refl w1.heap.size w1).alloc (Nat.le_refl _) _).block _ hz1).trans HO.out)
        clear hb1 HW HR HX HO
        obtain ⟨g, hg⟩ : ∃ g, w1.heap.size = g := ⟨_, rfl⟩
        rw [hg] at hz1
        go_wp2_with fail
        generalize w1.alloc (.cells #[.int .i64 k, .string p, .string b, .int .i64 m, .bool o] 27) = W at *
        have HXW := HXa.out
        go_region_held3 (fun _ => True) (trivial) (first | (go_at_call 40; refine (HWS.out _).mono ?_; rintro e w2 ⟨B, rfl, hB, hb2⟩; have hbt := HB.out B hB; clear hB))
        have e9 : ((z : Int) + 2).toNat = z + 2 := by omega
        rw [e9, hbt]
        obtain ⟨HZ⟩ : Nonempty (Hid (Below W.heap.size W w2)) := ⟨by first | exact hb2 | exact Below.trans ((Below.refl W.heap.size W).drew) (hb2.mono (by simp)) | exact hb2.drew⟩
        clear hb2 HXW hbt
        have HTb : Hid (Below w.heap.size w w2) := HXa.out.trans (HZ.out.mono HXa.out.size)
        have HO2 := Lib.hid (HOa.out.grown (o := none) (grown_of_below HZ.out) (by simp))
        clear HOa HXa HZ HWS HB
        obtain ⟨o0, o1, o2, o3, o4⟩ := HO2.out.cells
        have u0 := HO2.out.frozen 0
        have u1 := HO2.out.frozen 1
        have u2 := HO2.out.frozen 2
        have u3 := HO2.out.frozen 3
        have u4 := HO2.out.frozen 4
        go_wp2_with fail
        refine bodyPost_ret (v := .tuple #[.agg #[.int .i64 0, .string ⟨#[]⟩, .string ⟨#[]⟩, .int .i64 0, .bool false], .int .i64 0, .int .i64 15]) (by simp [results, Tryd.results58, go_sem, o0, o1, o2, o3, o4]) rfl ⟨ret_nx HE.out, ?_⟩
        repeat (refine Below.setCell ?_ (by simp) _)
        exact HTb.out
    · have hd : decide ((t.size : Int) < (z : Int) + 2) = true := by simp; omega
      have hd' : decide (t.size < z + 2) = true := by simp; omega
      have HE := Lib.hid (HF.out (by omega))
      clear HF HS HN hsz hsl h2 hL hbn
      go_enter Tryd.func58, Tryd.ntmps58
      go_wp2_with fail
      refine HR.mono ?_
      rintro e w1 ⟨rfl, hb1⟩
      have hz1 : w.heap.size < w1.heap.size := by have := hb1.size; simp at this; omega
      have HX := Lib.hid (HW.out.trans (hb1.mono (by simp)))
      obtain ⟨hc1, hf1⟩ := bcell hb1
      clear hb1 HW HR
      go_wp2_with fail
      refine bodyPost_ret (v := .tuple #[.agg #[.int .i64 0, .string ⟨#[]⟩, .string ⟨#[]⟩, .int .i64 0, .bool false], .int .i64 0, .int .i64 3]) (by simp [results, Tryd.results58, go_sem, hc1, hz1]) rfl ⟨ret_nx HE.out, ?_⟩
      refine bel_alloc_own ?_
      repeat (refine Below.setCell ?_ (by simp) _)
      exact HX.out
  · have hf : fitT t.data.toList = false := by simpa using h1
    have HE := Lib.hid (nx_form (L := L) (t := t.data.toList) (.inl hf))
    rw [(ra_no hf).1, (ra_no hf).2, zero_eq] at HR
    unfold R.val at HR
    simp only at HR
    clear h1 hf hsz hL
    go_enter Tryd.func58, Tryd.ntmps58
    go_wp2_with fail
    refine HR.mono ?_
    rintro e w1 ⟨rfl, hb1⟩
    have hz1 : w.heap.size < w1.heap.size := by have := hb1.size; simp at this; omega
    have HX := Lib.hid (HW.out.trans (hb1.mono (by simp)))
    obtain ⟨hc1, hf1⟩ := bcell hb1
    clear hb1 HW HR
    go_wp2_with fail
    refine bodyPost_ret (v := .tuple #[.agg #[.int .i64 0, .string ⟨#[]⟩, .string ⟨#[]⟩, .int .i64 0, .bool false], .int .i64 0, .int .i64 3]) (by simp [results, Tryd.results58, go_sem, hc1, hz1]) rfl ⟨ret_nx HE.out, ?_⟩
    refine bel_alloc_own ?_
    repeat (refine Below.setCell ?_ (by simp) _)
    exact HX.out
end Go.Proofs.YtciflchaepchiaaDoor.Recs
