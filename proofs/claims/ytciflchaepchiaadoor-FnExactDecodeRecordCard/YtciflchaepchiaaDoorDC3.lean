/- Parts of several texts of mine in one file (each begins with its own remark). -/
import Derived.Test.YtciflchaepchiaaDoorDA2
import Derived.Test.YtciflchaepchiaaDoorDA3
import Derived.Test.YtciflchaepchiaaDoorDA4
import Derived.Test.YtciflchaepchiaaDoorDC1
import Derived.Test.YtciflchaepchiaaDoorDC2
import Derived.Test.YtciflchaepchiaaDoorChecked
import Derived.Test.YtciflchaepchiaaDoorShelf
import Derived.Test.YtciflchaepchiaaDoorProg
import Derived.Test.YtciflchaepchiaaDoorRows
import Derived.Deep.Cut
import Derived.Deep.RegionHeld3
import Derived.Laws.BytesArg
import Derived.Lib.ConvBytes
import Derived.Deep.Slices
import Derived.OpenShut
import Derived.ShutString
import Derived.ChangeArms
import Derived.WideShapes
import Derived.Lib.LaidTab
import Derived.BigQuiet
import Derived.Deep.QuietTactic
import Derived.StillTailTactics
import Derived.Deep.Draws
import Derived.Deep.LoopGhost
import Derived.WalkKit
import Derived.WalkSpells
import Derived.WalkSmall
import Derived.Lib.OthersKept
import Derived.Lib.Hide
import Derived.Lib.Strings
import Derived.Lib.Join
import Derived.WalkLawsBesides
import Derived.Below
import Derived.Shelf.Strings.Builder1
import Derived.Stop.LaidErr
import Derived.Laws.OwnMore
import Derived.BigRegion
import Derived.LaidEql
import Derived.Stop.Asserts
import Derived.Stop.LaidTwo
import Derived.ChangeVars
import Derived.Deep.DeepHandedRow
/- The record at a place of a text, of the model. No condition. -/
namespace Go.Proofs.YtciflchaepchiaaDoor.Recs
set_option maxRecDepth 100000
open Go.RowKit Paths

def rdE (t : List UInt8) (a : Nat) : Int := if fitT (t.drop a) then (a : Int) + (sizT (t.drop a) : Int) else 0
theorem rdE_fit {t : List UInt8} {a : Nat} (h : fitT (t.drop a) = true) : rdE t a = (a : Int) + (sizT (t.drop a) : Int) := if_pos h
theorem rdE_no {t : List UInt8} {a : Nat} (h : fitT (t.drop a) = false) : rdE t a = 0 := if_neg (by rw [h]; decide)
theorem byAt_of (t : ByteArray) {i : Nat} (h : i < t.size) : byAt t.data.toList i = t[i].toNat := byAt_get (by rw [← Lib.size_eq]; exact h)

set_option maxHeartbeats 3200000 in
theorem l09Read_any (t : ByteArray) (a : Nat) (w : World) (ha : a ≤ t.size) (hs : t.size ≤ 1048576) :
    Calls Tryd.prog 30 #[.string t, .int .i64 a] w fun e w' => e = .returned (.tuple #[(raR (t.data.toList.drop a)).val, .int .i64 (rdE t.data.toList a), .bool (fitT (t.data.toList.drop a))]) ∧ Below w.heap.size w w' := by
  have hdl : (t.data.toList.drop a).length = t.size - a := by rw [List.length_drop, ← Lib.size_eq]
  have HB := fun i (h : a + i < t.size) => (byAt_drop t.data.toList a i).trans (byAt_of t h)
  by_cases h1 : a + 2 ≤ t.size
  · have hk := HB 0 (by omega)
    have hn := HB 1 (by omega)
    simp only [Nat.add_zero] at hk
    obtain ⟨k0, hk0⟩ : ∃ k0, t[a].toNat = k0 := ⟨_, rfl⟩
    obtain ⟨n, hn0⟩ : ∃ n, t[a + 1].toNat = n := ⟨_, rfl⟩
    have bk : k0 < 256 := by rw [← hk0]; exact t[a].toNat_lt
    have bn : n < 256 := by rw [← hn0]; exact t[a + 1].toNat_lt
    rw [hk0] at hk
    rw [hn0] at hn
    have hi0 : (0 : Int) ≤ (a : Int) := by omega
    have hi1 : (a : Int) < (t.size : Int) := by omega
    have hi2 : (a : Int) + 1 < (t.size : Int) := by omega
    have hd1 : decide ((t.size : Int) < (a : Int) + 2) = false := decide_eq_false (by omega)
    have hd2 : decide (t.size < a + 2) = false := decide_eq_false (by omega)
    by_cases h2 : n + 5 ≤ t.size - a
    · have hd3 : decide ((t.size : Int) < (a : Int) + 2 + (n : Int) + 3) = false := decide_eq_false (by omega)
      have hm1 := HB (n + 2) (by omega)
      have hm2 := HB (n + 3) (by omega)
      have hc := HB (n + 4) (by omega)
      obtain ⟨m1, hm10⟩ : ∃ m1, (t[a + 2 + n]'(by omega)).toNat = m1 := ⟨_, rfl⟩
      obtain ⟨m2, hm20⟩ : ∃ m2, (t[a + 2 + n + 1]'(by omega)).toNat = m2 := ⟨_, rfl⟩
      obtain ⟨c, hc0⟩ : ∃ c, (t[a + 2 + n + 2]'(by omega)).toNat = c := ⟨_, rfl⟩
      have bm1 : m1 < 256 := by rw [← hm10]; exact UInt8.toNat_lt _
      have bm2 : m2 < 256 := by rw [← hm20]; exact UInt8.toNat_lt _
      have bc : c < 256 := by rw [← hc0]; exact UInt8.toNat_lt _
      have HM1 : Hid (byAt (t.data.toList.drop a) (byAt (t.data.toList.drop a) 1 + 2) = m1) := by show _ = _; rw [hn, hm1, ← hm10]; congr 2; omega
      have HM2 : Hid (byAt (t.data.toList.drop a) (byAt (t.data.toList.drop a) 1 + 3) = m2) := by show _ = _; rw [hn, hm2, ← hm20]; congr 2; omega
      have HC : Hid (byAt (t.data.toList.drop a) (byAt (t.data.toList.drop a) 1 + 4) = c) := by show _ = _; rw [hn, hc, ← hc0]; congr 2; omega
      have HK := Lib.hid hk
      have HN := Lib.hid hn
      have HL := Lib.hid hdl
      have j0 : (a : Int) + 2 ≤ (a : Int) + 2 + (n : Int) := by omega
      have j1 : (a : Int) + 2 + (n : Int) ≤ (t.size : Int) := by omega
      have j2 : (a : Int) + 2 + (n : Int) < (t.size : Int) := by omega
      have j3 : (a : Int) + 2 + (n : Int) + 1 < (t.size : Int) := by omega
      have j4 : (a : Int) + 2 + (n : Int) + 2 < (t.size : Int) := by omega
      have j5 : (0 : Int) ≤ (a : Int) + 2 + (n : Int) := by omega
      have j6 : (0 : Int) ≤ (a : Int) + 2 + (n : Int) + 1 := by omega
      clear hm1 hm2 hc hk hn hdl HB
      have HR0 : Hid (∀ P : ByteArray, RBox ((w.alloc (.cells #[.int .i64 0, .string ⟨#[]⟩, .string ⟨#[]⟩, .int .i64 0, .bool false] 27)).alloc (.cells #[.int .i64 (k0 : Int), .string P, .string ⟨#[]⟩, .int .i64 0, .bool false] 27)) w.heap.size zR ∧ RBox ((w.alloc (.cells #[.int .i64 0, .string ⟨#[]⟩, .string ⟨#[]⟩, .int .i64 0, .bool false] 27)).alloc (.cells #[.int .i64 (k0 : Int), .string P, .string ⟨#[]⟩, .int .i64 0, .bool false] 27)) (w.heap.size + 1) ⟨k0, 0, P, ⟨#[]⟩, false⟩ ∧ Below w.heap.size w ((w.alloc (.cells #[.int .i64 0, .string ⟨#[]⟩, .string ⟨#[]⟩, .int .i64 0, .bool false] 27)).alloc (.cells #[.int .i64 (k0 : Int), .string P, .string ⟨#[]⟩, .int .i64 0, .bool false] 27))) := fun P => by
        have e1 : Below w.heap.size w (w.alloc (.cells #[.int .i64 0, .string ⟨#[]⟩, .string ⟨#[]⟩, .int .i64 0, .bool false] 27)) := (Below.refl _ _).alloc (Nat.le_refl _) _
        have e2 : Below (w.alloc (.cells #[.int .i64 0, .string ⟨#[]⟩, .string ⟨#[]⟩, .int .i64 0, .bool false] 27)).heap.size (w.alloc (.cells #[.int .i64 0, .string ⟨#[]⟩, .string ⟨#[]⟩, .int .i64 0, .bool false] 27)) ((w.alloc (.cells #[.int .i64 0, .string ⟨#[]⟩, .string ⟨#[]⟩, .int .i64 0, .bool false] 27)).alloc (.cells #[.int .i64 (k0 : Int), .string P, .string ⟨#[]⟩, .int .i64 0, .bool false] 27)) := (Below.refl _ _).alloc (Nat.le_refl _) _
        refine ⟨(e2.block _ (by simp)).trans (heap_alloc_new w (.cells #[.int .i64 0, .string ⟨#[]⟩, .string ⟨#[]⟩, .int .i64 0, .bool false] 27)), ?_, e1.trans (e2.mono e1.size)⟩
        have := heap_alloc_new (w.alloc (.cells #[.int .i64 0, .string ⟨#[]⟩, .string ⟨#[]⟩, .int .i64 0, .bool false] 27)) (.cells #[.int .i64 (k0 : Int), .string P, .string ⟨#[]⟩, .int .i64 0, .bool false] 27)
        simpa [RBox] using this
      obtain ⟨P, hP⟩ : ∃ P, t.extract (a + 2) (a + 2 + n) = P := ⟨_, rfl⟩
      have HP : Hid (P.data.toList = ((t.data.toList.drop a).drop 2).take n) := by
        show _ = _
        rw [← hP, ext_take, List.drop_drop]
        congr 1
        omega
      go_enter Tryd.func30, Tryd.ntmps30
      go_wp2_with fail
      (try rw [hP])
      obtain ⟨ho, hr, hbx⟩ := HR0.out P
      generalize (w.alloc (.cells #[.int .i64 0, .string ⟨#[]⟩, .string ⟨#[]⟩, .int .i64 0, .bool false] 27)).alloc (.cells #[.int .i64 (k0 : Int), .string P, .string ⟨#[]⟩, .int .i64 0, .bool false] 27) = X at *
      have bd := (Below.refl X.heap.size X).drew
      have HO := Lib.hid (ho.grown (o := none) (grown_of_below bd) (by simp))
      have HR := Lib.hid (hr.grown (o := none) (grown_of_below bd) (by simp))
      have HX := Lib.hid hbx.drew
      have r1 : IntKind.i64.wrap (m1 : Int) = (m1 : Int) := IntWalk.i64_in _ (by omega)
      have r2 : IntKind.i64.wrap (m2 : Int) = (m2 : Int) := IntWalk.i64_in _ (by omega)
      have r3 : IntKind.i64.wrap (256 * (m1 : Int)) = 256 * (m1 : Int) := IntWalk.i64_in _ (by omega)
      have r4 : IntKind.i64.wrap ((a : Int) + 2 + (n : Int) + 1) = (a : Int) + 2 + (n : Int) + 1 := IntWalk.i64_in _ (by omega)
      have r5 : IntKind.i64.wrap (256 * (m1 : Int) + (m2 : Int)) = 256 * (m1 : Int) + (m2 : Int) := IntWalk.i64_in _ (by omega)
      clear bd ho hr hbx HR0 hP
      go_still_tail 12, (by kernel_rfl)
      change wpList _ _ _ _ _ X.drew
      generalize X.drew = X2 at *
      clear r1 r2 r3 r4 r5
      obtain ⟨p0, p1, p2, p3, p4⟩ := HR.out.cells
      obtain ⟨o0, o1, o2, o3, o4⟩ := HO.out.cells
      have f0 := HR.out.frozen 0
      have f2 := HR.out.frozen 2
      have f3 := HR.out.frozen 3
      have f4 := HR.out.frozen 4
      have g0 := HO.out.frozen 0
      have g1 := HO.out.frozen 1
      have g2 := HO.out.frozen 2
      have g3 := HO.out.frozen 3
      have g4 := HO.out.frozen 4
      by_cases h3 : n + 5 + c ≤ t.size - a
      · have hd4 : decide ((t.size : Int) < (a : Int) + 2 + (n : Int) + 3 + (c : Int)) = false := decide_eq_false (by omega)
        have hsz : sizT (t.data.toList.drop a) = n + 5 + c := by
          unfold sizT
          rw [HC.out, HN.out]
        have hf : fitT (t.data.toList.drop a) = true := fit_of (by rw [HL.out]; omega) (by rw [HL.out, HN.out]; omega) (by rw [HL.out, hsz]; omega)
        have HE := Lib.hid (show raR (t.data.toList.drop a) = recT (t.data.toList.drop a) ∧ rdE t.data.toList a = (a : Int) + (sizT (t.data.toList.drop a) : Int) ∧ fitT (t.data.toList.drop a) = true from ⟨(ra_fit hf).1, rdE_fit hf, hf⟩)
        have HSZ : Hid ((a : Int) + (sizT (t.data.toList.drop a) : Int) = (a : Int) + 2 + (n : Int) + 3 + (c : Int)) := by show _ = _; rw [hsz]; omega
        have q0 : (a : Int) + 2 + (n : Int) + 3 ≤ (a : Int) + 2 + (n : Int) + 3 + (c : Int) := by omega
        have q1 : (a : Int) + 2 + (n : Int) + 3 + (c : Int) ≤ (t.size : Int) := by omega
        have q2 : (0 : Int) ≤ (a : Int) + 2 + (n : Int) + 3 := by omega
        obtain ⟨Y, hY⟩ : ∃ Y, t.extract (a + 2 + n + 3) (a + 2 + n + 3 + c) = Y := ⟨_, rfl⟩
        have HY : Hid (Y.data.toList = ((t.data.toList.drop a).drop (n + 5)).take c) := by
          show _ = _
          rw [← hY, ext_take, List.drop_drop]
          congr 1
          · omega
          · congr 1; omega
        have HREC : Hid (recT (t.data.toList.drop a) = ⟨if k0 = 5 then 3 else k0, 256 * m1 + m2, P, Y, decide (k0 = 5)⟩) := by
          show recT _ = _
          have hp : P = ⟨(((t.data.toList.drop a).drop 2).take n).toArray⟩ := str_of_list (by rw [HP.out])
          have hy : Y = ⟨(((t.data.toList.drop a).drop (n + 5)).take c).toArray⟩ := str_of_list (by rw [HY.out])
          unfold recT
          rw [HM1.out, HM2.out, HC.out, HN.out, HK.out, hp, hy]
        clear hsz hf HL HC HN HK HM1 HM2 HP
        by_cases hk5 : k0 = 5
        · subst hk5
          go_wp2_with fail
          refine bodyPost_ret (v := .tuple #[.agg #[.int .i64 3, .string P, .string Y, .int .i64 (256 * (m1 : Int) + (m2 : Int)), .bool true], .int .i64 ((a : Int) + 2 + (n : Int) + 3 + (c : Int)), .bool true]) (by simp [results, Tryd.results30, go_sem, o0, o1, o2, o3, o4]) rfl ⟨?_, ?_⟩
          · rw [HE.out.1, HE.out.2.1, HE.out.2.2, HREC.out, HSZ.out]
            first
              | rfl
              | (unfold R.val; simp [hk5])
          repeat (refine Below.setCell ?_ (by simp) _)
          exact HX.out
        · have hk6 : ((k0 : Int) == 5) = false := by simp; omega
          go_wp2_with fail
          refine bodyPost_ret (v := .tuple #[.agg #[.int .i64 (k0 : Int), .string P, .string Y, .int .i64 (256 * (m1 : Int) + (m2 : Int)), .bool false], .int .i64 ((a : Int) + 2 + (n : Int) + 3 + (c : Int)), .bool true]) (by simp [results, Tryd.results30, go_sem, o0, o1, o2, o3, o4]) rfl ⟨?_, ?_⟩
          · rw [HE.out.1, HE.out.2.1, HE.out.2.2, HREC.out, HSZ.out]
            first
              | rfl
              | (unfold R.val; simp [hk5])
          repeat (refine Below.setCell ?_ (by simp) _)
          exact HX.out
      · have hd4 : decide ((t.size : Int) < (a : Int) + 2 + (n : Int) + 3 + (c : Int)) = true := decide_eq_true (by omega)
        have hf : fitT (t.data.toList.drop a) = false := fit_no (.inr (.inr (by unfold sizT; rw [HC.out, HN.out, HL.out]; omega)))
        have HE := Lib.hid (show raR (t.data.toList.drop a) = zR ∧ rdE t.data.toList a = 0 ∧ fitT (t.data.toList.drop a) = false from ⟨(ra_no hf).1, rdE_no hf, hf⟩)
        clear hf HL HC HN HK HM1 HM2 HP
        go_wp2_with fail
        refine bodyPost_ret (v := .tuple #[.agg #[.int .i64 0, .string ⟨#[]⟩, .string ⟨#[]⟩, .int .i64 0, .bool false], .int .i64 0, .bool false]) (by simp [results, Tryd.results30, go_sem, o0, o1, o2, o3, o4]) rfl ⟨?_, ?_⟩
        · rw [HE.out.1, HE.out.2.1, HE.out.2.2]
          rfl
        repeat (refine Below.setCell ?_ (by simp) _)
        exact HX.out
    · have hd3 : decide ((t.size : Int) < (a : Int) + 2 + (n : Int) + 3) = true := decide_eq_true (by omega)
      have hf : fitT (t.data.toList.drop a) = false := fit_no (.inr (.inl (by rw [hn]; omega)))
      have HE := Lib.hid (show raR (t.data.toList.drop a) = zR ∧ rdE t.data.toList a = 0 ∧ fitT (t.data.toList.drop a) = false from ⟨(ra_no hf).1, rdE_no hf, hf⟩)
      clear HB hn hk hdl hf h2
      go_enter Tryd.func30, Tryd.ntmps30
      go_wp2_with fail
      refine bodyPost_ret (v := .tuple #[.agg #[.int .i64 0, .string ⟨#[]⟩, .string ⟨#[]⟩, .int .i64 0, .bool false], .int .i64 0, .bool false]) (by simp [results, Tryd.results30, go_sem]) rfl ⟨?_, ?_⟩
      · rw [HE.out.1, HE.out.2.1, HE.out.2.2]
        rfl
      repeat (refine Below.setCell ?_ (by simp) _)
      exact ((Below.refl _ _).alloc (Nat.le_refl _) _).alloc (by simp) _
  · have hf : fitT (t.data.toList.drop a) = false := fit_no (.inl (by omega))
    have HE := Lib.hid (show raR (t.data.toList.drop a) = zR ∧ rdE t.data.toList a = 0 ∧ fitT (t.data.toList.drop a) = false from ⟨(ra_no hf).1, rdE_no hf, hf⟩)
    have hd1 : decide ((t.size : Int) < (a : Int) + 2) = true := decide_eq_true (by omega)
    have hd2 : decide (t.size < a + 2) = true := decide_eq_true (by omega)
    clear HB hdl hf
    go_enter Tryd.func30, Tryd.ntmps30
    go_wp2_with fail
    refine bodyPost_ret (v := .tuple #[.agg #[.int .i64 0, .string ⟨#[]⟩, .string ⟨#[]⟩, .int .i64 0, .bool false], .int .i64 0, .bool false]) (by simp [results, Tryd.results30, go_sem]) rfl ⟨?_, ?_⟩
    · rw [HE.out.1, HE.out.2.1, HE.out.2.2]
      rfl
    repeat (refine Below.setCell ?_ (by simp) _)
    exact (Below.refl _ _).alloc (Nat.le_refl _) _
end Go.Proofs.YtciflchaepchiaaDoor.Recs

/- DecodeRecord of both sides. Condition: the table of kinds. -/
namespace Go.Proofs.YtciflchaepchiaaDoor.Recs
set_option maxRecDepth 100000
open Go.RowKit Paths

def rcV (t : ByteArray) : Value := madeV (recC t) (recT t.data.toList).k (recT t.data.toList).m (recT t.data.toList).p (recT t.data.toList).b (recT t.data.toList).o
theorem bel_alloc_own {w W : World} {x : Obj} (h : Below w.heap.size w W) : Below w.heap.size w (W.alloc x) := h.alloc h.size x
theorem rcV_long {t : ByteArray} (h : 65536 < t.size) : rcV t = .tuple #[.agg #[.int .i64 0, .string ⟨#[]⟩, .string ⟨#[]⟩, .int .i64 0, .bool false], .int .i64 2] := by
  have e : recC t = 2 := if_pos h
  unfold rcV
  rw [e, madeV_no (by decide)]
theorem rcV_form {t : ByteArray} (h1 : ¬ 65536 < t.size) (h : fitT t.data.toList = false ∨ sizT t.data.toList ≠ t.size) : rcV t = .tuple #[.agg #[.int .i64 0, .string ⟨#[]⟩, .string ⟨#[]⟩, .int .i64 0, .bool false], .int .i64 3] := by
  have e : recC t = 3 := by unfold recC; rw [if_neg h1, if_pos h]
  unfold rcV
  rw [e, madeV_no (by decide)]
theorem rcV_made {t : ByteArray} (h1 : ¬ 65536 < t.size) (h2 : fitT t.data.toList = true) (h3 : sizT t.data.toList = t.size) : rcV t = madeV (recT t.data.toList).fault (recT t.data.toList).k (recT t.data.toList).m (recT t.data.toList).p (recT t.data.toList).b (recT t.data.toList).o := by
  have e : recC t = (recT t.data.toList).fault := by unfold recC; rw [if_neg h1, if_neg (by rw [h2, h3]; simp)]
  unfold rcV
  rw [e]
theorem recT_small (t : List UInt8) : (recT t).p.size ≤ 255 ∧ (recT t).b.size ≤ 255 := by
  have b1 : ∀ i, byAt t i ≤ 255 := fun i => by have := byAt_lt t i; omega
  have h1 := b1 1
  have h2 := b1 (byAt t 1 + 4)
  refine ⟨?_, ?_⟩
  · show ((t.drop 2).take (byAt t 1)).toArray.size ≤ 255
    simp; omega
  · show ((t.drop (byAt t 1 + 5)).take (byAt t (byAt t 1 + 4))).toArray.size ≤ 255
    simp; omega

set_option maxHeartbeats 1600000 in
theorem decodeRecord_impl (t : ByteArray) (w : World) (ht : Tab w) :
    Calls Tryd.prog 13 #[.string t] w fun e w' => e = .returned (rcV t) ∧ Below w.heap.size w w' := by
  by_cases h1 : 65536 < t.size
  · have HR := Lib.hid (rcV_long h1)
    have hd : decide ((65536 : Int) < (t.size : Int)) = true := by simp; omega
    go_enter Tryd.func13, Tryd.ntmps13
    go_wp2_with (go_at_call 32; refine (longText_any _ _).mono ?_; rintro e w1 ⟨rfl, rfl⟩)
    refine bodyPost_ret (v := .tuple #[.agg #[.int .i64 0, .string ⟨#[]⟩, .string ⟨#[]⟩, .int .i64 0, .bool false], .int .i64 2]) (by simp [results, Tryd.results13, go_sem]) rfl ⟨?_, ?_⟩
    · rw [HR.out]
    repeat (refine Below.setCell ?_ (by simp) _)
    exact (Below.refl _ _).alloc (Nat.le_refl _) _
  have hd1 : decide ((65536 : Int) < (t.size : Int)) = false := by simp; omega
  have HW : Hid (Below w.heap.size w (w.alloc (.cells #[.int .i64 0, .string ⟨#[]⟩, .string ⟨#[]⟩, .int .i64 0, .bool false] 27))) := (Below.refl _ _).alloc (Nat.le_refl _) _
  by_cases h2 : fitT t.data.toList = true
  · have h3 : sizT t.data.toList ≤ t.size := by
      have := (fit_sizes h2).2.2
      rwa [← Lib.size_eq] at this
    have h5 : 0 < sizT t.data.toList := by unfold sizT; omega
    have e0 : (((sizT t.data.toList : Nat) : Int) == 0) = false := by simp; omega
    have HA := Lib.hid (ra_fit h2)
    have HM1 := Lib.hid (fun h3 => rcV_made h1 h2 h3)
    have HM0 := Lib.hid (fun h3 => rcV_form h1 (.inr h3))
    have hsm := recT_small t.data.toList
    have HF : Hid ((recT t.data.toList).fault = makeC (recT t.data.toList).k (recT t.data.toList).m (recT t.data.toList).p (recT t.data.toList).b (recT t.data.toList).o) := (makeC_short (by omega) (by omega)).symm
    have hps : (recT t.data.toList).p.size ≤ maxLen := by have : maxLen = 18014398509481983 ∨ 255 ≤ maxLen := by first | (right; decide) | (right; unfold maxLen; omega)
                                                          rcases this with h | h <;> omega
    have HR := recordAt_any t (w.alloc (.cells #[.int .i64 0, .string ⟨#[]⟩, .string ⟨#[]⟩, .int .i64 0, .bool false] 27))
    rw [HA.out.1, HA.out.2] at HR
    obtain ⟨z, hz0⟩ : ∃ z, sizT t.data.toList = z := ⟨_, rfl⟩
    rw [hz0] at h3 h5 e0 HR HM1 HM0
    clear hsm HA hz0 h2
    generalize recT t.data.toList = r at *
    obtain ⟨k, m, p, b, o⟩ := r
    simp only at HF HM1 hps
    unfold R.val at HR
    simp only at HR
    by_cases h4 : z = t.size
    · have hd4 : decide ((z : Int) < (t.size : Int)) = false := decide_eq_false (by omega)
      have HM := Lib.hid (HM1.out h4)
      have hd5 : decide (z < t.size) = false := decide_eq_false (by omega)
      clear HM0 HM1 h3 h4
      go_enter Tryd.func13, Tryd.ntmps13
      go_wp2_with (go_at_call 32; refine (longText_any _ _).mono ?_; rintro e w1 ⟨rfl, rfl⟩)
      refine HR.mono ?_
      rintro e w1 ⟨rfl, hb1⟩
      have hz1 : w.heap.size < w1.heap.size := by have := hb1.size; simp at this; omega
      have HX := Lib.hid (HW.out.trans (hb1.mono (by simp)))
      obtain ⟨hc1, hf1⟩ := bcell hb1
      clear hb1 HW HR
      have HT : Hid (Tab w1) := ht.below HX.out (Nat.le_refl _)
      go_wp2_with fail
      have hbx := (Below.refl w1.heap.size w1).alloc (Nat.le_refl _) (.cells #[.int .i64 k, .string p, .string b, .int .i64 m, .bool o] 27)
      refine (makeRecord_any k m p b o _ hps (HT.out.below hbx (Nat.le_refl _))).mono ?_
      rintro e w2 ⟨rfl, hb2⟩
      have HY := Lib.hid (HX.out.trans ((hbx.trans (hb2.mono (by simp))).mono (by omega)))
      clear hbx HX HT
      obtain ⟨hc2, hf2⟩ := bcell hb2
      have hz1' : w.heap.size < w1.heap.size + 1 := by omega
      clear hb2
      unfold madeV
      rw [← HF.out]
      generalize HFa : (⟨k, m, p, b, o⟩ : R).fault = c at *
      go_wp2_with fail
      refine bodyPost_ret (v := .tuple #[.agg #[.int .i64 (zI c k), .string (zS c p), .string (zS c b), .int .i64 (zI c m), .bool (zB c o)], .int .i64 c]) (by simp [results, Tryd.results13, go_sem, hc1, hz1, hc2, hz1']) rfl ⟨?_, ?_⟩
      · rw [HM.out]; rfl
      repeat (refine Below.setCell ?_ (by simp) _)
      exact HY.out
    · have hd4 : decide ((z : Int) < (t.size : Int)) = true := decide_eq_true (by omega)
      have HM := Lib.hid (HM0.out h4)
      have hd5 : decide (z < t.size) = true := decide_eq_true (by omega)
      clear HM0 HM1 h3 h4
      go_enter Tryd.func13, Tryd.ntmps13
      go_wp2_with (go_at_call 32; refine (longText_any _ _).mono ?_; rintro e w1 ⟨rfl, rfl⟩)
      refine HR.mono ?_
      rintro e w1 ⟨rfl, hb1⟩
      have hz1 : w.heap.size < w1.heap.size := by have := hb1.size; simp at this; omega
      have HX := Lib.hid (HW.out.trans (hb1.mono (by simp)))
      obtain ⟨hc1, hf1⟩ := bcell hb1
      clear hb1 HW HR
      go_wp2_with fail
      refine bodyPost_ret (v := .tuple #[.agg #[.int .i64 0, .string ⟨#[]⟩, .string ⟨#[]⟩, .int .i64 0, .bool false], .int .i64 3]) (by simp [results, Tryd.results13, go_sem, hc1, hz1]) rfl ⟨?_, ?_⟩
      · rw [HM.out]
      refine bel_alloc_own ?_
      repeat (refine Below.setCell ?_ (by simp) _)
      exact HX.out
  · have hf : fitT t.data.toList = false := by simpa using h2
    have HM := Lib.hid (rcV_form h1 (.inl hf))
    have HR := recordAt_any t (w.alloc (.cells #[.int .i64 0, .string ⟨#[]⟩, .string ⟨#[]⟩, .int .i64 0, .bool false] 27))
    rw [(ra_no hf).1, (ra_no hf).2, zero_eq] at HR
    unfold R.val at HR
    simp only at HR
    clear h2 hf
    go_enter Tryd.func13, Tryd.ntmps13
    go_wp2_with (go_at_call 32; refine (longText_any _ _).mono ?_; rintro e w1 ⟨rfl, rfl⟩)
    refine HR.mono ?_
    rintro e w1 ⟨rfl, hb1⟩
    have hz1 : w.heap.size < w1.heap.size := by have := hb1.size; simp at this; omega
    have HX := Lib.hid (HW.out.trans (hb1.mono (by simp)))
    obtain ⟨hc1, hf1⟩ := bcell hb1
    clear hb1 HW HR
    go_wp2_with fail
    refine bodyPost_ret (v := .tuple #[.agg #[.int .i64 0, .string ⟨#[]⟩, .string ⟨#[]⟩, .int .i64 0, .bool false], .int .i64 3]) (by simp [results, Tryd.results13, go_sem, hc1, hz1]) rfl ⟨?_, ?_⟩
    · rw [HM.out]
    refine bel_alloc_own ?_
    repeat (refine Below.setCell ?_ (by simp) _)
    exact HX.out

theorem l09Read_zero (t : ByteArray) (w : World) (hs : t.size ≤ 1048576) :
    Calls Tryd.prog 30 #[.string t, .int .i64 0] w fun e w' => e = .returned (.tuple #[(raR t.data.toList).val, .int .i64 (raN t.data.toList), .bool (fitT t.data.toList)]) ∧ Below w.heap.size w w' := by
  have h := l09Read_any t 0 w (Nat.zero_le _) hs
  have e : rdE t.data.toList 0 = raN t.data.toList := by unfold rdE raN; simp
  rw [e, List.drop_zero] at h
  exact h

set_option maxHeartbeats 1600000 in
theorem decodeRecord_spec (t : ByteArray) (w : World) (hs : t.size ≤ 1048576) :
    Calls Tryd.prog 12 #[.string t] w fun e w' => e = .returned (rcV t) ∧ Below w.heap.size w w' := by
  by_cases h1 : 65536 < t.size
  · have HR := Lib.hid (rcV_long h1)
    have hd : decide ((65536 : Int) < (t.size : Int)) = true := by simp; omega
    go_enter Tryd.func12, Tryd.ntmps12
    go_wp2_with fail
    refine bodyPost_ret (v := .tuple #[.agg #[.int .i64 0, .string ⟨#[]⟩, .string ⟨#[]⟩, .int .i64 0, .bool false], .int .i64 2]) (by simp [results, Tryd.results12, go_sem]) rfl ⟨?_, ?_⟩
    · rw [HR.out]
    repeat (refine Below.setCell ?_ (by simp) _)
    exact (Below.refl _ _).alloc (Nat.le_refl _) _
  have hd1 : decide ((65536 : Int) < (t.size : Int)) = false := by simp; omega
  have HW : Hid (Below w.heap.size w (w.alloc (.cells #[.int .i64 0, .string ⟨#[]⟩, .string ⟨#[]⟩, .int .i64 0, .bool false] 27))) := (Below.refl _ _).alloc (Nat.le_refl _) _
  have HR := l09Read_zero t (w.alloc (.cells #[.int .i64 0, .string ⟨#[]⟩, .string ⟨#[]⟩, .int .i64 0, .bool false] 27)) hs
  by_cases h2 : fitT t.data.toList = true
  · have HA := Lib.hid (ra_fit h2)
    have HM1 := Lib.hid (fun h3 => rcV_made h1 h2 h3)
    have HM0 := Lib.hid (fun h3 => rcV_form h1 (.inr h3))
    rw [HA.out.1, HA.out.2, h2] at HR
    obtain ⟨z, hz0⟩ : ∃ z, sizT t.data.toList = z := ⟨_, rfl⟩
    rw [hz0] at HR HM1 HM0
    clear HA hz0 h2
    obtain ⟨r, hr0⟩ : ∃ r, recT t.data.toList = r := ⟨_, rfl⟩
    rw [hr0] at HM1 HR
    clear hr0
    obtain ⟨k, m, p, b, o⟩ := r
    simp only at HM1
    unfold R.val at HR
    simp only at HR
    by_cases h4 : z = t.size
    · have HM := Lib.hid (HM1.out h4)
      have hd4 : ((z : Int) != (t.size : Int)) = false := by rw [h4]; simp
      have hd5 : (z != t.size) = false := by rw [h4]; simp
      clear HM0 HM1 h4
      go_enter Tryd.func12, Tryd.ntmps12
      go_wp2_with fail
      refine HR.mono ?_
      rintro e w1 ⟨rfl, hb1⟩
      have hz1 : w.heap.size < w1.heap.size := by have := hb1.size; simp at this; omega
      have HX := Lib.hid (HW.out.trans (hb1.mono (by simp)))
      obtain ⟨hc1, hf1⟩ := bcell hb1
      clear hb1 HW HR
      go_wp2_with fail
      have hbx := (Below.refl w1.heap.size w1).alloc (Nat.le_refl _) (.cells #[.int .i64 k, .string p, .string b, .int .i64 m, .bool o] 27)
      refine (l02Fault_any k m p b o _).mono ?_
      rintro e w2 ⟨rfl, hb2⟩
      have HY := Lib.hid (HX.out.trans ((hbx.trans (hb2.mono (by simp))).mono (by omega)))
      clear hbx HX
      obtain ⟨hc2, hf2⟩ := bcell hb2
      have hz1' : w.heap.size < w1.heap.size + 1 := by omega
      clear hb2
      replace HM : Hid (rcV t = madeV (faultI k p.data.toList b.size m o) k m p b o) := HM
      generalize faultI k p.data.toList b.size m o = c at *
      by_cases hc0 : c = 0
      · subst hc0
        go_wp2_with fail
        refine bodyPost_ret (v := .tuple #[.agg #[.int .i64 k, .string p, .string b, .int .i64 m, .bool o], .int .i64 0]) (by simp [results, Tryd.results12, go_sem, hc1, hz1, hc2, hz1']) rfl ⟨?_, ?_⟩
        · rw [HM.out, madeV_yes]
        repeat (refine Below.setCell ?_ (by simp) _)
        exact HY.out
      · have hne : (c != 0) = true := by simpa using hc0
        have HC0 := Lib.hid hc0
        clear hc0
        go_wp2_with fail
        refine bodyPost_ret (v := .tuple #[.agg #[.int .i64 0, .string ⟨#[]⟩, .string ⟨#[]⟩, .int .i64 0, .bool false], .int .i64 c]) (by simp [results, Tryd.results12, go_sem, hc1, hz1, hc2, hz1']) rfl ⟨?_, ?_⟩
        · rw [HM.out, madeV_no HC0.out]
        repeat (refine Below.setCell ?_ (by simp) _)
        exact HY.out
    · have HM := Lib.hid (HM0.out h4)
      have hd4 : ((z : Int) != (t.size : Int)) = true := by simp; omega
      have hd5 : (z != t.size) = true := by simpa using h4
      clear HM0 HM1 h4
      go_enter Tryd.func12, Tryd.ntmps12
      go_wp2_with fail
      refine HR.mono ?_
      rintro e w1 ⟨rfl, hb1⟩
      have hz1 : w.heap.size < w1.heap.size := by have := hb1.size; simp at this; omega
      have HX := Lib.hid (HW.out.trans (hb1.mono (by simp)))
      obtain ⟨hc1, hf1⟩ := bcell hb1
      clear hb1 HW HR
      go_wp2_with fail
      refine bodyPost_ret (v := .tuple #[.agg #[.int .i64 0, .string ⟨#[]⟩, .string ⟨#[]⟩, .int .i64 0, .bool false], .int .i64 3]) (by simp [results, Tryd.results12, go_sem, hc1, hz1]) rfl ⟨?_, ?_⟩
      · rw [HM.out]
      refine bel_alloc_own ?_
      repeat (refine Below.setCell ?_ (by simp) _)
      exact HX.out
  · have hf : fitT t.data.toList = false := by simpa using h2
    have HM := Lib.hid (rcV_form h1 (.inl hf))
    rw [(ra_no hf).1, (ra_no hf).2, hf, zero_eq] at HR
    unfold R.val at HR
    simp only at HR
    clear h2 hf
    go_enter Tryd.func12, Tryd.ntmps12
    go_wp2_with fail
    refine HR.mono ?_
    rintro e w1 ⟨rfl, hb1⟩
    have hz1 : w.heap.size < w1.heap.size := by have := hb1.size; simp at this; omega
    have HX := Lib.hid (HW.out.trans (hb1.mono (by simp)))
    obtain ⟨hc1, hf1⟩ := bcell hb1
    clear hb1 HW HR
    go_wp2_with fail
    refine bodyPost_ret (v := .tuple #[.agg #[.int .i64 0, .string ⟨#[]⟩, .string ⟨#[]⟩, .int .i64 0, .bool false], .int .i64 3]) (by simp [results, Tryd.results12, go_sem, hc1, hz1]) rfl ⟨?_, ?_⟩
    · rw [HM.out]
    refine bel_alloc_own ?_
    repeat (refine Below.setCell ?_ (by simp) _)
    exact HX.out
end Go.Proofs.YtciflchaepchiaaDoor.Recs
