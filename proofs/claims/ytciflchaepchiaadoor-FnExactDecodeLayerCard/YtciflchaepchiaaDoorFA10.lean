/- Parts of several texts of mine in one file (each begins with its own remark). -/
import Derived.Test.YtciflchaepchiaaDoorFA2
import Derived.Test.YtciflchaepchiaaDoorFA3
import Derived.Test.YtciflchaepchiaaDoorFA4
import Derived.Test.YtciflchaepchiaaDoorFA5
import Derived.Test.YtciflchaepchiaaDoorFA6
import Derived.Test.YtciflchaepchiaaDoorFA7
import Derived.Test.YtciflchaepchiaaDoorFA8
import Derived.Test.YtciflchaepchiaaDoorFA9
import Derived.Test.YtciflchaepchiaaDoorChecked
import Derived.Test.YtciflchaepchiaaDoorShelf
import Derived.Test.YtciflchaepchiaaDoorProg
import Derived.Test.YtciflchaepchiaaDoorRows
import Derived.Deep.Cut
import Derived.Deep.RegionHeld3
import Derived.Laws.BytesArg
import Derived.Lib.ConvBytes
import Derived.Deep.Slices
import Derived.OpenShut
import Derived.ShutString
import Derived.ChangeArms
import Derived.WideShapes
import Derived.Lib.LaidTab
import Derived.BigQuiet
import Derived.Deep.QuietTactic
import Derived.StillTailTactics
import Derived.Deep.Draws
import Derived.Deep.LoopGhost
import Derived.WalkKit
import Derived.WalkSpells
import Derived.WalkSmall
import Derived.Lib.OthersKept
import Derived.Lib.Hide
import Derived.Lib.Strings
import Derived.Lib.Join
import Derived.WalkLawsBesides
import Derived.Below
import Derived.Shelf.Strings.Builder1
import Derived.Stop.LaidErr
import Derived.Laws.OwnMore
import Derived.BigRegion
import Derived.LaidEql
import Derived.Stop.Asserts
import Derived.Stop.LaidTwo
import Derived.ChangeVars
import Derived.Deep.DeepHandedRow
/- The record at a place of a text, of the model. No condition. -/
namespace Go.Proofs.YtciflchaepchiaaDoor.Recs
set_option maxRecDepth 100000
open Go.RowKit Paths

def rdE (t : List UInt8) (a : Nat) : Int := if fitT (t.drop a) then (a : Int) + (sizT (t.drop a) : Int) else 0
theorem rdE_fit {t : List UInt8} {a : Nat} (h : fitT (t.drop a) = true) : rdE t a = (a : Int) + (sizT (t.drop a) : Int) := if_pos h
theorem rdE_no {t : List UInt8} {a : Nat} (h : fitT (t.drop a) = false) : rdE t a = 0 := if_neg (by rw [h]; decide)
theorem byAt_of (t : ByteArray) {i : Nat} (h : i < t.size) : byAt t.data.toList i = t[i].toNat := byAt_get (by rw [← Lib.size_eq]; exact h)

set_option maxHeartbeats 3200000 in
theorem l09Read_any (t : ByteArray) (a : Nat) (w : World) (ha : a ≤ t.size) (hs : t.size ≤ 1048576) :
    Calls Tryd.prog 30 #[.string t, .int .i64 a] w fun e w' => e = .returned (.tuple #[(raR (t.data.toList.drop a)).val, .int .i64 (rdE t.data.toList a), .bool (fitT (t.data.toList.drop a))]) ∧ Below w.heap.size w w' := by
  have hdl : (t.data.toList.drop a).length = t.size - a := by rw [List.length_drop, ← Lib.size_eq]
  have HB := fun i (h : a + i < t.size) => (byAt_drop t.data.toList a i).trans (byAt_of t h)
  by_cases h1 : a + 2 ≤ t.size
  · have hk := HB 0 (by omega)
    have hn := HB 1 (by omega)
    simp only [Nat.add_zero] at hk
    obtain ⟨k0, hk0⟩ : ∃ k0, t[a].toNat = k0 := ⟨_, rfl⟩
    obtain ⟨n, hn0⟩ : ∃ n, t[a + 1].toNat = n := ⟨_, rfl⟩
    have bk : k0 < 256 := by rw [← hk0]; exact t[a].toNat_lt
    have bn : n < 256 := by rw [← hn0]; exact t[a + 1].toNat_lt
    rw [hk0] at hk
    rw [hn0] at hn
    have hi0 : (0 : Int) ≤ (a : Int) := by omega
    have hi1 : (a : Int) < (t.size : Int) := by omega
    have hi2 : (a : Int) + 1 < (t.size : Int) := by omega
    have hd1 : decide ((t.size : Int) < (a : Int) + 2) = false := decide_eq_false (by omega)
    have hd2 : decide (t.size < a + 2) = false := decide_eq_false (by omega)
    by_cases h2 : n + 5 ≤ t.size - a
    · have hd3 : decide ((t.size : Int) < (a : Int) + 2 + (n : Int) + 3) = false := decide_eq_false (by omega)
      have hm1 := HB (n + 2) (by omega)
      have hm2 := HB (n + 3) (by omega)
      have hc := HB (n + 4) (by omega)
      obtain ⟨m1, hm10⟩ : ∃ m1, (t[a + 2 + n]'(by omega)).toNat = m1 := ⟨_, rfl⟩
      obtain ⟨m2, hm20⟩ : ∃ m2, (t[a + 2 + n + 1]'(by omega)).toNat = m2 := ⟨_, rfl⟩
      obtain ⟨c, hc0⟩ : ∃ c, (t[a + 2 + n + 2]'(by omega)).toNat = c := ⟨_, rfl⟩
      have bm1 : m1 < 256 := by rw [← hm10]; exact UInt8.toNat_lt _
      have bm2 : m2 < 256 := by rw [← hm20]; exact UInt8.toNat_lt _
      have bc : c < 256 := by rw [← hc0]; exact UInt8.toNat_lt _
      have HM1 : Hid (byAt (t.data.toList.drop a) (byAt (t.data.toList.drop a) 1 + 2) = m1) := by show _ = _; rw [hn, hm1, ← hm10]; congr 2; omega
      have HM2 : Hid (byAt (t.data.toList.drop a) (byAt (t.data.toList.drop a) 1 + 3) = m2) := by show _ = _; rw [hn, hm2, ← hm20]; congr 2; omega
      have HC : Hid (byAt (t.data.toList.drop a) (byAt (t.data.toList.drop a) 1 + 4) = c) := by show _ = _; rw [hn, hc, ← hc0]; congr 2; omega
      have HK := Lib.hid hk
      have HN := Lib.hid hn
      have HL := Lib.hid hdl
      have j0 : (a : Int) + 2 ≤ (a : Int) + 2 + (n : Int) := by omega
      have j1 : (a : Int) + 2 + (n : Int) ≤ (t.size : Int) := by omega
      have j2 : (a : Int) + 2 + (n : Int) < (t.size : Int) := by omega
      have j3 : (a : Int) + 2 + (n : Int) + 1 < (t.size : Int) := by omega
      have j4 : (a : Int) + 2 + (n : Int) + 2 < (t.size : Int) := by omega
      have j5 : (0 : Int) ≤ (a : Int) + 2 + (n : Int) := by omega
      have j6 : (0 : Int) ≤ (a : Int) + 2 + (n : Int) + 1 := by omega
      clear hm1 hm2 hc hk hn hdl HB
      have HR0 : Hid (∀ P : ByteArray, RBox ((w.alloc (.cells #[.int .i64 0, .string ⟨#[]⟩, .string ⟨#[]⟩, .int .i64 0, .bool false] 27)).alloc (.cells #[.int .i64 (k0 : Int), .string P, .string ⟨#[]⟩, .int .i64 0, .bool false] 27)) w.heap.size zR ∧ RBox ((w.alloc (.cells #[.int .i64 0, .string ⟨#[]⟩, .string ⟨#[]⟩, .int .i64 0, .bool false] 27)).alloc (.cells #[.int .i64 (k0 : Int), .string P, .string ⟨#[]⟩, .int .i64 0, .bool false] 27)) (w.heap.size + 1) ⟨k0, 0, P, ⟨#[]⟩, false⟩ ∧ Below w.heap.size w ((w.alloc (.cells #[.int .i64 0, .string ⟨#[]⟩, .string ⟨#[]⟩, .int .i64 0, .bool false] 27)).alloc (.cells #[.int .i64 (k0 : Int), .string P, .string ⟨#[]⟩, .int .i64 0, .bool false] 27))) := fun P => by
        have e1 : Below w.heap.size w (w.alloc (.cells #[.int .i64 0, .string ⟨#[]⟩, .string ⟨#[]⟩, .int .i64 0, .bool false] 27)) := (Below.refl _ _).alloc (Nat.le_refl _) _
        have e2 : Below (w.alloc (.cells #[.int .i64 0, .string ⟨#[]⟩, .string ⟨#[]⟩, .int .i64 0, .bool false] 27)).heap.size (w.alloc (.cells #[.int .i64 0, .string ⟨#[]⟩, .string ⟨#[]⟩, .int .i64 0, .bool false] 27)) ((w.alloc (.cells #[.int .i64 0, .string ⟨#[]⟩, .string ⟨#[]⟩, .int .i64 0, .bool false] 27)).alloc (.cells #[.int .i64 (k0 : Int), .string P, .string ⟨#[]⟩, .int .i64 0, .bool false] 27)) := (Below.refl _ _).alloc (Nat.le_refl _) _
        refine ⟨(e2.block _ (by simp)).trans (heap_alloc_new w (.cells #[.int .i64 0, .string ⟨#[]⟩, .string ⟨#[]⟩, .int .i64 0, .bool false] 27)), ?_, e1.trans (e2.mono e1.size)⟩
        have := heap_alloc_new (w.alloc (.cells #[.int .i64 0, .string ⟨#[]⟩, .string ⟨#[]⟩, .int .i64 0, .bool false] 27)) (.cells #[.int .i64 (k0 : Int), .string P, .string ⟨#[]⟩, .int .i64 0, .bool false] 27)
        simpa [RBox] using this
      obtain ⟨P, hP⟩ : ∃ P, t.extract (a + 2) (a + 2 + n) = P := ⟨_, rfl⟩
      have HP : Hid (P.data.toList = ((t.data.toList.drop a).drop 2).take n) := by
        show _ = _
        rw [← hP, ext_take, List.drop_drop]
        congr 1
        omega
      go_enter Tryd.func30, Tryd.ntmps30
      go_wp2_with fail
      (try rw [hP])
      obtain ⟨ho, hr, hbx⟩ := HR0.out P
      generalize (w.alloc (.cells #[.int .i64 0, .string ⟨#[]⟩, .string ⟨#[]⟩, .int .i64 0, .bool false] 27)).alloc (.cells #[.int .i64 (k0 : Int), .string P, .string ⟨#[]⟩, .int .i64 0, .bool false] 27) = X at *
      have bd := (Below.refl X.heap.size X).drew
      have HO := Lib.hid (ho.grown (o := none) (grown_of_below bd) (by simp))
      have HR := Lib.hid (hr.grown (o := none) (grown_of_below bd) (by simp))
      have HX := Lib.hid hbx.drew
      have r1 : IntKind.i64.wrap (m1 : Int) = (m1 : Int) := IntWalk.i64_in _ (by omega)
      have r2 : IntKind.i64.wrap (m2 : Int) = (m2 : Int) := IntWalk.i64_in _ (by omega)
      have r3 : IntKind.i64.wrap (256 * (m1 : Int)) = 256 * (m1 : Int) := IntWalk.i64_in _ (by omega)
      have r4 : IntKind.i64.wrap ((a : Int) + 2 + (n : Int) + 1) = (a : Int) + 2 + (n : Int) + 1 := IntWalk.i64_in _ (by omega)
      have r5 : IntKind.i64.wrap (256 * (m1 : Int) + (m2 : Int)) = 256 * (m1 : Int) + (m2 : Int) := IntWalk.i64_in _ (by omega)
      clear bd ho hr hbx HR0 hP
      go_still_tail 12, (by kernel_rfl)
      change wpList _ _ _ _ _ X.drew
      generalize X.drew = X2 at *
      clear r1 r2 r3 r4 r5
      obtain ⟨p0, p1, p2, p3, p4⟩ := HR.out.cells
      obtain ⟨o0, o1, o2, o3, o4⟩ := HO.out.cells
      have f0 := HR.out.frozen 0
      have f2 := HR.out.frozen 2
      have f3 := HR.out.frozen 3
      have f4 := HR.out.frozen 4
      have g0 := HO.out.frozen 0
      have g1 := HO.out.frozen 1
      have g2 := HO.out.frozen 2
      have g3 := HO.out.frozen 3
      have g4 := HO.out.frozen 4
      by_cases h3 : n + 5 + c ≤ t.size - a
      · have hd4 : decide ((t.size : Int) < (a : Int) + 2 + (n : Int) + 3 + (c : Int)) = false := decide_eq_false (by omega)
        have hsz : sizT (t.data.toList.drop a) = n + 5 + c := by
          unfold sizT
          rw [HC.out, HN.out]
        have hf : fitT (t.data.toList.drop a) = true := fit_of (by rw [HL.out]; omega) (by rw [HL.out, HN.out]; omega) (by rw [HL.out, hsz]; omega)
        have HE := Lib.hid (show raR (t.data.toList.drop a) = recT (t.data.toList.drop a) ∧ rdE t.data.toList a = (a : Int) + (sizT (t.data.toList.drop a) : Int) ∧ fitT (t.data.toList.drop a) = true from ⟨(ra_fit hf).1, rdE_fit hf, hf⟩)
        have HSZ : Hid ((a : Int) + (sizT (t.data.toList.drop a) : Int) = (a : Int) + 2 + (n : Int) + 3 + (c : Int)) := by show _ = _; rw [hsz]; omega
        have q0 : (a : Int) + 2 + (n : Int) + 3 ≤ (a : Int) + 2 + (n : Int) + 3 + (c : Int) := by omega
        have q1 : (a : Int) + 2 + (n : Int) + 3 + (c : Int) ≤ (t.size : Int) := by omega
        have q2 : (0 : Int) ≤ (a : Int) + 2 + (n : Int) + 3 := by omega
        obtain ⟨Y, hY⟩ : ∃ Y, t.extract (a + 2 + n + 3) (a + 2 + n + 3 + c) = Y := ⟨_, rfl⟩
        have HY : Hid (Y.data.toList = ((t.data.toList.drop a).drop (n + 5)).take c) := by
          show _ = _
          rw [← hY, ext_take, List.drop_drop]
          congr 1
          · omega
          · congr 1; omega
        have HREC : Hid (recT (t.data.toList.drop a) = ⟨if k0 = 5 then 3 else k0, 256 * m1 + m2, P, Y, decide (k0 = 5)⟩) := by
          show recT _ = _
          have hp : P = ⟨(((t.data.toList.drop a).drop 2).take n).toArray⟩ := str_of_list (by rw [HP.out])
          have hy : Y = ⟨(((t.data.toList.drop a).drop (n + 5)).take c).toArray⟩ := str_of_list (by rw [HY.out])
          unfold recT
          rw [HM1.out, HM2.out, HC.out, HN.out, HK.out, hp, hy]
        clear hsz hf HL HC HN HK HM1 HM2 HP
        by_cases hk5 : k0 = 5
        · subst hk5
          go_wp2_with fail
          refine bodyPost_ret (v := .tuple #[.agg #[.int .i64 3, .string P, .string Y, .int .i64 (256 * (m1 : Int) + (m2 : Int)), .bool true], .int .i64 ((a : Int) + 2 + (n : Int) + 3 + (c : Int)), .bool true]) (by simp [results, Tryd.results30, go_sem, o0, o1, o2, o3, o4]) rfl ⟨?_, ?_⟩
          · rw [HE.out.1, HE.out.2.1, HE.out.2.2, HREC.out, HSZ.out]
            first
              | rfl
              | (unfold R.val; simp [hk5])
          repeat (refine Below.setCell ?_ (by simp) _)
          exact HX.out
        · have hk6 : ((k0 : Int) == 5) = false := by simp; omega
          go_wp2_with fail
          refine bodyPost_ret (v := .tuple #[.agg #[.int .i64 (k0 : Int), .string P, .string Y, .int .i64 (256 * (m1 : Int) + (m2 : Int)), .bool false], .int .i64 ((a : Int) + 2 + (n : Int) + 3 + (c : Int)), .bool true]) (by simp [results, Tryd.results30, go_sem, o0, o1, o2, o3, o4]) rfl ⟨?_, ?_⟩
          · rw [HE.out.1, HE.out.2.1, HE.out.2.2, HREC.out, HSZ.out]
            first
              | rfl
              | (unfold R.val; simp [hk5])
          repeat (refine Below.setCell ?_ (by simp) _)
          exact HX.out
      · have hd4 : decide ((t.size : Int) < (a : Int) + 2 + (n : Int) + 3 + (c : Int)) = true := decide_eq_true (by omega)
        have hf : fitT (t.data.toList.drop a) = false := fit_no (.inr (.inr (by unfold sizT; rw [HC.out, HN.out, HL.out]; omega)))
        have HE := Lib.hid (show raR (t.data.toList.drop a) = zR ∧ rdE t.data.toList a = 0 ∧ fitT (t.data.toList.drop a) = false from ⟨(ra_no hf).1, rdE_no hf, hf⟩)
        clear hf HL HC HN HK HM1 HM2 HP
        go_wp2_with fail
        refine bodyPost_ret (v := .tuple #[.agg #[.int .i64 0, .string ⟨#[]⟩, .string ⟨#[]⟩, .int .i64 0, .bool false], .int .i64 0, .bool false]) (by simp [results, Tryd.results30, go_sem, o0, o1, o2, o3, o4]) rfl ⟨?_, ?_⟩
        · rw [HE.out.1, HE.out.2.1, HE.out.2.2]
          rfl
        repeat (refine Below.setCell ?_ (by simp) _)
        exact HX.out
    · have hd3 : decide ((t.size : Int) < (a : Int) + 2 + (n : Int) + 3) = true := decide_eq_true (by omega)
      have hf : fitT (t.data.toList.drop a) = false := fit_no (.inr (.inl (by rw [hn]; omega)))
      have HE := Lib.hid (show raR (t.data.toList.drop a) = zR ∧ rdE t.data.toList a = 0 ∧ fitT (t.data.toList.drop a) = false from ⟨(ra_no hf).1, rdE_no hf, hf⟩)
      clear HB hn hk hdl hf h2
      go_enter Tryd.func30, Tryd.ntmps30
      go_wp2_with fail
      refine bodyPost_ret (v := .tuple #[.agg #[.int .i64 0, .string ⟨#[]⟩, .string ⟨#[]⟩, .int .i64 0, .bool false], .int .i64 0, .bool false]) (by simp [results, Tryd.results30, go_sem]) rfl ⟨?_, ?_⟩
      · rw [HE.out.1, HE.out.2.1, HE.out.2.2]
        rfl
      repeat (refine Below.setCell ?_ (by simp) _)
      exact ((Below.refl _ _).alloc (Nat.le_refl _) _).alloc (by simp) _
  · have hf : fitT (t.data.toList.drop a) = false := fit_no (.inl (by omega))
    have HE := Lib.hid (show raR (t.data.toList.drop a) = zR ∧ rdE t.data.toList a = 0 ∧ fitT (t.data.toList.drop a) = false from ⟨(ra_no hf).1, rdE_no hf, hf⟩)
    have hd1 : decide ((t.size : Int) < (a : Int) + 2) = true := decide_eq_true (by omega)
    have hd2 : decide (t.size < a + 2) = true := decide_eq_true (by omega)
    clear HB hdl hf
    go_enter Tryd.func30, Tryd.ntmps30
    go_wp2_with fail
    refine bodyPost_ret (v := .tuple #[.agg #[.int .i64 0, .string ⟨#[]⟩, .string ⟨#[]⟩, .int .i64 0, .bool false], .int .i64 0, .bool false]) (by simp [results, Tryd.results30, go_sem]) rfl ⟨?_, ?_⟩
    · rw [HE.out.1, HE.out.2.1, HE.out.2.2]
      rfl
    repeat (refine Below.setCell ?_ (by simp) _)
    exact (Below.refl _ _).alloc (Nat.le_refl _) _
end Go.Proofs.YtciflchaepchiaaDoor.Recs

/- DecodeRecord of both sides. Condition: the table of kinds. -/
namespace Go.Proofs.YtciflchaepchiaaDoor.Recs
set_option maxRecDepth 100000
open Go.RowKit Paths

theorem bel_alloc_own {w W : World} {x : Obj} (h : Below w.heap.size w W) : Below w.heap.size w (W.alloc x) := h.alloc h.size x
end Go.Proofs.YtciflchaepchiaaDoor.Recs

/- The head of a layer's text, its end, the next record: of the program. Condition (of the last): the table of kinds. -/
namespace Go.Proofs.YtciflchaepchiaaDoor.Recs
set_option maxRecDepth 100000
open Go.RowKit Paths

theorem codes_in {L : List R} {r : R} (hL : layerOK L = true) : ∀ j (h : j < (L ++ [r]).length), j < L.length → codeAt (L ++ [r]) j (L ++ [r])[j] = 0 := by
  intro j hlt hj
  have h0 := layer_all hL (j := j) hj
  have e1 : (L ++ [r])[j]'hlt = L[j]'(by omega) := List.getElem_append_left (by omega)
  rw [e1, ← h0]
  have ht : (L ++ [r]).take j = L.take j := List.take_append_of_le_length (by omega)
  have hb : beforeL (L ++ [r]) j = beforeL L j := by
    unfold beforeL
    by_cases hz : j = 0
    · rw [if_pos hz, if_pos hz]
    · rw [if_neg hz, if_neg hz, List.getElem?_append_left (by omega)]
  unfold codeAt
  rw [ht, hb]
  rcases atL_cases (L.take j) (parO (L[j]'(by omega)).p) with ⟨ha, _⟩ | ⟨i, hi, ha, _⟩
  · rw [ha]; simp
  · rw [List.length_take] at hi
    rw [ha]
    have e2 : (L ++ [r])[((i : Int)).toNat]? = L[((i : Int)).toNat]? := List.getElem?_append_left (by simp; omega)
    rw [e2]
theorem beh_nxt {L : List R} {r : R} (hL : layerOK L = true) : behC L r = nxtC L r := by
  have hlt : L.length < (L ++ [r]).length := by simp
  have h := beh_code (l := L ++ [r]) (i := L.length) hlt (codes_in hL)
  have e : (L ++ [r])[L.length]'hlt = r := by simp
  rw [e, List.take_left] at h
  exact h
theorem sum_step_take {t : List UInt8} {z : Nat} : withSumL (t.take z) = t.take (z + 2) ↔ (t.drop z).take 2 = twoB (sumL (t.take z)) := by
  unfold withSumL
  rw [List.take_add]
  constructor
  · intro h; exact (List.append_cancel_left h).symm
  · intro h; rw [h]

/-- What headFault answers. -/
def headC (t : ByteArray) : Int := if 65536 < t.size then 2 else if t.size < 4 ∨ t.data.toList.take 3 ≠ [76, 89, 82] then 3 else 0

theorem litePre_any (s p : ByteArray) (w : World) (hp : p.size ≤ s.size) :
    Calls Tryd.prog 82 #[.string s, .string p] w fun e w' => e = .returned (.bool ((s.extract 0 p.size).toList == p.toList)) ∧ w = w' := by
  have h1 : decide ((s.size : Int) < (p.size : Int)) = false := decide_eq_false (by omega)
  have h2 : decide (s.size < p.size) = false := decide_eq_false (by omega)
  have h3 : decide ((p.size : Int) ≤ (s.size : Int)) = true := decide_eq_true (by omega)
  have h4 : decide (p.size ≤ s.size) = true := decide_eq_true (by omega)
  have i1 : (p.size : Int) ≤ (s.size : Int) := by omega
  have i0 : (0 : Int) ≤ (p.size : Int) := by omega
  go_enter Tryd.func82, Tryd.ntmps82
  go_wp2_with fail
  go_ret
  exact ⟨rfl, rfl⟩
theorem hasPre_any (s p : ByteArray) (w : World) (hp : p.size ≤ s.size) :
    Calls Tryd.prog 72 #[.string s, .string p] w fun e w' => e = .returned (.bool ((s.extract 0 p.size).toList == p.toList)) ∧ w = w' := by
  have HC := litePre_any s p w hp
  go_enter Tryd.func72, Tryd.ntmps72
  go_wp2_with fail
  refine HC.mono ?_
  rintro e w1 ⟨rfl, rfl⟩
  go_wp2_with fail
  go_ret
  exact ⟨rfl, rfl⟩
theorem str_beq_no {a b : ByteArray} (h : a.data.toList ≠ b.data.toList) : (a.toList == b.toList) = false := by
  rw [Bool.eq_false_iff]
  intro e
  exact h (by rw [str_eq_of e])
theorem pre_eq (t : ByteArray) : ((t.extract 0 (⟨#[76, 89, 82]⟩ : ByteArray).size).toList == (⟨#[76, 89, 82]⟩ : ByteArray).toList) = decide (t.data.toList.take 3 = [76, 89, 82]) := by
  have e : (t.extract 0 (⟨#[76, 89, 82]⟩ : ByteArray).size).data.toList = t.data.toList.take 3 := by rw [ext_take]; rfl
  by_cases h : t.data.toList.take 3 = [76, 89, 82]
  · have : t.extract 0 (⟨#[76, 89, 82]⟩ : ByteArray).size = ⟨#[76, 89, 82]⟩ := str_of_list (by rw [e, h])
    rw [this, decide_eq_true h]; simp
  · rw [decide_eq_false h]
    exact str_beq_no (by rw [e]; exact h)

set_option maxHeartbeats 800000 in
theorem headFault_any (t : ByteArray) (w : World) :
    Calls Tryd.prog 57 #[.string t] w fun e w' => e = .returned (.int .i64 (headC t)) ∧ w = w' := by
  by_cases h1 : 65536 < t.size
  · have HE := Lib.hid (show headC t = 2 from if_pos h1)
    have hd : decide ((65536 : Int) < (t.size : Int)) = true := by simp; omega
    go_enter Tryd.func57, Tryd.ntmps57
    go_wp2_with (go_at_call 32; refine (longText_any _ _).mono ?_; rintro e w1 ⟨rfl, rfl⟩)
    go_ret
    exact ⟨ret_i64 (by rw [HE.out]), rfl⟩
  have hd1 : decide ((65536 : Int) < (t.size : Int)) = false := by simp; omega
  by_cases h2 : t.size < 4
  · have HE := Lib.hid (show headC t = 3 by unfold headC; rw [if_neg h1, if_pos (.inl h2)])
    have hd : decide ((t.size : Int) < 4) = true := by simp; omega
    have hd' : decide (t.size < 4) = true := by simp; omega
    go_enter Tryd.func57, Tryd.ntmps57
    go_wp2_with (go_at_call 32; refine (longText_any _ _).mono ?_; rintro e w1 ⟨rfl, rfl⟩)
    go_ret
    exact ⟨ret_i64 (by rw [HE.out]), rfl⟩
  have hd2 : decide ((t.size : Int) < 4) = false := by simp; omega
  have hd2' : decide (t.size < 4) = false := by simp; omega
  have HC := hasPre_any t ⟨#[76, 89, 82]⟩ w (by show 3 ≤ _; omega)
  rw [pre_eq t] at HC
  by_cases h3 : t.data.toList.take 3 = [76, 89, 82]
  · have HE := Lib.hid (show headC t = 0 by unfold headC; rw [if_neg h1, if_neg (by rintro (h | h); exact h2 h; exact h h3)])
    rw [decide_eq_true h3] at HC
    clear h3
    go_enter Tryd.func57, Tryd.ntmps57
    go_wp2_with (go_at_call 32; refine (longText_any _ _).mono ?_; rintro e w1 ⟨rfl, rfl⟩)
    refine HC.mono ?_
    rintro e w1 ⟨rfl, rfl⟩
    go_wp2_with fail
    go_ret
    exact ⟨ret_i64 (by rw [HE.out]), rfl⟩
  · have HE := Lib.hid (show headC t = 3 by unfold headC; rw [if_neg h1, if_pos (.inr h3)])
    rw [decide_eq_false h3] at HC
    clear h3
    go_enter Tryd.func57, Tryd.ntmps57
    go_wp2_with (go_at_call 32; refine (longText_any _ _).mono ?_; rintro e w1 ⟨rfl, rfl⟩)
    refine HC.mono ?_
    rintro e w1 ⟨rfl, rfl⟩
    go_wp2_with fail
    go_ret
    exact ⟨ret_i64 (by rw [HE.out]), rfl⟩

/-- What endFault answers. -/
def endC (t : List UInt8) (a : Nat) : Int := if t.length ≠ a + 2 then 3 else if t.drop a ≠ twoB (sumL (t.take a)) then 15 else 0
theorem end_sum {t : List UInt8} {a : Nat} (h : t.length = a + 2) : withSumL (t.take a) = t ↔ t.drop a = twoB (sumL (t.take a)) := by
  have h2 := @sum_step_take t a
  rw [List.take_of_length_le (by omega : t.length ≤ a + 2), List.take_of_length_le (by rw [List.length_drop]; omega : (t.drop a).length ≤ 2)] at h2
  exact h2

set_option maxHeartbeats 800000 in
theorem endFault_any (t : ByteArray) (a : Nat) (w : World) (ha : a ≤ t.size) (hs : t.size ≤ 65536) :
    Calls Tryd.prog 59 #[.string t, .int .i64 a] w fun e w' => e = .returned (.int .i64 (endC t.data.toList a)) ∧ Below w.heap.size w w' := by
  have hsz : t.data.toList.length = t.size := (Lib.size_eq t).symm
  have hi0 : (0 : Int) ≤ (a : Int) := by omega
  have hi1 : (a : Int) ≤ (t.size : Int) := by omega
  by_cases h1 : t.size = a + 2
  · have hne : ((t.size : Int) - (a : Int) != 2) = false := by simp; omega
    have HW := withSum_any (t.extract 0 a) w (by simp; omega)
    have e1 : (t.extract 0 a).data.toList = t.data.toList.take a := by rw [ext_take]; simp
    rw [e1] at HW
    have hes := end_sum (t := t.data.toList) (a := a) (by omega)
    by_cases h2 : withSumL (t.data.toList.take a) = t.data.toList
    · have HE := Lib.hid (show endC t.data.toList a = 0 by unfold endC; rw [if_neg (by omega), if_neg (by simpa using hes.1 h2)])
      have HB : Hid (∀ B : ByteArray, B.data.toList = withSumL (t.data.toList.take a) → B = t) := fun B hB => str_of_list (hB.trans h2)
      have hbt : (t.toList != t.toList) = false := by simp
      have hbt' : (t.toList == t.toList) = true := by simp
      clear h2 hes hsz h1
      go_enter Tryd.func59, Tryd.ntmps59
      go_wp2_with fail
      refine HW.mono ?_
      rintro e w1 ⟨B, rfl, hB, hb1⟩
      obtain rfl := HB.out B hB
      clear hB
      go_wp2_with fail
      go_ret
      exact ⟨ret_i64 (by rw [HE.out]), hb1⟩
    · have HE := Lib.hid (show endC t.data.toList a = 15 by unfold endC; rw [if_neg (by omega), if_pos (fun h => h2 (hes.2 h))])
      have HB : Hid (∀ B : ByteArray, B.data.toList = withSumL (t.data.toList.take a) → (B.toList == t.toList) = false) := fun B hB => str_beq_no (fun e => h2 (by rw [← hB, e]))
      clear h2 hes hsz h1
      go_enter Tryd.func59, Tryd.ntmps59
      go_wp2_with fail
      refine HW.mono ?_
      rintro e w1 ⟨B, rfl, hB, hb1⟩
      have hbt := HB.out B hB
      have hbt' : (B.toList != t.toList) = true := by rw [bne, hbt]; rfl
      clear hB
      go_wp2_with fail
      go_ret
      exact ⟨ret_i64 (by rw [HE.out]), hb1⟩
  · have hne : ((t.size : Int) - (a : Int) != 2) = true := by simp; omega
    have HE := Lib.hid (show endC t.data.toList a = 3 by unfold endC; rw [if_pos (by omega)])
    clear hsz h1
    go_enter Tryd.func59, Tryd.ntmps59
    go_wp2_with fail
    go_ret
    exact ⟨ret_i64 (by rw [HE.out]), Below.refl _ _⟩
end Go.Proofs.YtciflchaepchiaaDoor.Recs
