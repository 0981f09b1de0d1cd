/- Parts of several texts of mine in one file (each begins with its own remark). -/
import Derived.Test.YtcbmnihepeefaaaGreatDoorCA1
import Derived.Test.YtcbmnihepeefaaaGreatDoorCA2
import Derived.Test.YtcbmnihepeefaaaGreatDoorCA3
import Derived.Test.YtcbmnihepeefaaaGreatDoorCA4
import Derived.Test.YtcbmnihepeefaaaGreatDoorCA5
import Derived.Test.YtcbmnihepeefaaaGreatDoorCA6
import Derived.Test.YtcbmnihepeefaaaGreatDoorCA7
import Derived.Test.YtcbmnihepeefaaaGreatDoorCA8
import Derived.Test.YtcbmnihepeefaaaGreatDoorCA9
import Derived.Test.YtcbmnihepeefaaaGreatDoorCB1
import Derived.Test.YtcbmnihepeefaaaGreatDoorCB11
import Derived.Test.YtcbmnihepeefaaaGreatDoorCB3
import Derived.Test.YtcbmnihepeefaaaGreatDoorCB4
import Derived.Test.YtcbmnihepeefaaaGreatDoorCB5
import Derived.Test.YtcbmnihepeefaaaGreatDoorCH1
import Derived.Test.YtcbmnihepeefaaaGreatDoorCH2
import Derived.Test.YtcbmnihepeefaaaGreatDoorChecked
import Derived.Test.YtcbmnihepeefaaaGreatDoorRows
import Derived.Test.YtcbmnihepeefaaaGreatDoorProg
import Derived.Test.YtcbmnihepeefaaaGreatDoorShelf
import Derived.Deep.RegionWith
import Derived.OneCell
import Derived.Lib.SliceRun
import Derived.Laws.OwnMore
import Derived.Deep.Slices
import Derived.OpenShut
import Derived.ShutString
import Derived.ChangeArms
import Derived.WideShapes
import Derived.Lib.LaidTab
import Derived.BigQuiet
import Derived.Deep.QuietTactic
import Derived.Deep.RegionHeld3
import Derived.StillTailTactics
import Derived.Deep.Draws
import Derived.Deep.LoopGhost
import Derived.WalkKit
import Derived.WalkSpells
import Derived.WalkSmall
import Derived.Lib.OthersKept
import Derived.Lib.Hide
import Derived.Lib.Strings
import Derived.Lib.Join
import Derived.Laws.BytesArg
import Derived.BigRegion
import Derived.Lib.Overlaps
import Derived.Lib.AppendZerosOnto
import Derived.Laws.NewBlocks
import Derived.Laws.IdiomCopy
import Derived.Deep.RegionLaw
import Derived.ChangeVars
import Derived.Deep.DeepHandedRow
import Derived.LaidEql
import Derived.Stop.Asserts
import Derived.Below
import Derived.Stop.LaidErr
import Derived.Stop.LaidTwo
import Derived.WalkLawsBesides
/- A tree in memory: a node taken out, with all that is below it. -/
namespace Go.Proofs.YtcbmnihepeefaaaGreatDoor.Recs
set_option maxRecDepth 100000
open Go.RowKit Paths

section
variable {base : Nat} {A : ByteArray → Nat} {S : ByteArray → Value} {t : List R} {x : R} {q : ByteArray}
end
/-- A row, cut short. -/
theorem own_short {w : World} {base g n cap : Nat} {e : TypeId} {xs : List Value} (h : w.ownsRow base e 1 (.slice (some ⟨g, 0, none⟩) n cap) n xs) {m : Nat} (hm : m ≤ n) : w.ownsRow base e 1 (.slice (some ⟨g, 0, none⟩) m cap) m (xs.take m) := by
  obtain ⟨h1, h2⟩ := h
  rcases h2 with ⟨h', _⟩ | ⟨g', cap', cur, h', hb, hg, hnc, hcm, hcs, htake⟩
  · simp at h'
  · simp only [Value.slice.injEq, Option.some.injEq, Addr.mk.injEq, and_true, true_and] at h'
    obtain ⟨rfl, rfl⟩ := h'
    refine ⟨by rw [List.length_take, h1]; omega, .inr ⟨g, cap, cur, rfl, hb, hg, by omega, hcm, hcs, ?_⟩⟩
    rw [← htake, List.take_take]
    congr 1
    omega
/-- While one is taken out of a row: what has moved, what has not. -/
def delRow (Y : List Value) (m j : Nat) : List Value := (Y.take m ++ Y.drop (m + 1)).take j ++ Y.drop j
theorem del_start (Y : List Value) (m : Nat) (hm : m ≤ Y.length) : delRow Y m m = Y := by
  unfold delRow
  rw [List.take_left' (by rw [List.length_take]; omega), List.take_append_drop]
theorem del_len (Y : List Value) {m j : Nat} (hm : m < Y.length) (hj : j < Y.length) : (delRow Y m j).length = Y.length := by
  unfold delRow
  simp only [List.length_append, List.length_take, List.length_drop]
  omega
theorem del_get (Y : List Value) {m j : Nat} (hm : m < Y.length) (hj : j + 1 < Y.length) : (delRow Y m j)[j + 1]? = Y[j + 1]? := by
  unfold delRow
  have e : ((Y.take m ++ Y.drop (m + 1)).take j).length = j := by simp only [List.length_take, List.length_append, List.length_drop]; omega
  rw [List.getElem?_append_right (by omega), e, List.getElem?_drop]
  congr 1
  omega
theorem del_step (Y : List Value) {m j : Nat} (hmj : m ≤ j) (hj : j + 1 < Y.length) : (delRow Y m j).set j Y[j + 1] = delRow Y m (j + 1) := by
  unfold delRow
  have e : ((Y.take m ++ Y.drop (m + 1)).take j).length = j := by simp only [List.length_take, List.length_append, List.length_drop]; omega
  have e2 : (Y.take m ++ Y.drop (m + 1))[j]? = some Y[j + 1] := by
    rw [List.getElem?_append_right (by rw [List.length_take]; omega), List.length_take, List.getElem?_drop, Nat.min_eq_left (by omega), ← List.getElem?_eq_getElem hj]
    congr 1
    omega
  rw [List.set_append_right _ _ (by omega), e, Nat.sub_self, List.drop_eq_getElem_cons (show j < Y.length by omega), List.set_cons_zero, List.take_add_one, e2]
  simp
theorem del_end (Y : List Value) {m n : Nat} (hm : m < n) (hn : Y.length = n) (u : Value) : ((delRow Y m (n - 1)).set (n - 1) u).take (n - 1) = Y.take m ++ Y.drop (m + 1) := by
  unfold delRow
  have e : (Y.take m ++ Y.drop (m + 1)).length = n - 1 := by simp only [List.length_append, List.length_take, List.length_drop]; omega
  rw [List.take_of_length_le (show (Y.take m ++ Y.drop (m + 1)).length ≤ n - 1 by omega), List.set_append_right _ _ (by omega), List.take_left' e]
end Go.Proofs.YtcbmnihepeefaaaGreatDoor.Recs

/- slices.DeleteFunc over what is directly below a branch, with the program's test of a part (remove). -/
namespace Go.Proofs.YtcbmnihepeefaaaGreatDoor.Recs
set_option maxRecDepth 100000
open Go.RowKit Paths

/-- What the test wants of a world: the part of a branch, the parts of the path, the place of the last. -/
theorem del_test (a pc lc g N cap : Nat) (p x : ByteArray) (w : World) (hN : 1 ≤ N) (hN4 : N ≤ 4) (h0 : w.cell? ⟨a, 0, none⟩ = some (.string p)) (h1 : w.cell? ⟨pc, 0, none⟩ = some (.slice (some ⟨g, 0, none⟩) N cap)) (h2 : w.cell? ⟨lc, 0, none⟩ = some (.int .i64 ((N : Int) - 1))) (h3 : w.cell? ⟨g, N - 1, none⟩ = some (.string x)) :
    Calls Tryz.prog 182 #[ptr a, ptr pc, ptr lc] w fun e w' => e = .returned (.bool (p.toList == x.toList)) ∧ ∃ n, w' = w.drewN n := by
  unfold ptr
  have e1 : (N : Int) - 1 = ((N - 1 : Nat) : Int) := by omega
  rw [e1] at h2
  have hi0 : (0 : Int) ≤ ((N - 1 : Nat) : Int) := by omega
  have hi1 : ((N - 1 : Nat) : Int) < (N : Int) := by omega
  clear e1
  go_enter Tryz.func182, Tryz.ntmps182
  go_wp2
  go_quiet (fail)
  go_wp2
  go_ret
  exact ⟨rfl, _, rfl⟩

section
variable {base g n cap : Nat} {A : ByteArray → Nat} {K : List R} {P : R → Bool} {cp cl : Value}
set_option maxHeartbeats 800000 in
theorem indexB_any (w : World) (hown : w.ownsRow base 94 1 (.slice (some ⟨g, 0, none⟩) n cap) n (ptrs A K)) (hn : K.length = n) (hl : n ≤ 1000)
    (HF : ∀ i (hi : i < K.length) w', w.grownBy w' (some g) → Calls Tryz.prog 182 #[ptr (A K[i].p), cp, cl] w' fun e w'' => e = .returned (.bool (P K[i])) ∧ ∃ q, w'' = w'.drewN q) :
    Calls Tryz.prog 218 #[.slice (some ⟨g, 0, none⟩) n cap, .func (.func 182) #[] #[cp, cl]] w fun e w' => e = .returned (.int .i64 (idxFrom P K 0)) ∧ ∃ q, w' = w.drewN q := by
  have HC : Hid (∀ k (hk : k < K.length), w.cell? ⟨g, k, none⟩ = some (.pointer (some ⟨A K[k].p, 0, none⟩))) := fun k hk => by
    rw [hown.cellAt k (by omega)]
    unfold ptrs
    rw [List.getElem?_map, List.getElem?_eq_getElem hk]
    rfl
  have HFh := Lib.hid HF
  clear HF hown
  subst hn
  go_enter Tryz.func218, Tryz.ntmps218
  go_wp2
  go_loopw [8] (fun i wr => ∃ k q : Nat, k ≤ K.length ∧ i = .int .i64 k ∧ Hid (idxFrom P K 0 = idxFrom P (K.drop k) k) ∧ wr = w.drewN q) (fun i _ => K.length - (intOf i).toNat)
  case atStart => exact ⟨0, 0, by omega, rfl, rfl, rfl⟩
  case round =>
    obtain ⟨k, q, hk, rfl, HK, rfl⟩ := hrel
    by_cases hlt : k < K.length
    · have c0 : (w.drewN q).cell? ⟨g, k, none⟩ = some (.pointer (some ⟨A K[k].p, 0, none⟩)) := HC.out k hlt
      have HS := Lib.hid (HK.out.trans (idx_step hlt))
      have hi1 : (k : Int) < (K.length : Int) := by omega
      have hi0 : (0 : Int) ≤ (k : Int) := by omega
      have HT := HFh.out k hlt (w.drewN q) (grown_below (below_drewN (Below.refl _ _) q) _)
      unfold ptr at HT
      rcases Bool.eq_false_or_eq_true (P K[k]) with he | he
      · have HE : Hid (idxFrom P K 0 = k) := by show _ = _; rw [HS.out, if_pos he]
        go_wp2_with (go_at_call 182; refine HT.mono ?_; rintro e w1 ⟨rfl, q1, rfl⟩)
        go_ret
        exact ⟨ret_int HE.out.symm, q + q1, rfl⟩
      · have HE : Hid (idxFrom P K 0 = idxFrom P (K.drop (k + 1)) (k + 1)) := by show _ = _; rw [HS.out, if_neg (by rw [he]; decide)]
        go_wp2_with (go_at_call 182; refine HT.mono ?_; rintro e w1 ⟨rfl, q1, rfl⟩)
        exact ⟨⟨k + 1, q + q1, by omega, by go_num, HE, rfl⟩, by simp [intOf]; omega⟩
    · have HE := Lib.hid (HK.out.trans (idx_end (by omega)))
      go_wp2
      go_ret
      exact ⟨ret_int HE.out.symm, q, rfl⟩

theorem idx_only {P : R → Bool} {m : Nat} : ∀ (K : List R) (j : Nat) (_ : m < K.length), (∀ i (hi : i < K.length), P K[i] = decide (i = m)) → j ≤ m → idxFrom P (K.drop j) j = (m : Int) := by
  intro K j hm hP hj
  obtain ⟨d, hd⟩ : ∃ d, m - j = d := ⟨_, rfl⟩
  induction d generalizing j with
  | zero =>
    obtain rfl : j = m := by omega
    rw [idx_step hm, hP j hm]
    simp
  | succ d ih =>
    rw [idx_step (show j < K.length by omega), hP j (by omega), if_neg (by simp; omega)]
    exact ih (j + 1) (by omega) (by omega)
theorem zeroPtr : ∀ w, (zeroValue 94).run Tryz.prog w = .ok (.pointer none) w := fun w => by kernel_rfl

set_option maxHeartbeats 1600000 in
theorem deleteB_any (m : Nat) (w : World) (hown : w.ownsRow base 94 1 (.slice (some ⟨g, 0, none⟩) n cap) n (ptrs A K)) (hn : K.length = n) (hl : n ≤ 1000) (hcap : n ≤ cap) (hm : m < K.length) (hP : ∀ i (hi : i < K.length), P K[i] = decide (i = m))
    (HF : ∀ i (hi : i < K.length) w', w.grownBy w' (some g) → Calls Tryz.prog 182 #[ptr (A K[i].p), cp, cl] w' fun e w'' => e = .returned (.bool (P K[i])) ∧ ∃ q, w'' = w'.drewN q) :
    Calls Tryz.prog 181 #[.slice (some ⟨g, 0, none⟩) n cap, .func (.func 182) #[] #[cp, cl]] w fun e w' => e = .returned (.slice (some ⟨g, 0, none⟩) (n - 1) cap) ∧ w'.ownsRow base 94 1 (.slice (some ⟨g, 0, none⟩) (n - 1) cap) (n - 1) (ptrs A (K.take m ++ K.drop (m + 1))) ∧ w.grownBy w' (some g) := by
  have HI := indexB_any (base := base) w hown hn hl HF
  rw [show idxFrom P K 0 = (m : Int) from idx_only K 0 hm hP (Nat.zero_le _)] at HI
  have HFh := Lib.hid HF
  have HPh := Lib.hid hP
  have hY : (ptrs A K).length = n := by rw [ptrs_len, hn]
  have HYG : Hid (∀ k (hk : k < K.length), (ptrs A K)[k]? = some (.pointer (some ⟨A K[k].p, 0, none⟩))) := fun k hk => by
    unfold ptrs
    rw [List.getElem?_map, List.getElem?_eq_getElem hk]
    rfl
  have HE0 : Hid (ptrs A (K.take m ++ K.drop (m + 1)) = (ptrs A K).take m ++ (ptrs A K).drop (m + 1)) := by show _ = _; unfold ptrs; rw [List.map_append, List.map_take, List.map_drop]
  have HOWN := Lib.hid hown
  have hmn : m < n := by omega
  have hclr := fun (w' : World) (ty : TypeId) (o c : Nat) hc hf => Lib.run_clear_slice (P := Tryz.prog) w' 111 94 ty (.pointer none) Tryz.underlying111 zeroPtr rfl rfl g o 1 c (by decide) hc hf
  have HCLR := Lib.hid hclr
  clear HF hP hown hclr
  go_enter Tryz.func181, Tryz.ntmps181
  go_wp2_with fail
  refine HI.mono ?_
  rintro e w1 ⟨rfl, q1, rfl⟩
  have hm1 : ((m : Int) == -1) = false := by simp
  have hg1 : w.grownBy (w.drewN q1) (some g) := grown_below (below_drewN (Below.refl _ _) q1) _
  have hown1 : (w.drewN q1).ownsRow base 94 1 (.slice (some ⟨g, 0, none⟩) n cap) n (delRow (ptrs A K) m m) := by rw [del_start _ _ (by omega)]; exact own_below HOWN.out (below_drewN (Below.refl _ _) q1)
  generalize w.drewN q1 = W at *
  go_wp2_with fail
  go_loopw [5, 6] (fun i j wr => ∃ k : Nat, m ≤ k ∧ k < n ∧ i = .int .i64 k ∧ j = .int .i64 ((k : Int) + 1) ∧ wr.ownsRow base 94 1 (.slice (some ⟨g, 0, none⟩) n cap) n (delRow (ptrs A K) m k) ∧ w.grownBy wr (some g)) (fun i _ _ => n - (intOf i).toNat)
  case atStart => exact ⟨m, Nat.le_refl _, hmn, rfl, by go_num, hown1, hg1⟩
  case round =>
    obtain ⟨k, hmk, hkn, rfl, rfl, hownr, hgr⟩ := hrel
    by_cases hlt : k + 1 < n
    · have hkK : k + 1 < K.length := by omega
      have c0 : wr.cell? ⟨g, k + 1, none⟩ = some (.pointer (some ⟨A K[k + 1].p, 0, none⟩)) := by
        rw [hownr.cellAt (k + 1) (by omega), del_get _ (by omega) (by omega), HYG.out (k + 1) hkK]
      have HT := HFh.out (k + 1) hkK wr hgr
      rw [HPh.out (k + 1) hkK, decide_eq_false (show ¬ k + 1 = m by omega)] at HT
      have HST : Hid (∀ w9, wr.grownBy w9 (some g) → w9.ownsRow base 94 1 (.slice (some ⟨g, 0, none⟩) n cap) n (delRow (ptrs A K) m k) → (w9.setCell ⟨g, k, none⟩ (.pointer (some ⟨A K[k + 1].p, 0, none⟩))).ownsRow base 94 1 (.slice (some ⟨g, 0, none⟩) n cap) n (delRow (ptrs A K) m (k + 1)) ∧ w.grownBy (w9.setCell ⟨g, k, none⟩ (.pointer (some ⟨A K[k + 1].p, 0, none⟩))) (some g)) := by
        intro w9 hg9 ho9
        obtain ⟨s1, s2⟩ := ho9.stored k (.pointer (some ⟨A K[k + 1].p, 0, none⟩))
        have e1 := del_step (ptrs A K) hmk (by omega)
        have e2 : (ptrs A K)[k + 1]'(by omega) = .pointer (some ⟨A K[k + 1].p, 0, none⟩) := by
          have := HYG.out (k + 1) hkK
          rw [List.getElem?_eq_getElem (by omega)] at this
          exact Option.some.inj this
        rw [e2] at e1
        rw [e1] at s1
        exact ⟨s1, grown_trans (grown_trans hgr hg9) s2⟩
      have hi1 : (k : Int) + 1 < (n : Int) := by omega
      have hi0 : (0 : Int) ≤ (k : Int) + 1 := by omega
      have hj1 : (k : Int) < (n : Int) := by omega
      have hj0 : (0 : Int) ≤ (k : Int) := by omega
      unfold ptr at HT
      go_wp2_with fail
      refine HT.mono ?_
      rintro e w2 ⟨rfl, q2, rfl⟩
      have hb2 : Below wr.heap.size wr (wr.drewN q2) := below_drewN (Below.refl _ _) q2
      have hown2 := own_below hownr hb2
      have HS2 := Lib.hid (HST.out _ (grown_below hb2 _) hown2)
      have d0 := hown2.cellAt k (by omega)
      have hf0 := hown2.frozenAt k
      have hdl : k < (delRow (ptrs A K) m k).length := by rw [del_len _ (by omega) (by omega)]; omega
      rw [List.getElem?_eq_getElem hdl] at d0
      generalize (delRow (ptrs A K) m k)[k] = ov at d0
      generalize wr.drewN q2 = w2 at *
      go_wp2_with fail
      exact ⟨⟨k + 1, by omega, hlt, by go_num, by go_num, HS2.out.1, HS2.out.2⟩, by simp [intOf]; omega⟩
    · obtain rfl : n = k + 1 := by omega
      have hi1 : ¬ ((k : Int) + 1 < ((k + 1 : Nat) : Int)) := by omega
      have d0 := hownr.cellAt k (by omega)
      have hf0 := hownr.frozenAt k
      have hdl : k < (delRow (ptrs A K) m k).length := by rw [del_len _ (by omega) (by omega)]; omega
      rw [List.getElem?_eq_getElem hdl] at d0
      have hcl : ∀ ty c, (Builtin.clear_ #[111] ty #[.slice (some ⟨g, k, none⟩) 1 c]).run Tryz.prog wr = .ok (.tuple #[]) (wr.setCell ⟨g, k, none⟩ (.pointer none)) := fun ty c => HCLR.out wr ty k c (fun j hj => by obtain rfl : j = 0 := (by omega); rw [Nat.add_zero, d0]; rfl) (fun j hj => by obtain rfl : j = 0 := (by omega); exact hf0)
      obtain ⟨s1, s2⟩ := hownr.stored k (.pointer none)
      have s3 := own_short s1 (m := k) (by omega)
      have e1 := del_end (ptrs A K) (m := m) (n := k + 1) (by omega) hY (.pointer none)
      simp only [Nat.add_sub_cancel] at e1
      rw [e1, ← HE0.out] at s3
      have HS3 := Lib.hid s3
      have HG3 := Lib.hid (grown_trans hgr s2)
      have hk0 : (0 : Int) ≤ (k : Int) := by omega
      have hk1 : (k : Int) ≤ ((k + 1 : Nat) : Int) := by omega
      have hk2 : (k : Int) ≤ (cap : Int) := by omega
      have hsub : k + 1 - k = 1 := by omega
      clear s1 s2 s3 e1 d0 hf0 hdl hownr
      go_wp2_with fail
      go_ret
      exact ⟨rfl, HS3.out, HG3.out⟩
end
end Go.Proofs.YtcbmnihepeefaaaGreatDoor.Recs

/- A tree in memory: remove, of the program. -/
namespace Go.Proofs.YtcbmnihepeefaaaGreatDoor.Recs
set_option maxRecDepth 100000
open Go.RowKit Paths

theorem filter_one {K : List R} {f : R → Bool} {m : Nat} (hm : m < K.length) (h : ∀ i (hi : i < K.length), f K[i] = decide (i = m)) : K.filter (fun c => !f c) = K.take m ++ K.drop (m + 1) := by
  conv => lhs; rw [← List.take_append_drop m K, List.drop_eq_getElem_cons hm]
  rw [List.filter_append, List.filter_cons_of_neg (by rw [h m hm]; simp)]
  congr 1
  · rw [List.filter_eq_self]
    intro c hc
    obtain ⟨i, hi, rfl⟩ := List.mem_take_iff_getElem.1 hc
    rw [h i (by omega)]
    simp
    omega
  · rw [List.filter_eq_self]
    intro c hc
    obtain ⟨i, hi, rfl⟩ := List.mem_drop_iff_getElem.1 hc
    rw [h (m + 1 + i) (by omega)]
    simp
    omega
/-- The place of a node among those directly below its parent, and that no other has its last part. -/
theorem kid_place {t : List R} (ht : IsTree t) {r : R} (hr : r ∈ t) {p : ByteArray} (hp : parO r.p = p) : ∃ m, ∃ hm : m < (kids t p).length, (kids t p)[m] = r ∧ ∀ i (hi : i < (kids t p).length), ((lastB (kids t p)[i].p).toList == (lastB r.p).toList) = decide (i = m) := by
  obtain ⟨m, hm, e⟩ := List.getElem_of_mem (mem_kids.2 ⟨hr, hp⟩ : r ∈ kids t p)
  refine ⟨m, hm, e, fun i hi => ?_⟩
  rw [str_eq_dec]
  by_cases him : i = m
  · subst him; rw [e]; simp
  · rw [decide_eq_false him, decide_eq_false]
    intro hl
    obtain ⟨h1, h2⟩ := mem_kids.1 (List.getElem_mem hi)
    have hpp := path_two (ht.path _ h1) (ht.path r hr) (h2.trans hp.symm) hl
    exact him (sorted_once (kids_sorted ht.sorted p) hi hm (by rw [e]; exact hpp))
theorem parent_of {t : List R} (ht : IsTree t) {q : ByteArray} (hq : pathB q.data.toList = true) {r : R} (hr : recAt t q = some r) : ∃ x ∈ rootR :: t, x.p = parO q ∧ (parO q ≠ ByteArray.empty → (findT t (parO q)).2 = 0) := by
  by_cases hp : parO q = ByteArray.empty
  · exact ⟨rootR, root_mem, hp.symm, fun h => absurd hp h⟩
  · obtain ⟨x, hx, _⟩ := dir_up ht hr (a := parO q) (by rw [ups_of_par hq hp]; exact List.mem_cons_self ..)
    exact ⟨x, List.mem_cons_of_mem _ (recAt_mem hx).1, (recAt_mem hx).2, fun _ => findT_zero.2 (by rw [hx]; rfl)⟩
theorem two_new (w0 : World) (a b : Obj) : ((w0.alloc a).alloc b).heap[w0.heap.size]? = some a ∧ ((w0.alloc a).alloc b).heap[w0.heap.size + 1]? = some b := by
  have h1 := alloc_at (w0.alloc a) b
  rw [World.size_alloc] at h1
  refine ⟨?_, h1⟩
  rw [Below.heap_alloc _ _ _ (by simp)]
  exact alloc_at w0 a
theorem types_rm1 : (94 : TypeId) ≠ 36 := by decide
theorem types_rm2 : (94 : TypeId) ≠ 3 := by decide
theorem types_rm3 : (94 : TypeId) ≠ 9 := by decide

theorem cut_lastR {p : ByteArray} {w : World} {g : Nat} (h : ∀ i (hi : i < (cutAt 47 p.data.toList).length), w.cell? ⟨g, i, none⟩ = some (strV (cutAt 47 p.data.toList)[i])) : w.cell? ⟨g, (cutAt 47 p.data.toList).length - 1, none⟩ = some (.string (lastB p)) := by
  have hp := cutAt_pos 47 p.data.toList
  rw [h _ (by omega), last_cell hp]
def remC (t : List R) (q : ByteArray) : Int := if pathB q.data.toList then (findT t q).2 else 10
def RemPost (base : Nat) (A : ByteArray → Nat) (t : List R) (q : ByteArray) (w : World) (e : Ending) (w' : World) : Prop :=
  e = .returned (.int .i64 (remC t q)) ∧ (∃ S', Tr w' base A S' (if remC t q = 0 then withoutL t q true else t)) ∧ Below base w w'
theorem rem_stay {base : Nat} {A : ByteArray → Nat} {S : ByteArray → Value} {t : List R} {q : ByteArray} {w w' : World} {c : Int} (hc : remC t q = c) (h0 : c ≠ 0) (h : Tr w base A S t) (hb : Below w.heap.size w w') (hbase : base ≤ w.heap.size) : RemPost base A t q w (.returned (.int .i64 c)) w' := by
  refine ⟨by rw [hc], ⟨S, ?_⟩, hb.mono hbase⟩
  rw [if_neg (by rw [hc]; exact h0)]
  exact h.below hb

set_option maxHeartbeats 3200000 in
theorem remove_any {w : World} {base : Nat} {A : ByteArray → Nat} {S : ByteArray → Value} {t : List R} (h : Tr w base A S t) (ht : IsTree t) (hl : t.length ≤ 1000) (q : ByteArray) (hqm : q.size ≤ maxLen) :
    Calls Tryz.prog 108 #[ptr (A ByteArray.empty), .string q] w (RemPost base A t q w) := by
  have hwb : base ≤ w.heap.size := Nat.le_of_lt (Nat.lt_of_le_of_lt (h.own _ root_mem) (h.lt root_mem))
  have HR := resolvePath_any h ht (by omega) q hqm
  have HTr := Lib.hid h
  have HIT := Lib.hid ht
  unfold resP at HR
  unfold ptr at HR ⊢
  cases hp : pathB q.data.toList with
  | false =>
    have HE : Hid (remC t q = 10) := by show _ = _; unfold remC; rw [hp]; rfl
    rw [hp] at HR
    clear h ht
    go_enter Tryz.func108, Tryz.ntmps108
    go_wp2_with fail
    refine HR.mono ?_
    rintro e w1 ⟨rfl, hb1⟩
    go_wp2_with fail
    go_ret
    exact rem_stay HE.out (by decide) HTr.out hb1 hwb
  | true =>
    rw [hp, if_pos rfl] at HR
    unfold resV at HR
    have HC : Hid (remC t q = (findT t q).2) := by show _ = _; unfold remC; rw [hp, if_pos rfl]
    cases hra : recAt t q with
    | none =>
      have e2 : (findT t q).2 ≠ 0 := fun e => by have := findT_zero.1 e; rw [hra] at this; cases this
      have hd : ((findT t q).2 != 0) = true := by simpa using e2
      rw [if_neg e2] at HR
      have H2 := Lib.hid e2
      clear e2 h ht
      generalize (findT t q).2 = c at *
      go_enter Tryz.func108, Tryz.ntmps108
      go_wp2_with fail
      refine HR.mono ?_
      rintro e w1 ⟨rfl, hb1⟩
      go_wp2_with fail
      go_ret
      exact rem_stay HC.out H2.out HTr.out hb1 hwb
    | some r =>
      have e2 : (findT t q).2 = 0 := findT_zero.2 (by rw [hra]; rfl)
      rw [e2, if_pos rfl] at HR
      rw [e2] at HC
      obtain ⟨hrm, hrp⟩ := recAt_mem hra
      obtain ⟨x, hx, hxp, hxf⟩ := parent_of ht hp hra
      obtain ⟨m, hm, _, hP⟩ := kid_place ht hrm (p := x.p) (by rw [hrp, hxp])
      rw [hrp] at hP
      have HX := Lib.hid hx
      have HXP := Lib.hid hxp
      have HXF := Lib.hid hxf
      have HM := Lib.hid hP
      have hN1 := cutAt_pos 47 q.data.toList
      have hN4 := (pathB_parts hp).1
      have hkl : (kids t x.p).length ≤ 1000 := Nat.le_trans (List.length_filter_le _ _) hl
      have HKB : Hid (kidsBut t x.p q = (kids t x.p).take m ++ (kids t x.p).drop (m + 1)) := by
        show _ = _
        unfold kidsBut
        refine filter_one (f := fun c => decide (lastB c.p = lastB q)) hm (fun i hi => ?_)
        have := hP i hi
        rw [str_eq_dec] at this
        exact this
      clear e2 h ht hx hxp hxf hP hrm hrp hra
      go_enter Tryz.func108, Tryz.ntmps108
      go_wp2_with fail
      refine HR.mono ?_
      rintro e w1 ⟨rfl, hb1⟩
      go_wp2_with fail
      refine (splitPath_any q _ hqm).mono ?_
      rintro e w2 ⟨v, rfl, hb2, ho, -, hnn⟩
      rw [partsOf_yes hp] at ho
      have hv := part_sl ho
      obtain ⟨g2, pcap, rfl, hgl2, hpc, hpm⟩ := own_some ho (hnn hp)
      obtain ⟨_, _, e1, _, hpv0⟩ := hv
      cases e1
      obtain ⟨g', e2, _, hpv⟩ := hpv0 (by omega)
      cases e2
      have cL := cut_lastR hpv
      have c2 := hb1.trans (hb2.mono hb1.size)
      have HPV : Hid (PartSl w2 (.slice (some ⟨g2, 0, none⟩) (cutAt 47 q.data.toList).length pcap) (cutAt 47 q.data.toList)) := part_sl ho
      have HOS := Lib.hid ho
      clear hpv hpv0 hnn ho
      have hb4 : Below w2.heap.size w2 ((w2.alloc (.cells #[.slice (some ⟨g2, 0, none⟩) (cutAt 47 q.data.toList).length pcap] 36)).alloc (.cells #[.int .i64 (((cutAt 47 q.data.toList).length : Int) - 1)] 3)) := ((Below.refl _ _).alloc (Nat.le_refl _) _).alloc (by simp) _
      obtain ⟨n1, n2⟩ := two_new w2 (.cells #[.slice (some ⟨g2, 0, none⟩) (cutAt 47 q.data.toList).length pcap] 36) (.cells #[.int .i64 (((cutAt 47 q.data.toList).length : Int) - 1)] 3)
      have c4 := c2.trans (hb4.mono c2.size)
      have hT4 := HTr.out.below c4
      obtain ⟨_, _, _, _, _, k5⟩ := hT4.cells HX.out
      obtain ⟨sA, cap, hS, hcap, hkk⟩ := hT4.kid HX.out
      have hf5 := hT4.frozen HX.out 5
      obtain ⟨g, rfl, hgl, _⟩ := hkk (by omega)
      have hrow := hT4.row x HX.out
      have hngA := fun (c : R) (hc : c ∈ rootR :: t) => hT4.apart_row hc HX.out
      rw [hS] at hrow k5 hngA
      have hgb : base ≤ g := (hrow.lt g rfl).1
      have hn1 := own_not hrow types_rm1 n1
      have hn2 := own_not hrow types_rm2 n2
      have hn3 : (Value.slice (some ⟨g, 0, none⟩) (kids t x.p).length cap).ownBlock ≠ some g2 := by
        obtain ⟨cur, hcur⟩ := own_type HOS.out (g := g2) rfl
        exact own_not hrow types_rm3 ((hb4.block _ hgl2).trans hcur)
      have HDEL := deleteB_any (base := base) (g := g) (n := (kids t x.p).length) (cap := cap) (A := A) (K := kids t x.p) (P := fun c => (lastB c.p).toList == (lastB q).toList) (cp := ptr w2.heap.size) (cl := ptr (w2.heap.size + 1)) m _ hrow rfl hkl hcap hm HM.out (by
        intro i hi w' hg'
        have hci := kid_mem (List.getElem_mem hi)
        have b0 := (hg'.block _ (hT4.lt hci) (fun e => hngA _ hci e.symm)).trans (hT4.block _ hci)
        have b1 := (hg'.block _ (Array.getElem?_eq_some_iff.1 n1).1 (fun e => hn1 e.symm)).trans n1
        have b2 := (hg'.block _ (Array.getElem?_eq_some_iff.1 n2).1 (fun e => hn2 e.symm)).trans n2
        have b3 := hg'.block g2 (Nat.lt_of_lt_of_le hgl2 hb4.size) (fun e => hn3 e.symm)
        rw [hb4.block _ hgl2] at b3
        refine del_test (A (kids t x.p)[i].p) w2.heap.size (w2.heap.size + 1) g2 _ pcap _ (lastB q) w' hN1 hN4 ?_ (block_cell b1).1 (block_cell b2).1 ?_
        · unfold World.cell?
          simp only [b0]
          rfl
        · exact (World.cell?_of_block (a := ⟨g2, (cutAt 47 q.data.toList).length - 1, none⟩) b3).trans cL)
      have HFIN : Hid (∀ w9, w9.ownsRow base 94 1 (.slice (some ⟨g, 0, none⟩) ((kids t x.p).length - 1) cap) ((kids t x.p).length - 1) (ptrs A ((kids t x.p).take m ++ (kids t x.p).drop (m + 1))) →
          ((w2.alloc (.cells #[.slice (some ⟨g2, 0, none⟩) (cutAt 47 q.data.toList).length pcap] 36)).alloc (.cells #[.int .i64 (((cutAt 47 q.data.toList).length : Int) - 1)] 3)).grownBy w9 (some g) →
          RemPost base A t q w (.returned (.int .i64 0)) (w9.setCell ⟨A x.p, 5, none⟩ (.slice (some ⟨g, 0, none⟩) ((kids t x.p).length - 1) cap)) ∧ w9.cell? ⟨A x.p, 5, none⟩ = some (.slice (some ⟨g, 0, none⟩) (kids t x.p).length cap) ∧ w9.frozen? ⟨A x.p, 5, none⟩ = false) := by
        intro w9 ho9 hg9
        have hlen : (kidsBut t x.p q).length = (kids t x.p).length - 1 := by
          rw [HKB.out, List.length_append, List.length_take, List.length_drop]
          omega
        have hcut := Tr.cut (q := q) hT4 HIT.out hp HX.out HXP.out (v' := .slice (some ⟨g, 0, none⟩) ((kids t x.p).length - 1) cap) (by rw [hlen, HKB.out]; exact ho9) (by rw [hS]; exact hg9) (by rw [hS]; rfl)
        have hb9 := hg9.block _ (hT4.lt HX.out) (fun e => hngA _ HX.out e.symm)
        refine ⟨⟨by rw [HC.out], ⟨_, by rw [if_pos HC.out]; exact hcut⟩, ?_⟩, (World.cell?_of_block (a := ⟨A x.p, 5, none⟩) hb9).trans k5, (World.frozen?_of_block (a := ⟨A x.p, 5, none⟩) hb9).trans hf5⟩
        exact ((c4.mono hwb).grown hg9 (Nat.le_trans hwb c4.size) (fun j hj => by cases hj; exact hgb)).setCell (hT4.own _ HX.out) _
      have HRES : Calls Tryz.prog 172 #[.pointer (some ⟨A ByteArray.empty, 0, none⟩), .slice (some ⟨g2, 0, none⟩) ((cutAt 47 q.data.toList).length - 1) pcap] ((w2.alloc (.cells #[.slice (some ⟨g2, 0, none⟩) (cutAt 47 q.data.toList).length pcap] 36)).alloc (.cells #[.int .i64 (((cutAt 47 q.data.toList).length : Int) - 1)] 3)) fun e w' => e = .returned (.tuple #[.pointer (some ⟨A x.p, 0, none⟩), .int .i64 0]) ∧ ((w2.alloc (.cells #[.slice (some ⟨g2, 0, none⟩) (cutAt 47 q.data.toList).length pcap] 36)).alloc (.cells #[.int .i64 (((cutAt 47 q.data.toList).length : Int) - 1)] 3)) = w' := by
        by_cases hpe : parO q = ByteArray.empty
        · have hone := cut_one hp hpe
          rw [HXP.out, hpe]
          have hps : PartSl ((w2.alloc (.cells #[.slice (some ⟨g2, 0, none⟩) (cutAt 47 q.data.toList).length pcap] 36)).alloc (.cells #[.int .i64 (((cutAt 47 q.data.toList).length : Int) - 1)] 3)) (.slice (some ⟨g2, 0, none⟩) ((cutAt 47 q.data.toList).length - 1) pcap) [] := ⟨some ⟨g2, 0, none⟩, pcap, by rw [hone]; rfl, Nat.zero_le _, fun h => by cases h⟩
          have := resolve_none (A ByteArray.empty) _ hps
          unfold ptr at this
          exact this
        · obtain ⟨hpp, hcut⟩ := cut_parO hp hpe
          have hvt : PartSl ((w2.alloc (.cells #[.slice (some ⟨g2, 0, none⟩) (cutAt 47 q.data.toList).length pcap] 36)).alloc (.cells #[.int .i64 (((cutAt 47 q.data.toList).length : Int) - 1)] 3)) (.slice (some ⟨g2, 0, none⟩) ((cutAt 47 q.data.toList).length - 1) pcap) (cutAt 47 (parO q).data.toList) := by
            rw [hcut]
            exact (HPV.out.below hb4).take (by omega)
          refine (resolve_any hT4 HIT.out (by omega) _ hpp hvt).mono ?_
          rintro e w' ⟨rfl, rfl⟩
          refine ⟨?_, rfl⟩
          unfold resV
          rw [HXF.out hpe, HXP.out]
          rfl
      have f1 := (block_cell n1).1
      have f2 := (block_cell n2).1
      have hw1 : IntKind.i64.wrap (((cutAt 47 q.data.toList).length : Int) - 1) = ((cutAt 47 q.data.toList).length : Int) - 1 := by rw [IntKind.wrap_i64]; omega
      have hi0 : (0 : Int) ≤ ((cutAt 47 q.data.toList).length : Int) - 1 := by omega
      have hi1 : ((cutAt 47 q.data.toList).length : Int) - 1 ≤ (pcap : Int) := by omega
      have hto : (((cutAt 47 q.data.toList).length : Int) - 1).toNat = (cutAt 47 q.data.toList).length - 1 := by omega
      have HB4 := Lib.hid hb4
      unfold ptr at HDEL
      clear hb4 hT4 hrow hngA hn1 hn2 hn3 n1 n2 hkk hS hb1 hb2
      generalize hL : (cutAt 47 q.data.toList).length = L at *
      go_wp2_with fail
      refine HRES.mono ?_
      rintro e w5 ⟨rfl, rfl⟩
      go_wp2_with fail
      refine HDEL.mono ?_
      rintro e w9 ⟨rfl, ho9, hg9⟩
      obtain ⟨hRP, hc9, hf9⟩ := HFIN.out w9 ho9 hg9
      have HRP := Lib.hid hRP
      clear ho9 hg9 hRP
      go_wp2_with fail
      go_ret
      exact HRP.out
end Go.Proofs.YtcbmnihepeefaaaGreatDoor.Recs
