/- Several texts of mine in one file (each begins with its own remark). -/
import Derived.Test.YtjiljnfiofmpaaaGreatDoorBun14
import Derived.Test.YtjiljnfiofmpaaaGreatDoorBun4
import Derived.Test.YtjiljnfiofmpaaaGreatDoorBun8
import Derived.Test.YtjiljnfiofmpaaaGreatDoorBun1
import Derived.Test.YtjiljnfiofmpaaaGreatDoorBun5
import Derived.Test.YtjiljnfiofmpaaaGreatDoorBun9
import Derived.Test.YtjiljnfiofmpaaaGreatDoorBun20
/- For laws that look at trees: the laws' own comparison of lists of nodes, and their search; Cuts of the model. -/

namespace Go.Proofs.YtjiljnfiofmpaaaGreatDoor.Recs
set_option maxRecDepth 100000
open Go.RowKit Paths

set_option maxHeartbeats 400000 in
theorem find_any (v : Value) (l : List R) (q : ByteArray) (w : World) (h : NodSl w v l) (hl : l.length ≤ 1048576) :
    Calls Tryz.prog 25 #[v, .string q] w fun e w' => e = .returned (.int .i64 (atL l q)) ∧ w = w' := by
  obtain ⟨_, A, cap, rfl, hcap, h⟩ := h
  have H := Lib.hid h
  clear h
  go_enter Tryz.func25, Tryz.ntmps25
  go_wp2
  go_loop [5] (fun i => ∃ k : Nat, k ≤ l.length ∧ i = .int .i64 k ∧ Hid (atL l q = atFrom (l.drop k) k q)) (fun i => l.length - (intOf i).toNat)
  case atStart => exact ⟨0, by omega, rfl, rfl⟩
  case round =>
    obtain ⟨k, hk, rfl, HK⟩ := hrel
    by_cases hlt : k < l.length
    · obtain ⟨b, off, rfl, hb, hcell⟩ := H.out (by omega)
      obtain ⟨_, hc1, _⟩ := hcell k l[k] (by simp [hlt])
      have HS := Lib.hid (HK.out.trans (atFrom_step hlt q))
      clear hcell HK
      have hi1 : (k : Int) < (l.length : Int) := by omega
      have hi0 : (0 : Int) ≤ (k : Int) := by omega
      rcases Bool.eq_false_or_eq_true (l[k].p.toList == q.toList) with he | he
      · have HE : Hid (atL l q = k) := by show _ = _; rw [HS.out, if_pos (str_eq_of he)]
        go_wp2
        go_ret
        exact ⟨ret_int HE.out.symm, rfl⟩
      · have HE : Hid (atL l q = atFrom (l.drop (k + 1)) (k + 1) q) := by show _ = _; rw [HS.out, if_neg (fun e => by rw [e] at he; simp at he)]
        go_wp2
        exact ⟨⟨k + 1, by omega, by go_num, HE⟩, by simp [intOf]; omega⟩
    · have HE := Lib.hid (HK.out.trans (atFrom_end (by omega) q))
      go_wp2
      go_ret
      exact ⟨ret_int HE.out.symm, rfl⟩

set_option maxHeartbeats 1600000 in
theorem sameNodes_any (v1 v2 : Value) (A B : List R) (w : World) (h1 : NodSl w v1 A) (h2 : NodSl w v2 B) (hl : A.length ≤ 1048576) :
    Calls Tryz.prog 14 #[v1, v2] w fun e w' => e = .returned (.bool (decide (A = B))) ∧ ∃ n, w' = w.drewN n := by
  obtain ⟨ho1, a1, cap1, rfl, hcap1, h1⟩ := h1
  obtain ⟨ho2, a2, cap2, rfl, hcap2, h2⟩ := h2
  by_cases hL : A.length = B.length
  · have hne : ((A.length : Int) != (B.length : Int)) = false := by simp [hL]
    have HL := Lib.hid hL
    have H1 := Lib.hid h1
    have H2 := Lib.hid h2
    clear hL h1 h2
    go_enter Tryz.func14, Tryz.ntmps14
    go_wp2
    go_loopw [5] (fun i wr => ∃ k n : Nat, k ≤ A.length ∧ i = .int .i64 k ∧ wr = w.drewN n ∧ Hid (A.take k = B.take k)) (fun i _ => A.length - (intOf i).toNat)
    case atStart => exact ⟨0, 0, by omega, rfl, rfl, rfl⟩
    case round =>
      obtain ⟨k, n, hk, rfl, rfl, HK⟩ := hrel
      by_cases hlt : k < A.length
      · obtain ⟨b1, o1, rfl, hb1, hcell1⟩ := H1.out (by omega)
        have hL2 := HL.out
        have hlt2 : k < B.length := by omega
        obtain ⟨b2, o2, rfl, hb2, hcell2⟩ := H2.out (by omega)
        obtain ⟨c0, c1, c2, c3⟩ := hcell1 k A[k] (by simp [hlt])
        obtain ⟨d0, d1, d2, d3⟩ := hcell2 k B[k] (by simp [hlt2])
        clear hcell1 hcell2 hL2 H1 H2
        have hi1 : (k : Int) < (A.length : Int) := by omega
        have hi2 : (k : Int) < (B.length : Int) := by omega
        have hi0 : (0 : Int) ≤ (k : Int) := by omega
        have f4 : (A[k].o == B[k].o) = true := by rw [ho1 A[k] (List.getElem_mem hlt), ho2 B[k] (List.getElem_mem hlt2)]; rfl
        rcases four A[k] B[k] with f0 | ⟨f0, f1⟩ | ⟨f0, f1, f2⟩ | ⟨f0, f1, f2, f3⟩ | ⟨f0, f1, f2, f3⟩
        · have HF := ne_at hlt hlt2 (fun e => by rw [e] at f0; simp at f0)
          go_wp2
          go_quiet (fail)
          go_wp2
          go_ret
          exact ⟨ret_bool (by simp [HF.out]), n + nq, World.drewN_drewN _ _ _⟩
        · have HF := ne_at hlt hlt2 (fun e => by rw [e] at f1; simp at f1)
          go_wp2
          go_quiet (fail)
          go_wp2
          go_ret
          exact ⟨ret_bool (by simp [HF.out]), n + nq, World.drewN_drewN _ _ _⟩
        · have HF := ne_at hlt hlt2 (fun e => by rw [e] at f2; simp at f2)
          go_wp2
          go_quiet (fail)
          go_wp2
          go_ret
          exact ⟨ret_bool (by simp [HF.out]), n + nq, World.drewN_drewN _ _ _⟩
        · have HF := ne_at hlt hlt2 (fun e => by rw [e] at f3; simp at f3)
          go_wp2
          go_quiet (fail)
          go_wp2
          go_ret
          exact ⟨ret_bool (by simp [HF.out]), n + nq, World.drewN_drewN _ _ _⟩
        · have HT := Lib.hid (take_snoc_eq hlt hlt2 HK.out (rec_eq f0 f1 f2 f3 f4))
          go_wp2
          go_quiet (fail)
          go_wp2
          exact ⟨⟨k + 1, _, by omega, by go_num, rfl, HT⟩, by simp [intOf]; omega⟩
      · have HE : Hid (A = B) := by
          have hL2 := HL.out
          have := HK.out
          rw [List.take_of_length_le (by omega), List.take_of_length_le (by omega)] at this
          exact this
        go_wp2
        go_ret
        exact ⟨ret_bool (by simp [HE.out]), _, rfl⟩
  · have hne : ((A.length : Int) != (B.length : Int)) = true := by simp; omega
    have HE : Hid (¬ A = B) := fun e => hL (by rw [e])
    clear hL
    go_enter Tryz.func14, Tryz.ntmps14
    go_wp2
    go_ret
    exact ⟨ret_bool (by simp [HE.out]), 0, rfl⟩

theorem l06Stops_any (r : R) (w : World) :
    Calls Tryz.prog 146 #[r.val] w fun e w' => e = .returned (.bool (stops r)) ∧ Below w.heap.size w w' := by
  obtain ⟨rk, rm, rp, rb, ro⟩ := r
  unfold R.val
  dsimp only
  have hb : Below w.heap.size w (w.alloc (.cells #[.int .i64 rk, .string rp, .string rb, .int .i64 rm, .bool ro] 26)) := (Below.refl _ _).alloc (Nat.le_refl _) _
  by_cases h3 : rk = 3
  · have q3 : (rk != 3) = false := by simp [h3]
    have HE : Hid (stops ⟨rk, rm, rp, rb, ro⟩ = ro) := (by show _ = _; unfold stops; simp [h3])
    clear h3
    go_enter Tryz.func146, Tryz.ntmps146
    go_wp2_with fail
    go_ret
    exact ⟨ret_bool HE.out.symm, hb⟩
  · have q3 : (rk != 3) = true := by simp [h3]
    have HE : Hid (stops ⟨rk, rm, rp, rb, ro⟩ = true) := (by show _ = _; unfold stops; simp [h3])
    clear h3
    go_enter Tryz.func146, Tryz.ntmps146
    go_wp2_with fail
    go_ret
    exact ⟨ret_bool HE.out.symm, hb⟩

def pmC : Value → Nat
  | .string s => if s.size = 0 then 0 else (cutAt 47 s.data.toList).length
  | _ => 0
theorem parO_sizeC {p : ByteArray} (h : parentL p.data.toList = []) : (parO p).size = 0 := by rw [Lib.size_eq]; show (parentL p.data.toList).toArray.toList.length = 0; rw [h]; rfl
theorem path_posC {p : ByteArray} (h : pathB p.data.toList = true) : p.size ≠ 0 := fun e => by rw [pathB_empty e] at h; cases h
theorem pm_downC {p : ByteArray} (h : pathB p.data.toList = true) : pmC (.string (parO p)) < pmC (.string p) := by
  have h0 := path_posC h
  have h1 : 0 < (cutAt 47 p.data.toList).length := cutAt_pos 47 _
  show (if (parO p).size = 0 then 0 else (cutAt 47 (parO p).data.toList).length) < (if p.size = 0 then 0 else (cutAt 47 p.data.toList).length)
  rw [if_neg h0]
  by_cases hp : parentL p.data.toList = []
  · rw [if_pos (parO_sizeC hp)]; exact h1
  · obtain ⟨h2, h3⟩ := parts_parent h hp
    rw [if_neg (path_posC h2)]
    omega
theorem cuts_step (l : List R) {q : ByteArray} (h : pathB q.data.toList = true) : cutsL l q = if parentL q.data.toList = [] then false else stopsAt l (parO q) || cutsL l (parO q) := by
  unfold cutsL
  rw [ups_step h]
  split <;> rfl
/-- What is still to look at: none, or the path and what is above it. -/
def LeftC (l : List R) (u : Bool) (p : ByteArray) : Prop := (p.size = 0 ∧ u = false) ∨ (pathB p.data.toList = true ∧ u = (stopsAt l p || cutsL l p))
theorem leftC_start {l : List R} {q : ByteArray} (h : pathB q.data.toList = true) : LeftC l (cutsL l q) (parO q) := by
  by_cases hp : parentL q.data.toList = []
  · exact .inl ⟨parO_sizeC hp, by rw [cuts_step l h, if_pos hp]⟩
  · exact .inr ⟨(parts_parent h hp).1, by rw [cuts_step l h, if_neg hp]⟩
theorem leftC_next {l : List R} {u : Bool} {p : ByteArray} (h : pathB p.data.toList = true) (hu : u = (stopsAt l p || cutsL l p)) (ho : stopsAt l p = false) : LeftC l u (parO p) := by
  rw [ho, Bool.false_or] at hu
  rw [hu]
  exact leftC_start h

set_option maxHeartbeats 1600000 in
theorem l06Cuts_any (v : Value) (l : List R) (q : ByteArray) (w : World) (h : RecSl w v l) (hl : l.length ≤ 1048576) (hq : pathB q.data.toList = true) :
    Calls Tryz.prog 97 #[v, .string q] w fun e w' => e = .returned (.bool (cutsL l q)) ∧ Below w.heap.size w w' := by
  have hsl := h
  obtain ⟨A, cap, rfl, hcap, h⟩ := h
  have HS := Lib.hid hsl
  have H := Lib.hid h
  have HL0 := Lib.hid (leftC_start (l := l) hq)
  have hqs := path_short hq
  clear h hsl
  go_enter Tryz.func97, Tryz.ntmps97
  go_wp2_with fail
  refine (l01Parent_any q _ (by unfold maxLen; omega)).mono ?_
  rintro e w1 ⟨rfl, rfl⟩
  go_wp2_with fail
  go_loopw [5] (fun p wr => ∃ P : ByteArray, p = .string P ∧ Below w.heap.size w wr ∧ Hid (LeftC l (cutsL l q) P)) (fun p _ => pmC p)
  case atStart => exact ⟨parO q, rfl, Below.refl _ _, HL0⟩
  case round =>
    obtain ⟨P, rfl, kw, HP⟩ := hrel
    rcases HP.out with ⟨h0, hu⟩ | ⟨hp, hu⟩
    · have HU := Lib.hid hu
      have he := isEmpty_true h0
      clear h0 hu
      go_wp2_with fail
      go_ret
      exact ⟨ret_bool HU.out.symm, kw⟩
    · have HU := Lib.hid hu
      have he := isEmpty_false (Nat.pos_of_ne_zero (path_posC hp))
      have hps := path_short hp
      have HM := Lib.hid (pm_downC hp)
      have HPP := Lib.hid hp
      clear hu hp
      go_wp2_with fail
      refine (l03At_any _ l _ _ (HS.out.below kw) hl).mono ?_
      rintro e w1 ⟨rfl, rfl⟩
      rcases atL_recAt l P with ⟨ha, hn⟩ | ⟨j, hj, ha, hn⟩
      · have HN := Lib.hid (leftC_next HPP.out HU.out (by unfold stopsAt; rw [hn]; rfl))
        rw [ha]
        clear ha hn
        go_wp2_with fail
        refine (l01Parent_any P _ (by unfold maxLen; omega)).mono ?_
        rintro e w1 ⟨rfl, rfl⟩
        go_wp2_with fail
        go_roundw
        case rel => exact ⟨parO P, rfl, kw, HN⟩
        case measure => exact HM.out
      · have HO : Hid (stopsAt l P = stops l[j]) := (by show _ = _; unfold stopsAt; rw [hn]; rfl)
        obtain ⟨b, off, rfl, hb, hcell⟩ := H.out (by omega)
        obtain ⟨f0, f1, f2, f3, f4⟩ := (hcell j l[j] (by simp [hj])).below kw hb
        have j1 : (0 : Int) ≤ (j : Int) := by omega
        have j2 : (j : Int) < (l.length : Int) := by omega
        have j3 : decide ((0 : Int) ≤ (j : Int)) = true := by simp
        have HST := l06Stops_any l[j] wr
        unfold R.val at HST
        rw [ha]
        clear ha hcell hn
        go_wp2_with fail
        refine HST.mono ?_
        rintro e w2 ⟨rfl, hb2⟩
        have k2 := kw.trans (hb2.mono kw.size)
        cases ho : stops l[j] with
        | true =>
          have HF : Hid (cutsL l q = true) := (by show _ = _; rw [HU.out, HO.out, ho]; rfl)
          clear ho
          go_wp2_with fail
          go_ret
          exact ⟨ret_bool HF.out.symm, k2⟩
        | false =>
          have HN := Lib.hid (leftC_next HPP.out HU.out (HO.out.trans ho))
          clear ho
          go_wp2_with fail
          refine (l01Parent_any P _ (by unfold maxLen; omega)).mono ?_
          rintro e w3 ⟨rfl, rfl⟩
          go_wp2_with fail
          go_roundw
          case rel => exact ⟨parO P, rfl, k2, HN⟩
          case measure => exact HM.out

set_option maxHeartbeats 800000 in
/-- Cuts of the model, of a layer and a path. -/
theorem cuts_good (v : Value) (l : List R) (q : ByteArray) (w : World) (h : RecSl w v l) (hl : layerOK l = true) (hq : pathB q.data.toList = true) :
    Calls Tryz.prog 35 #[v, .string q] w fun e w' => e = .returned (.tuple #[.bool (cutsL l q), .int .i64 0]) ∧ Below w.heap.size w w' := by
  have h16 := layer_len hl
  have hqs := path_short hq
  have HOK := l03OK_any v l w h (by omega)
  rw [hl] at HOK
  have HSL := Lib.hid h
  have HQ := Lib.hid hq
  obtain ⟨A, cap, rfl, _⟩ := h
  have hd1 : decide ((4096 : Int) < (l.length : Int)) = false := by simp; omega
  have hd2 : decide ((65536 : Int) < (q.size : Int)) = false := by simp; omega
  clear hl hq
  go_enter Tryz.func35, Tryz.ntmps35
  go_wp2_with fail
  refine HOK.mono ?_
  rintro e w1 ⟨rfl, hb1⟩
  have HPO := l01OK_any q w1
  rw [HQ.out] at HPO
  go_wp2_with fail
  refine HPO.mono ?_
  rintro e w2 ⟨rfl, hb2⟩
  have c2 := hb1.trans (hb2.mono hb1.size)
  have HCU := l06Cuts_any _ l q w2 (HSL.out.below c2) (by omega) HQ.out
  go_wp2_with fail
  refine HCU.mono ?_
  rintro e w3 ⟨rfl, hb3⟩
  go_wp2_with fail
  go_ret2
  exact ⟨rfl, c2.trans (hb3.mono c2.size)⟩
end Go.Proofs.YtjiljnfiofmpaaaGreatDoor.Recs
