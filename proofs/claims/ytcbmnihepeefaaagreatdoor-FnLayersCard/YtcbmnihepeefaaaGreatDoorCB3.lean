/- Parts of several texts of mine in one file (each begins with its own remark). -/
import Derived.Test.YtcbmnihepeefaaaGreatDoorCA1
import Derived.Test.YtcbmnihepeefaaaGreatDoorCA2
import Derived.Test.YtcbmnihepeefaaaGreatDoorCA3
import Derived.Test.YtcbmnihepeefaaaGreatDoorCA4
import Derived.Test.YtcbmnihepeefaaaGreatDoorCA5
import Derived.Test.YtcbmnihepeefaaaGreatDoorCA6
import Derived.Test.YtcbmnihepeefaaaGreatDoorCA7
import Derived.Test.YtcbmnihepeefaaaGreatDoorCA8
import Derived.Test.YtcbmnihepeefaaaGreatDoorCB1
import Derived.Test.YtcbmnihepeefaaaGreatDoorChecked
import Derived.Deep.Slices
import Derived.OpenShut
import Derived.ShutString
import Derived.ChangeArms
import Derived.WideShapes
import Derived.Lib.LaidTab
import Derived.BigQuiet
import Derived.Deep.QuietTactic
import Derived.Deep.RegionHeld3
import Derived.StillTailTactics
import Derived.Deep.Draws
import Derived.Deep.LoopGhost
import Derived.WalkKit
import Derived.WalkSpells
import Derived.WalkSmall
import Derived.Lib.OthersKept
import Derived.Lib.Hide
import Derived.Lib.Strings
import Derived.Lib.Join
import Derived.Laws.OwnMore
import Derived.Laws.BytesArg
import Derived.BigRegion
import Derived.Lib.SliceRun
/- Trees with what is directly below each node, plain. -/
namespace Go.Proofs.YtcbmnihepeefaaaGreatDoor.Recs
open Go.RowKit Paths

theorem rootR_p : rootR.p = ByteArray.empty := rfl
theorem lastB_data (p : ByteArray) : (lastB p).data.toList = (cutAt 47 p.data.toList).getLast (cutAt_ne 47 _) := rfl
theorem bytes_ext {a b : ByteArray} (h : a.data.toList = b.data.toList) : a = b := ByteArray.ext (Array.toList_inj.1 h)
/-- A path is its parent and its last part. -/
theorem path_two {a b : ByteArray} (ha : pathB a.data.toList = true) (hb : pathB b.data.toList = true) (h1 : parO a = parO b) (h2 : lastB a = lastB b) : a = b := by
  have e1 : parentL a.data.toList = parentL b.data.toList := by rw [← parO_data, ← parO_data, h1]
  have e2 := congrArg (fun x : ByteArray => x.data.toList) h2
  simp only [lastB_data] at e2
  apply bytes_cut
  rw [cut_parent a.data.toList, cut_parent b.data.toList, e2]
  congr 1
  rcases parent_cases ha with ⟨a1, a2, _⟩ | ⟨_, a2, a3, _⟩ <;> rcases parent_cases hb with ⟨b1, b2, _⟩ | ⟨_, b2, b3, _⟩
  · rw [a2, b2]; rfl
  · exact absurd (e1.symm.trans a1) b3
  · exact absurd (e1.trans b1) a3
  · rw [← a2, ← b2, e1]
theorem pre_parent {q : ByteArray} (h : pathB q.data.toList = true) {i : Nat} (hi : i + 1 < nparts q) : parO (pre q (i + 1)) = pre q i := by
  apply bytes_ext
  rw [parO_data]
  unfold parentL
  rw [pre_cut h, pre_data]
  congr 1
  unfold nparts at hi
  rw [List.dropLast_eq_take, List.take_take, List.length_take]
  congr 1
  omega
theorem pre_parent0 {q : ByteArray} (h : pathB q.data.toList = true) : parO (pre q 0) = ByteArray.empty := by
  rw [parO_empty]
  unfold parentL
  rw [pre_cut h]
  have := nparts_pos q
  unfold nparts at this
  match hc : cutAt 47 q.data.toList, this with
  | x :: t, _ => rfl
theorem pre_lastB {q : ByteArray} (h : pathB q.data.toList = true) {i : Nat} (hi : i < nparts q) : lastB (pre q i) = ⟨((cutAt 47 q.data.toList)[i]'hi).toArray⟩ := by
  unfold lastB
  congr 2
  have hl : (cutAt 47 (pre q i).data.toList).length = i + 1 := by
    rw [pre_cut h, List.length_take]
    unfold nparts at hi
    omega
  rw [List.getLast_eq_getElem]
  have : ∀ (A B : List (List UInt8)) (e : A = B) (n m : Nat) (hn : n < A.length) (hm : m < B.length), n = m → A[n] = B[m] := by
    intro A B e n m hn hm e2
    subst e e2
    rfl
  rw [this _ _ (pre_cut h i) _ i _ (by rw [List.length_take]; unfold nparts at hi; omega) (by omega), List.getElem_take]
  rfl
/-- Among what is directly below, the one of a last part. -/
theorem kid_find {t : List R} (ht : ∀ r ∈ t, pathB r.p.data.toList = true) {c : ByteArray} (hc : pathB c.data.toList = true) {p x : ByteArray} (hp : parO c = p) (hx : lastB c = x) :
    (kids t p).find? (fun r => decide (lastB r.p = x)) = recAt t c := by
  unfold kids recAt
  rw [List.find?_filter]
  subst hp hx
  induction t with
  | nil => rfl
  | cons r t ih =>
    have hr := ht r (List.mem_cons_self ..)
    have ih' := ih fun r hm => ht r (List.mem_cons_of_mem _ hm)
    by_cases he : r.p = c
    · rw [List.find?_cons_of_pos (by simp [he]), List.find?_cons_of_pos (by simp [he])]
    · have : ¬ (parO r.p = parO c ∧ lastB r.p = lastB c) := fun h => he (path_two hr hc h.1 h.2)
      rw [List.find?_cons_of_neg (by simpa using this), List.find?_cons_of_neg (by simpa using he)]
      exact ih'
end Go.Proofs.YtcbmnihepeefaaaGreatDoor.Recs

/- Trees, plain: all that is below a path, by what is directly below it; what putting a node in and taking one out do to what is directly below. -/
namespace Go.Proofs.YtcbmnihepeefaaaGreatDoor.Recs
open Go.RowKit Paths

/-- Among what is directly below one, the last part decides. -/
theorem lessP_last : ∀ (A : List (List UInt8)) (x y : List UInt8), lessP (A ++ [x]) (A ++ [y]) = Op.bytesLess x y
  | [], x, y => by
    unfold lessP
    by_cases h : x = y
    · subst h; simp [lessP, bytesLess_irrefl]
    · simp [h]
  | a :: A, x, y => by
    have := lessP_last A x y
    simp only [List.cons_append, lessP]
    simpa using this
theorem less_kid {a b : ByteArray} (ha : pathB a.data.toList = true) (hb : pathB b.data.toList = true) (h : parO a = parO b) : lessP (cutAt 47 a.data.toList) (cutAt 47 b.data.toList) = Op.bytesLess (lastB a).data.toList (lastB b).data.toList := by
  have e1 : parentL a.data.toList = parentL b.data.toList := by rw [← parO_data, ← parO_data, h]
  have e2 : (cutAt 47 a.data.toList).dropLast = (cutAt 47 b.data.toList).dropLast := by
    rcases parent_cases ha with ⟨a1, a2, _⟩ | ⟨_, a2, a3, _⟩ <;> rcases parent_cases hb with ⟨b1, b2, _⟩ | ⟨_, b2, b3, _⟩
    · rw [a2, b2]; rfl
    · exact absurd (e1.symm.trans a1) b3
    · exact absurd (e1.trans b1) a3
    · rw [← a2, ← b2, e1]
  rw [cut_parent a.data.toList, cut_parent b.data.toList, e2, lessP_last]
  rfl
/-- What stays directly below one that stays. -/
theorem kids_without {t : List R} (ht : ∀ r ∈ t, pathB r.p.data.toList = true) {q : ByteArray} (hq : pathB q.data.toList = true) {p : ByteArray} (hp : p ≠ q ∧ q ∉ ups p) :
    kids (withoutL t q true) p = (kids t p).filter fun c => !(decide (parO q = p) && decide (lastB c.p = lastB q)) := by
  unfold kids withoutL
  rw [List.filter_filter, List.filter_filter]
  apply List.filter_congr
  intro x hx
  have hxp := ht x hx
  by_cases hpar : parO x.p = p
  · have hup : q ∉ ups x.p := by
      intro hm
      by_cases he : parO x.p = ByteArray.empty
      · rw [ups_step hxp, if_pos (parO_empty.1 he)] at hm; cases hm
      · rw [ups_of_par hxp he, hpar, List.mem_cons] at hm
        rcases hm with hm | hm
        · exact hp.1 hm.symm
        · exact hp.2 hm
    have h1 : isUp q x.p = false := isUp_no.2 hup
    rw [h1, decide_eq_true hpar]
    simp only [Bool.not_false, Bool.true_and, Bool.and_true]
    by_cases he : x.p = q
    · subst he
      simp [hpar]
    · have : ¬ (parO q = p ∧ lastB x.p = lastB q) := fun h => he (path_two hxp hq (hpar.trans h.1.symm) h.2)
      rw [decide_eq_false he]
      by_cases h1 : parO q = p
      · have h2 : ¬ lastB x.p = lastB q := fun e => this ⟨h1, e⟩
        simp [h1, h2]
      · simp [h1]
  · rw [decide_eq_false hpar]
    simp
end Go.Proofs.YtcbmnihepeefaaaGreatDoor.Recs

/- A tree in memory: what each branch holds; finding a child of a branch, resolving parts. -/
namespace Go.Proofs.YtcbmnihepeefaaaGreatDoor.Recs
set_option maxRecDepth 100000
open Go.RowKit Paths

section
variable {w w' : World} {base : Nat} {A : ByteArray → Nat} {S : ByteArray → Value} {t : List R} {r : R}
theorem Tr.kid (h : Tr w base A S t) (hr : r ∈ rootR :: t) : ∃ sA cap, S r.p = .slice sA (kids t r.p).length cap ∧ (kids t r.p).length ≤ cap ∧
    (0 < (kids t r.p).length → ∃ g, sA = some ⟨g, 0, none⟩ ∧ g < w.heap.size ∧ ∀ i (hi : i < (kids t r.p).length), w.cell? ⟨g, i, none⟩ = some (ptr (A (kids t r.p)[i].p))) := by
  have ho := h.row r hr
  rcases ho.2 with ⟨hv, hn⟩ | ⟨g, cap, cur, hv, hb, hg, hc, _⟩
  · exact ⟨none, 0, by rw [hv, hn], by omega, fun h => by omega⟩
  · refine ⟨_, cap, hv, hc, fun _ => ⟨g, rfl, (Array.getElem?_eq_some_iff.1 hg).1, fun i hi => ?_⟩⟩
    rw [hv] at ho
    rw [ho.cellAt i (by omega)]
    unfold ptrs
    rw [List.getElem?_map, List.getElem?_eq_getElem hi]
    rfl
end

def kidOf (t : List R) (p x : ByteArray) : Option R := (kids t p).find? fun c => decide (lastB c.p = x)
def ptrO (A : ByteArray → Nat) (o : Option R) : Value := .pointer (o.map fun c => ⟨A c.p, 0, none⟩)
theorem find_step {K : List R} {P : R → Bool} {k : Nat} (h : k < K.length) : (K.drop k).find? P = if P K[k] then some K[k] else (K.drop (k + 1)).find? P := by
  rw [List.drop_eq_getElem_cons h, List.find?_cons]
  cases P K[k] <;> rfl

set_option maxHeartbeats 400000 in
theorem child_any {w : World} {base : Nat} {A : ByteArray → Nat} {S : ByteArray → Value} {t : List R} (h : Tr w base A S t) {r : R} (hr : r ∈ rootR :: t) (x : ByteArray) (hl : t.length ≤ 1048576) :
    Calls Tryz.prog 215 #[ptr (A r.p), .string x] w fun e w' => e = .returned (ptrO A (kidOf t r.p x)) ∧ w = w' := by
  obtain ⟨_, _, _, _, _, c5⟩ := h.cells hr
  obtain ⟨sA, cap, hS, hcap, hk⟩ := h.kid hr
  rw [hS] at c5
  have hkl : (kids t r.p).length ≤ 1048576 := Nat.le_trans (List.length_filter_le _ _) hl
  have HM : Hid (∀ i (hi : i < (kids t r.p).length), w.cell? ⟨A (kids t r.p)[i].p, 0, none⟩ = some (.string (lastB (kids t r.p)[i].p))) := fun i hi => (h.cells (kid_mem (List.getElem_mem hi))).1
  have HE : Hid (kidOf t r.p x = ((kids t r.p).drop 0).find? fun c => decide (lastB c.p = x)) := rfl
  generalize kidOf t r.p x = o at *
  generalize A r.p = a at *
  generalize kids t r.p = K at *
  have H := Lib.hid hk
  clear hk h hS hr
  unfold ptr ptrO
  go_enter Tryz.func215, Tryz.ntmps215
  go_wp2
  go_loop [12] (fun i => ∃ k : Nat, k ≤ K.length ∧ i = .int .i64 k ∧ Hid (o = (K.drop k).find? fun c => decide (lastB c.p = x))) (fun i => K.length - (intOf i).toNat)
  case atStart => exact ⟨0, by omega, rfl, HE⟩
  case round =>
    obtain ⟨k, hk, rfl, HK⟩ := hrel
    by_cases hlt : k < K.length
    · obtain ⟨g, rfl, hg, hcell⟩ := H.out (by omega)
      have c1 := hcell k hlt
      have c2 := HM.out k hlt
      unfold ptr at c1
      have HS := Lib.hid (HK.out.trans (find_step hlt))
      clear hcell HK
      have hi1 : (k : Int) < (K.length : Int) := by omega
      have hi0 : (0 : Int) ≤ (k : Int) := by omega
      rcases Bool.eq_false_or_eq_true ((lastB K[k].p).toList == x.toList) with he | he
      · have HF : Hid (o = some K[k]) := by show _ = _; rw [HS.out, if_pos (by simpa using str_eq_of he)]
        clear HS
        go_wp2
        go_ret
        exact ⟨by rw [HF.out]; rfl, rfl⟩
      · have HF : Hid (o = (K.drop (k + 1)).find? fun c => decide (lastB c.p = x)) := by
          show _ = _
          rw [HS.out, if_neg]
          intro e
          rw [of_decide_eq_true e] at he
          simp at he
        clear HS
        go_wp2
        exact ⟨⟨k + 1, by omega, by go_num, HF⟩, by simp [intOf]; omega⟩
    · have HF : Hid (o = none) := by show _ = _; rw [HK.out, List.drop_eq_nil_of_le (by omega)]; rfl
      go_wp2
      go_ret
      exact ⟨by rw [HF.out]; rfl, rfl⟩

theorem part_sl {w : World} {base : Nat} {v : Value} {L : List (List UInt8)} (h : w.ownsRow base 9 1 v L.length (L.map strV)) : PartSl w v L := by
  rcases h.2 with ⟨rfl, hn⟩ | ⟨g, cap, cur, rfl, _, hg, hc, _⟩
  · exact ⟨none, 0, by rw [hn], by omega, fun h => by omega⟩
  · refine ⟨_, cap, rfl, hc, fun _ => ⟨g, rfl, (Array.getElem?_eq_some_iff.1 hg).1, fun i hi => ?_⟩⟩
    rw [h.cellAt i (by omega), List.getElem?_map, List.getElem?_eq_getElem hi]
    rfl
def zN : R := ⟨0, 0, ByteArray.empty, ByteArray.empty, false⟩
/-- Resolving, with r found at the j-th step. -/
def resFrom (t : List R) (q : ByteArray) (r : R) (j : Nat) : R × Int := if j = nparts q then (r, 0) else if r.k ≠ 3 then (zN, 13) else findFrom t q j
theorem find_no {t : List R} {q : ByteArray} {j : Nat} (hj : j < nparts q) (h : recAt t (pre q j) = none) : findFrom t q j = (zN, 5) := by
  rw [findFrom, if_pos hj]
  rcases atL_recAt t (pre q j) with ⟨h1, _⟩ | ⟨k, hk, _, h2⟩
  · rw [if_pos (by rw [h1]; decide)]; rfl
  · rw [h] at h2; cases h2
theorem find_yes {t : List R} {q : ByteArray} {j : Nat} (hj : j < nparts q) {r : R} (h : recAt t (pre q j) = some r) : findFrom t q j = resFrom t q r (j + 1) := by
  rw [findFrom, if_pos hj]
  rcases atL_recAt t (pre q j) with ⟨_, h2⟩ | ⟨k, hk, h1, h2⟩
  · rw [h] at h2; cases h2
  · rw [h] at h2
    cases h2
    rw [h1, if_neg (by omega), Int.toNat_natCast, List.getElem?_eq_getElem hk]
    unfold resFrom
    by_cases he : j + 1 = nparts q
    · rw [if_pos he, if_pos he]; rfl
    · rw [if_neg he, if_neg he]
      by_cases h3 : t[k].k ≠ 3
      · rw [if_pos (by simpa using h3), if_pos h3]; rfl
      · rw [if_neg (by simpa using h3), if_neg h3]
/-- What resolving answers: the branch and the code. -/
def resV (A : ByteArray → Nat) (t : List R) (q : ByteArray) : Value := .tuple #[.pointer (if (findT t q).2 = 0 then some ⟨A q, 0, none⟩ else none), .int .i64 (findT t q).2]

set_option maxHeartbeats 400000 in
theorem resolve_any {w : World} {base : Nat} {A : ByteArray → Nat} {S : ByteArray → Value} {t : List R} (h : Tr w base A S t) (ht : IsTree t) (hl : t.length ≤ 1048576) (v : Value) {q : ByteArray} (hq : pathB q.data.toList = true) (hv : PartSl w v (cutAt 47 q.data.toList)) :
    Calls Tryz.prog 172 #[ptr (A ByteArray.empty), v] w fun e w' => e = .returned (resV A t q) ∧ w = w' := by
  obtain ⟨pA, cap, rfl, hcap, hp⟩ := hv
  have h4 := (pathB_parts hq).1
  have HP := Lib.hid hp
  have HT := Lib.hid h
  have HI := Lib.hid ht
  have HF0 : Hid (findT t q = resFrom t q rootR 0) := by
    show _ = _
    have := nparts_pos q
    unfold resFrom
    rw [if_neg (by omega), if_neg (by decide), find_is ht hq]
  have hn0 := nparts_pos q
  have HN : Hid (nparts q = (cutAt 47 q.data.toList).length) := rfl
  clear hp h ht
  unfold ptr
  go_enter Tryz.func172, Tryz.ntmps172
  go_wp2
  go_loop [6, 13] (fun a i => ∃ (j : Nat) (r : R), j ≤ nparts q ∧ i = .int .i64 j ∧ a = .pointer (some ⟨A r.p, 0, none⟩) ∧ Hid (r ∈ rootR :: t ∧ (j < nparts q → parO (pre q j) = r.p) ∧ (j = nparts q → r.p = q) ∧ findT t q = resFrom t q r j)) (fun _ i => nparts q - (intOf i).toNat)
  case atStart => exact ⟨0, rootR, by omega, rfl, rfl, List.mem_cons_self .., fun _ => pre_parent0 hq, fun h => by omega, HF0.out⟩
  case round =>
    obtain ⟨j, r, hj, rfl, rfl, HR⟩ := hrel
    obtain ⟨hr, hpar, hend, hres⟩ := HR.out
    have hnl := HN.out
    by_cases hlt : j < nparts q
    · obtain ⟨g, rfl, hg, hcell⟩ := HP.out (by omega)
      obtain ⟨_, k1, _⟩ := HT.out.cells hr
      have hlast := pre_lastB hq hlt
      have c0 : w.cell? ⟨g, j, none⟩ = some (.string (lastB (pre q j))) := by rw [hlast]; exact hcell j (by omega)
      have hi1 : (j : Int) < ((cutAt 47 q.data.toList).length : Int) := by omega
      have hi0 : (0 : Int) ≤ (j : Int) := by omega
      have HC := child_any HT.out hr (lastB (pre q j)) hl
      have hkid : kidOf t r.p (lastB (pre q j)) = recAt t (pre q j) := kid_find HI.out.path (pre_path hq j) (hpar hlt) rfl
      rw [hkid] at HC
      unfold ptr at HC
      clear hcell hlast hkid hnl
      by_cases h3 : r.k = 3
      · have hd : (r.k != 3) = false := by simpa using h3
        have hff : findT t q = findFrom t q j := by rw [hres]; unfold resFrom; rw [if_neg (by omega), if_neg (by simpa using h3)]
        clear hres h3
        cases ho : recAt t (pre q j) with
        | none =>
          have HE : Hid (findT t q = (zN, 5)) := hff.trans (find_no hlt ho)
          rw [ho] at HC
          clear hff hpar hend HR
          go_wp2_with fail
          refine HC.mono ?_
          rintro e w1 ⟨rfl, rfl⟩
          unfold ptrO
          go_wp2_with fail
          go_ret2
          exact ⟨by unfold resV; rw [HE.out]; rfl, rfl⟩
        | some c =>
          have HE := Lib.hid (hff.trans (find_yes hlt ho))
          have HM := Lib.hid (recAt_mem ho)
          rw [ho] at HC
          clear hff hpar hend HR
          go_wp2_with fail
          refine HC.mono ?_
          rintro e w1 ⟨rfl, rfl⟩
          unfold ptrO
          go_wp2_with fail
          refine ⟨⟨j + 1, c, by omega, by go_num, rfl, ⟨List.mem_cons_of_mem _ HM.out.1, fun h => ?_, fun h => ?_, HE.out⟩⟩, by simp [intOf]; omega⟩
          · rw [pre_parent hq h, HM.out.2]
          · rw [HM.out.2, pre_last j (by omega)]
      · have HE : Hid (findT t q = (zN, 13)) := by show _ = _; rw [hres]; unfold resFrom; rw [if_neg (by omega), if_pos h3]
        have hd : (r.k != 3) = true := by simpa using h3
        clear hres h3 hpar hend HR
        go_wp2_with fail
        go_ret2
        exact ⟨by unfold resV; rw [HE.out]; rfl, rfl⟩
    · have HE : Hid (findT t q = (r, 0)) := by show _ = _; rw [hres]; unfold resFrom; rw [if_pos (by omega)]
      have HQ := Lib.hid (hend (by omega))
      clear hres hpar hend HR
      have hi1 : ¬ ((j : Int) < ((cutAt 47 q.data.toList).length : Int)) := by omega
      go_wp2_with fail
      go_ret2
      exact ⟨by unfold resV; rw [HE.out, HQ.out]; rfl, rfl⟩

theorem resolve_none {w : World} (a : Nat) (v : Value) (hv : PartSl w v []) :
    Calls Tryz.prog 172 #[ptr a, v] w fun e w' => e = .returned (.tuple #[ptr a, .int .i64 0]) ∧ w = w' := by
  obtain ⟨pA, cap, rfl, hcap, hp⟩ := hv
  unfold ptr
  clear hp
  go_enter Tryz.func172, Tryz.ntmps172
  go_wp2
  refine wp_loop_rounds 1 ?_
  rw [rounds_succ]
  go_wp2
  go_ret2
  exact ⟨rfl, rfl⟩
end Go.Proofs.YtcbmnihepeefaaaGreatDoor.Recs

/- A tree in memory: resolving a path; the place for a node of a path. -/
namespace Go.Proofs.YtcbmnihepeefaaaGreatDoor.Recs
set_option maxRecDepth 100000
open Go.RowKit Paths

/-- The place for a node of a path: the code. -/
def placeC (t : List R) (q : ByteArray) : Int :=
  if (findT t q).2 = 0 then 18 else if (findT t q).2 = 13 then 13 else if parO q = ByteArray.empty ∨ (recAt t (parO q)).isSome = true then 0 else 12
def placeV (A : ByteArray → Nat) (t : List R) (q : ByteArray) : Value := .tuple #[.pointer (if placeC t q = 0 then some ⟨A (parO q), 0, none⟩ else none), .int .i64 (placeC t q)]
theorem findT_codes (t : List R) (q : ByteArray) : (findT t q).2 = 0 ∨ (findT t q).2 = 13 ∨ (findT t q).2 = 5 := by
  unfold findT
  cases recAt t q with
  | some r => exact .inl rfl
  | none =>
    cases blocked t q with
    | true => exact .inr (.inl rfl)
    | false => exact .inr (.inr rfl)
theorem findT_zero {t : List R} {q : ByteArray} : (findT t q).2 = 0 ↔ (recAt t q).isSome = true := by
  unfold findT
  cases recAt t q with
  | some r => simp
  | none => cases blocked t q <;> simp
theorem own_some {w : World} {base : Nat} {e : TypeId} {v : Value} {n : Nat} {xs : List Value} (h : w.ownsRow base e 1 v n xs) (hv : v ≠ .slice none 0 0) : ∃ g cap, v = .slice (some ⟨g, 0, none⟩) n cap ∧ g < w.heap.size ∧ n ≤ cap ∧ cap ≤ maxLen := by
  rcases h.2 with ⟨rfl, _⟩ | ⟨g, cap, cur, rfl, _, hg, hc, hm, _⟩
  · exact absurd rfl hv
  · exact ⟨g, cap, rfl, (Array.getElem?_eq_some_iff.1 hg).1, hc, hm⟩
theorem cut_parO {q : ByteArray} (h : pathB q.data.toList = true) (hp : parO q ≠ ByteArray.empty) : pathB (parO q).data.toList = true ∧ cutAt 47 (parO q).data.toList = (cutAt 47 q.data.toList).take ((cutAt 47 q.data.toList).length - 1) := by
  rcases parent_cases h with ⟨h1, _⟩ | ⟨h1, h2, _⟩
  · exact absurd (parO_empty.2 h1) hp
  · refine ⟨h1, ?_⟩
    rw [parO_data, h2, List.dropLast_eq_take]
theorem cut_one {q : ByteArray} (h : pathB q.data.toList = true) (hp : parO q = ByteArray.empty) : (cutAt 47 q.data.toList).length = 1 := by
  rcases parent_cases h with ⟨_, h2, _⟩ | ⟨_, _, h3, _⟩
  · rw [h2]; rfl
  · exact absurd (parO_empty.1 hp) h3

section
variable {w : World} {base : Nat} {A : ByteArray → Nat} {S : ByteArray → Value} {t : List R}
set_option maxHeartbeats 800000 in
theorem placeFor_any (h : Tr w base A S t) (ht : IsTree t) (hl : t.length ≤ 1048576) (q : ByteArray) (hq : q.size ≤ maxLen) (hp : pathB q.data.toList = true) :
    Calls Tryz.prog 91 #[ptr (A ByteArray.empty), .string q] w fun e w' => e = .returned (placeV A t q) ∧ Below w.heap.size w w' := by
  have HC := splitPath_any q w hq
  unfold ptr
  go_enter Tryz.func91, Tryz.ntmps91
  go_wp2_with fail
  refine HC.mono ?_
  rintro e w1 ⟨v, rfl, hb1, ho, -, hn⟩
  rw [partsOf_yes hp] at ho
  have hv := part_sl ho
  obtain ⟨g, cap, rfl, -, hc, hcm⟩ := own_some ho (hn hp)
  have HR := resolve_any (h.below hb1) ht hl _ hp hv
  unfold ptr resV at HR
  have h4 := (pathB_parts hp).1
  have h1 := cutAt_pos 47 q.data.toList
  have HV := Lib.hid hv
  have HTr := Lib.hid (h.below hb1)
  clear hv ho hn h
  rcases findT_codes t q with h0 | h0 | h0
  · have HE : Hid (placeC t q = 18) := by show _ = _; unfold placeC; rw [if_pos h0]
    rw [h0] at HR
    clear h0
    go_wp2_with fail
    refine HR.mono ?_
    rintro e w2 ⟨rfl, rfl⟩
    go_wp2_with fail
    go_ret2
    exact ⟨by unfold placeV; rw [HE.out]; rfl, hb1⟩
  · have HE : Hid (placeC t q = 13) := by show _ = _; unfold placeC; rw [h0]; rfl
    rw [h0] at HR
    clear h0
    go_wp2_with fail
    refine HR.mono ?_
    rintro e w2 ⟨rfl, rfl⟩
    go_wp2_with fail
    go_ret2
    exact ⟨by unfold placeV; rw [HE.out]; rfl, hb1⟩
  · have HE : Hid (placeC t q = if parO q = ByteArray.empty ∨ (recAt t (parO q)).isSome = true then 0 else 12) := by show _ = _; unfold placeC; rw [if_neg (by rw [h0]; decide), if_neg (by rw [h0]; decide)]
    rw [h0] at HR
    clear h0
    generalize hN : (cutAt 47 q.data.toList).length = N at *
    have hw1 : IntKind.i64.wrap ((N : Int) - 1) = ((N - 1 : Nat) : Int) := by rw [IntKind.wrap_i64]; omega
    have hi1 : ((N - 1 : Nat) : Int) ≤ (cap : Int) := by omega
    have hi2 : (0 : Int) ≤ ((N - 1 : Nat) : Int) := by omega
    by_cases hr : parO q = ByteArray.empty
    · have HF : Hid (placeC t q = 0) := by show _ = _; rw [HE.out, if_pos (.inl hr)]
      have hN1 : N = 1 := by rw [← hN]; exact cut_one hp hr
      have HR2 := resolve_none (A ByteArray.empty) (.slice (some ⟨g, 0, none⟩) 0 cap) (show PartSl w1 _ [] from ⟨_, cap, rfl, Nat.zero_le _, fun h => by cases h⟩)
      unfold ptr at HR2
      subst hN1
      have HQ := Lib.hid hr
      clear hr HE hN
      go_wp2_with fail
      refine HR.mono ?_
      rintro e w2 ⟨rfl, rfl⟩
      go_wp2_with fail
      refine HR2.mono ?_
      rintro e w2 ⟨rfl, rfl⟩
      go_wp2_with fail
      go_ret2
      exact ⟨by unfold placeV; rw [HF.out, HQ.out]; rfl, hb1⟩
    · obtain ⟨hpp, hcut⟩ := cut_parO hp hr
      have hvt : PartSl w1 (.slice (some ⟨g, 0, none⟩) (N - 1) cap) (cutAt 47 (parO q).data.toList) := by
        rw [hcut]
        have hv := HV.out
        rw [← hN] at hv ⊢
        exact hv.take (by omega)
      have HR2 := resolve_any HTr.out ht hl _ hpp hvt
      unfold ptr resV at HR2
      have hz := findT_zero (t := t) (q := parO q)
      by_cases h0 : (findT t (parO q)).2 = 0
      · have HF : Hid (placeC t q = 0) := by show _ = _; rw [HE.out, if_pos (.inr (hz.1 h0))]
        rw [h0] at HR2
        clear hr HE hN h0 hz hcut hvt
        go_wp2_with fail
        refine HR.mono ?_
        rintro e w2 ⟨rfl, rfl⟩
        go_wp2_with fail
        refine HR2.mono ?_
        rintro e w2 ⟨rfl, rfl⟩
        go_wp2_with fail
        go_ret2
        exact ⟨by unfold placeV; rw [HF.out]; rfl, hb1⟩
      · have HF : Hid (placeC t q = 12) := by
          show _ = _
          rw [HE.out, if_neg]
          rintro (h2 | h2)
          · exact hr h2
          · exact h0 (hz.2 h2)
        have hd : ((findT t (parO q)).2 != 0) = true := by simpa using h0
        rw [if_neg h0] at HR2
        clear hr HE hN h0 hz hcut hvt
        go_wp2_with fail
        refine HR.mono ?_
        rintro e w2 ⟨rfl, rfl⟩
        go_wp2_with fail
        refine HR2.mono ?_
        rintro e w2 ⟨rfl, rfl⟩
        go_wp2_with fail
        go_ret2
        exact ⟨by unfold placeV; rw [HF.out]; rfl, hb1⟩
end
end Go.Proofs.YtcbmnihepeefaaaGreatDoor.Recs
