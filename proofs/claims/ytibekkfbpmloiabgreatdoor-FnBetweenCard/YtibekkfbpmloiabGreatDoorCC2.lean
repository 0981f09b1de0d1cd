/- Parts of several texts of mine in one file (each begins with its own remark). -/
import Derived.Test.YtibekkfbpmloiabGreatDoorCA1
import Derived.Test.YtibekkfbpmloiabGreatDoorCA2
import Derived.Test.YtibekkfbpmloiabGreatDoorCA3
import Derived.Test.YtibekkfbpmloiabGreatDoorCA4
import Derived.Test.YtibekkfbpmloiabGreatDoorCA5
import Derived.Test.YtibekkfbpmloiabGreatDoorCA6
import Derived.Test.YtibekkfbpmloiabGreatDoorCA7
import Derived.Test.YtibekkfbpmloiabGreatDoorCA9
import Derived.Test.YtibekkfbpmloiabGreatDoorCC1
import Derived.Test.YtibekkfbpmloiabGreatDoorChecked
import Derived.Laws.OwnMore
import Derived.Deep.Slices
import Derived.OpenShut
import Derived.ShutString
import Derived.ChangeArms
import Derived.WideShapes
import Derived.Lib.LaidTab
import Derived.BigQuiet
import Derived.Deep.QuietTactic
import Derived.Deep.RegionHeld3
import Derived.StillTailTactics
import Derived.Deep.Draws
import Derived.Deep.LoopGhost
import Derived.WalkKit
import Derived.WalkSpells
import Derived.WalkSmall
import Derived.Lib.OthersKept
import Derived.Lib.Hide
import Derived.Lib.Strings
import Derived.Lib.Join
import Derived.Laws.BytesArg
import Derived.BigRegion
import Derived.Lib.SliceRun
import Derived.Lib.Overlaps
import Derived.Lib.AppendZerosOnto
import Derived.Laws.NewBlocks
import Derived.Laws.IdiomCopy
import Derived.Deep.RegionLaw
/- A tree in memory: what each branch holds; finding a child of a branch, resolving parts. -/
namespace Go.Proofs.YtibekkfbpmloiabGreatDoor.Recs
set_option maxRecDepth 100000
open Go.RowKit Paths

section
variable {w w' : World} {base : Nat} {A : ByteArray → Nat} {S : ByteArray → Value} {t : List R} {r : R}
theorem Tr.kid (h : Tr w base A S t) (hr : r ∈ rootR :: t) : ∃ sA cap, S r.p = .slice sA (kids t r.p).length cap ∧ (kids t r.p).length ≤ cap ∧
    (0 < (kids t r.p).length → ∃ g, sA = some ⟨g, 0, none⟩ ∧ g < w.heap.size ∧ ∀ i (hi : i < (kids t r.p).length), w.cell? ⟨g, i, none⟩ = some (ptr (A (kids t r.p)[i].p))) := by
  have ho := h.row r hr
  rcases ho.2 with ⟨hv, hn⟩ | ⟨g, cap, cur, hv, hb, hg, hc, _⟩
  · exact ⟨none, 0, by rw [hv, hn], by omega, fun h => by omega⟩
  · refine ⟨_, cap, hv, hc, fun _ => ⟨g, rfl, (Array.getElem?_eq_some_iff.1 hg).1, fun i hi => ?_⟩⟩
    rw [hv] at ho
    rw [ho.cellAt i (by omega)]
    unfold ptrs
    rw [List.getElem?_map, List.getElem?_eq_getElem hi]
    rfl
end

def kidOf (t : List R) (p x : ByteArray) : Option R := (kids t p).find? fun c => decide (lastB c.p = x)
def ptrO (A : ByteArray → Nat) (o : Option R) : Value := .pointer (o.map fun c => ⟨A c.p, 0, none⟩)
theorem find_step {K : List R} {P : R → Bool} {k : Nat} (h : k < K.length) : (K.drop k).find? P = if P K[k] then some K[k] else (K.drop (k + 1)).find? P := by
  rw [List.drop_eq_getElem_cons h, List.find?_cons]
  cases P K[k] <;> rfl

set_option maxHeartbeats 400000 in
theorem child_any {w : World} {base : Nat} {A : ByteArray → Nat} {S : ByteArray → Value} {t : List R} (h : Tr w base A S t) {r : R} (hr : r ∈ rootR :: t) (x : ByteArray) (hl : t.length ≤ 1048576) :
    Calls Tryz.prog 221 #[ptr (A r.p), .string x] w fun e w' => e = .returned (ptrO A (kidOf t r.p x)) ∧ w = w' := by
  obtain ⟨_, _, _, _, _, c5⟩ := h.cells hr
  obtain ⟨sA, cap, hS, hcap, hk⟩ := h.kid hr
  rw [hS] at c5
  have hkl : (kids t r.p).length ≤ 1048576 := Nat.le_trans (List.length_filter_le _ _) hl
  have HM : Hid (∀ i (hi : i < (kids t r.p).length), w.cell? ⟨A (kids t r.p)[i].p, 0, none⟩ = some (.string (lastB (kids t r.p)[i].p))) := fun i hi => (h.cells (kid_mem (List.getElem_mem hi))).1
  have HE : Hid (kidOf t r.p x = ((kids t r.p).drop 0).find? fun c => decide (lastB c.p = x)) := rfl
  generalize kidOf t r.p x = o at *
  generalize A r.p = a at *
  generalize kids t r.p = K at *
  have H := Lib.hid hk
  clear hk h hS hr
  unfold ptr ptrO
  go_enter Tryz.func221, Tryz.ntmps221
  go_wp2
  go_loop [12] (fun i => ∃ k : Nat, k ≤ K.length ∧ i = .int .i64 k ∧ Hid (o = (K.drop k).find? fun c => decide (lastB c.p = x))) (fun i => K.length - (intOf i).toNat)
  case atStart => exact ⟨0, by omega, rfl, HE⟩
  case round =>
    obtain ⟨k, hk, rfl, HK⟩ := hrel
    by_cases hlt : k < K.length
    · obtain ⟨g, rfl, hg, hcell⟩ := H.out (by omega)
      have c1 := hcell k hlt
      have c2 := HM.out k hlt
      unfold ptr at c1
      have HS := Lib.hid (HK.out.trans (find_step hlt))
      clear hcell HK
      have hi1 : (k : Int) < (K.length : Int) := by omega
      have hi0 : (0 : Int) ≤ (k : Int) := by omega
      rcases Bool.eq_false_or_eq_true ((lastB K[k].p).toList == x.toList) with he | he
      · have HF : Hid (o = some K[k]) := by show _ = _; rw [HS.out, if_pos (by simpa using str_eq_of he)]
        clear HS
        go_wp2
        go_ret
        exact ⟨by rw [HF.out]; rfl, rfl⟩
      · have HF : Hid (o = (K.drop (k + 1)).find? fun c => decide (lastB c.p = x)) := by
          show _ = _
          rw [HS.out, if_neg]
          intro e
          rw [of_decide_eq_true e] at he
          simp at he
        clear HS
        go_wp2
        exact ⟨⟨k + 1, by omega, by go_num, HF⟩, by simp [intOf]; omega⟩
    · have HF : Hid (o = none) := by show _ = _; rw [HK.out, List.drop_eq_nil_of_le (by omega)]; rfl
      go_wp2
      go_ret
      exact ⟨by rw [HF.out]; rfl, rfl⟩

theorem part_sl {w : World} {base : Nat} {v : Value} {L : List (List UInt8)} (h : w.ownsRow base 9 1 v L.length (L.map strV)) : PartSl w v L := by
  rcases h.2 with ⟨rfl, hn⟩ | ⟨g, cap, cur, rfl, _, hg, hc, _⟩
  · exact ⟨none, 0, by rw [hn], by omega, fun h => by omega⟩
  · refine ⟨_, cap, rfl, hc, fun _ => ⟨g, rfl, (Array.getElem?_eq_some_iff.1 hg).1, fun i hi => ?_⟩⟩
    rw [h.cellAt i (by omega), List.getElem?_map, List.getElem?_eq_getElem hi]
    rfl
def zN : R := ⟨0, 0, ByteArray.empty, ByteArray.empty, false⟩
/-- Resolving, with r found at the j-th step. -/
def resFrom (t : List R) (q : ByteArray) (r : R) (j : Nat) : R × Int := if j = nparts q then (r, 0) else if r.k ≠ 3 then (zN, 13) else findFrom t q j
theorem find_no {t : List R} {q : ByteArray} {j : Nat} (hj : j < nparts q) (h : recAt t (pre q j) = none) : findFrom t q j = (zN, 5) := by
  rw [findFrom, if_pos hj]
  rcases atL_recAt t (pre q j) with ⟨h1, _⟩ | ⟨k, hk, _, h2⟩
  · rw [if_pos (by rw [h1]; decide)]; rfl
  · rw [h] at h2; cases h2
theorem find_yes {t : List R} {q : ByteArray} {j : Nat} (hj : j < nparts q) {r : R} (h : recAt t (pre q j) = some r) : findFrom t q j = resFrom t q r (j + 1) := by
  rw [findFrom, if_pos hj]
  rcases atL_recAt t (pre q j) with ⟨_, h2⟩ | ⟨k, hk, h1, h2⟩
  · rw [h] at h2; cases h2
  · rw [h] at h2
    cases h2
    rw [h1, if_neg (by omega), Int.toNat_natCast, List.getElem?_eq_getElem hk]
    unfold resFrom
    by_cases he : j + 1 = nparts q
    · rw [if_pos he, if_pos he]; rfl
    · rw [if_neg he, if_neg he]
      by_cases h3 : t[k].k ≠ 3
      · rw [if_pos (by simpa using h3), if_pos h3]; rfl
      · rw [if_neg (by simpa using h3), if_neg h3]
/-- What resolving answers: the branch and the code. -/
def resV (A : ByteArray → Nat) (t : List R) (q : ByteArray) : Value := .tuple #[.pointer (if (findT t q).2 = 0 then some ⟨A q, 0, none⟩ else none), .int .i64 (findT t q).2]

set_option maxHeartbeats 400000 in
theorem resolve_any {w : World} {base : Nat} {A : ByteArray → Nat} {S : ByteArray → Value} {t : List R} (h : Tr w base A S t) (ht : IsTree t) (hl : t.length ≤ 1048576) (v : Value) {q : ByteArray} (hq : pathB q.data.toList = true) (hv : PartSl w v (cutAt 47 q.data.toList)) :
    Calls Tryz.prog 209 #[ptr (A ByteArray.empty), v] w fun e w' => e = .returned (resV A t q) ∧ w = w' := by
  obtain ⟨pA, cap, rfl, hcap, hp⟩ := hv
  have h4 := (pathB_parts hq).1
  have HP := Lib.hid hp
  have HT := Lib.hid h
  have HI := Lib.hid ht
  have HF0 : Hid (findT t q = resFrom t q rootR 0) := by
    show _ = _
    have := nparts_pos q
    unfold resFrom
    rw [if_neg (by omega), if_neg (by decide), find_is ht hq]
  have hn0 := nparts_pos q
  have HN : Hid (nparts q = (cutAt 47 q.data.toList).length) := rfl
  clear hp h ht
  unfold ptr
  go_enter Tryz.func209, Tryz.ntmps209
  go_wp2
  go_loop [6, 13] (fun a i => ∃ (j : Nat) (r : R), j ≤ nparts q ∧ i = .int .i64 j ∧ a = .pointer (some ⟨A r.p, 0, none⟩) ∧ Hid (r ∈ rootR :: t ∧ (j < nparts q → parO (pre q j) = r.p) ∧ (j = nparts q → r.p = q) ∧ findT t q = resFrom t q r j)) (fun _ i => nparts q - (intOf i).toNat)
  case atStart => exact ⟨0, rootR, by omega, rfl, rfl, List.mem_cons_self .., fun _ => pre_parent0 hq, fun h => by omega, HF0.out⟩
  case round =>
    obtain ⟨j, r, hj, rfl, rfl, HR⟩ := hrel
    obtain ⟨hr, hpar, hend, hres⟩ := HR.out
    have hnl := HN.out
    by_cases hlt : j < nparts q
    · obtain ⟨g, rfl, hg, hcell⟩ := HP.out (by omega)
      obtain ⟨_, k1, _⟩ := HT.out.cells hr
      have hlast := pre_lastB hq hlt
      have c0 : w.cell? ⟨g, j, none⟩ = some (.string (lastB (pre q j))) := by rw [hlast]; exact hcell j (by omega)
      have hi1 : (j : Int) < ((cutAt 47 q.data.toList).length : Int) := by omega
      have hi0 : (0 : Int) ≤ (j : Int) := by omega
      have HC := child_any HT.out hr (lastB (pre q j)) hl
      have hkid : kidOf t r.p (lastB (pre q j)) = recAt t (pre q j) := kid_find HI.out.path (pre_path hq j) (hpar hlt) rfl
      rw [hkid] at HC
      unfold ptr at HC
      clear hcell hlast hkid hnl
      by_cases h3 : r.k = 3
      · have hd : (r.k != 3) = false := by simpa using h3
        have hff : findT t q = findFrom t q j := by rw [hres]; unfold resFrom; rw [if_neg (by omega), if_neg (by simpa using h3)]
        clear hres h3
        cases ho : recAt t (pre q j) with
        | none =>
          have HE : Hid (findT t q = (zN, 5)) := hff.trans (find_no hlt ho)
          rw [ho] at HC
          clear hff hpar hend HR
          go_wp2_with fail
          refine HC.mono ?_
          rintro e w1 ⟨rfl, rfl⟩
          unfold ptrO
          go_wp2_with fail
          go_ret2
          exact ⟨by unfold resV; rw [HE.out]; rfl, rfl⟩
        | some c =>
          have HE := Lib.hid (hff.trans (find_yes hlt ho))
          have HM := Lib.hid (recAt_mem ho)
          rw [ho] at HC
          clear hff hpar hend HR
          go_wp2_with fail
          refine HC.mono ?_
          rintro e w1 ⟨rfl, rfl⟩
          unfold ptrO
          go_wp2_with fail
          refine ⟨⟨j + 1, c, by omega, by go_num, rfl, ⟨List.mem_cons_of_mem _ HM.out.1, fun h => ?_, fun h => ?_, HE.out⟩⟩, by simp [intOf]; omega⟩
          · rw [pre_parent hq h, HM.out.2]
          · rw [HM.out.2, pre_last j (by omega)]
      · have HE : Hid (findT t q = (zN, 13)) := by show _ = _; rw [hres]; unfold resFrom; rw [if_neg (by omega), if_pos h3]
        have hd : (r.k != 3) = true := by simpa using h3
        clear hres h3 hpar hend HR
        go_wp2_with fail
        go_ret2
        exact ⟨by unfold resV; rw [HE.out]; rfl, rfl⟩
    · have HE : Hid (findT t q = (r, 0)) := by show _ = _; rw [hres]; unfold resFrom; rw [if_pos (by omega)]
      have HQ := Lib.hid (hend (by omega))
      clear hres hpar hend HR
      have hi1 : ¬ ((j : Int) < ((cutAt 47 q.data.toList).length : Int)) := by omega
      go_wp2_with fail
      go_ret2
      exact ⟨by unfold resV; rw [HE.out, HQ.out]; rfl, rfl⟩

theorem resolve_none {w : World} (a : Nat) (v : Value) (hv : PartSl w v []) :
    Calls Tryz.prog 209 #[ptr a, v] w fun e w' => e = .returned (.tuple #[ptr a, .int .i64 0]) ∧ w = w' := by
  obtain ⟨pA, cap, rfl, hcap, hp⟩ := hv
  unfold ptr
  clear hp
  go_enter Tryz.func209, Tryz.ntmps209
  go_wp2
  refine wp_loop_rounds 1 ?_
  rw [rounds_succ]
  go_wp2
  go_ret2
  exact ⟨rfl, rfl⟩
end Go.Proofs.YtibekkfbpmloiabGreatDoor.Recs

/- A tree in memory: resolving a path; the place for a node of a path. -/
namespace Go.Proofs.YtibekkfbpmloiabGreatDoor.Recs
set_option maxRecDepth 100000
open Go.RowKit Paths

/-- The place for a node of a path: the code. -/
def placeC (t : List R) (q : ByteArray) : Int :=
  if (findT t q).2 = 0 then 18 else if (findT t q).2 = 13 then 13 else if parO q = ByteArray.empty ∨ (recAt t (parO q)).isSome = true then 0 else 12
def placeV (A : ByteArray → Nat) (t : List R) (q : ByteArray) : Value := .tuple #[.pointer (if placeC t q = 0 then some ⟨A (parO q), 0, none⟩ else none), .int .i64 (placeC t q)]
theorem findT_codes (t : List R) (q : ByteArray) : (findT t q).2 = 0 ∨ (findT t q).2 = 13 ∨ (findT t q).2 = 5 := by
  unfold findT
  cases recAt t q with
  | some r => exact .inl rfl
  | none =>
    cases blocked t q with
    | true => exact .inr (.inl rfl)
    | false => exact .inr (.inr rfl)
theorem findT_zero {t : List R} {q : ByteArray} : (findT t q).2 = 0 ↔ (recAt t q).isSome = true := by
  unfold findT
  cases recAt t q with
  | some r => simp
  | none => cases blocked t q <;> simp
theorem own_some {w : World} {base : Nat} {e : TypeId} {v : Value} {n : Nat} {xs : List Value} (h : w.ownsRow base e 1 v n xs) (hv : v ≠ .slice none 0 0) : ∃ g cap, v = .slice (some ⟨g, 0, none⟩) n cap ∧ g < w.heap.size ∧ n ≤ cap ∧ cap ≤ maxLen := by
  rcases h.2 with ⟨rfl, _⟩ | ⟨g, cap, cur, rfl, _, hg, hc, hm, _⟩
  · exact absurd rfl hv
  · exact ⟨g, cap, rfl, (Array.getElem?_eq_some_iff.1 hg).1, hc, hm⟩
theorem cut_parO {q : ByteArray} (h : pathB q.data.toList = true) (hp : parO q ≠ ByteArray.empty) : pathB (parO q).data.toList = true ∧ cutAt 47 (parO q).data.toList = (cutAt 47 q.data.toList).take ((cutAt 47 q.data.toList).length - 1) := by
  rcases parent_cases h with ⟨h1, _⟩ | ⟨h1, h2, _⟩
  · exact absurd (parO_empty.2 h1) hp
  · refine ⟨h1, ?_⟩
    rw [parO_data, h2, List.dropLast_eq_take]
theorem cut_one {q : ByteArray} (h : pathB q.data.toList = true) (hp : parO q = ByteArray.empty) : (cutAt 47 q.data.toList).length = 1 := by
  rcases parent_cases h with ⟨_, h2, _⟩ | ⟨_, _, h3, _⟩
  · rw [h2]; rfl
  · exact absurd (parO_empty.1 hp) h3

section
variable {w : World} {base : Nat} {A : ByteArray → Nat} {S : ByteArray → Value} {t : List R}
set_option maxHeartbeats 800000 in
theorem placeFor_any (h : Tr w base A S t) (ht : IsTree t) (hl : t.length ≤ 1048576) (q : ByteArray) (hq : q.size ≤ maxLen) (hp : pathB q.data.toList = true) :
    Calls Tryz.prog 187 #[ptr (A ByteArray.empty), .string q] w fun e w' => e = .returned (placeV A t q) ∧ Below w.heap.size w w' := by
  have HC := splitPath_any q w hq
  unfold ptr
  go_enter Tryz.func187, Tryz.ntmps187
  go_wp2_with fail
  refine HC.mono ?_
  rintro e w1 ⟨v, rfl, hb1, ho, -, hn⟩
  rw [partsOf_yes hp] at ho
  have hv := part_sl ho
  obtain ⟨g, cap, rfl, -, hc, hcm⟩ := own_some ho (hn hp)
  have HR := resolve_any (h.below hb1) ht hl _ hp hv
  unfold ptr resV at HR
  have h4 := (pathB_parts hp).1
  have h1 := cutAt_pos 47 q.data.toList
  have HV := Lib.hid hv
  have HTr := Lib.hid (h.below hb1)
  clear hv ho hn h
  rcases findT_codes t q with h0 | h0 | h0
  · have HE : Hid (placeC t q = 18) := by show _ = _; unfold placeC; rw [if_pos h0]
    rw [h0] at HR
    clear h0
    go_wp2_with fail
    refine HR.mono ?_
    rintro e w2 ⟨rfl, rfl⟩
    go_wp2_with fail
    go_ret2
    exact ⟨by unfold placeV; rw [HE.out]; rfl, hb1⟩
  · have HE : Hid (placeC t q = 13) := by show _ = _; unfold placeC; rw [h0]; rfl
    rw [h0] at HR
    clear h0
    go_wp2_with fail
    refine HR.mono ?_
    rintro e w2 ⟨rfl, rfl⟩
    go_wp2_with fail
    go_ret2
    exact ⟨by unfold placeV; rw [HE.out]; rfl, hb1⟩
  · have HE : Hid (placeC t q = if parO q = ByteArray.empty ∨ (recAt t (parO q)).isSome = true then 0 else 12) := by show _ = _; unfold placeC; rw [if_neg (by rw [h0]; decide), if_neg (by rw [h0]; decide)]
    rw [h0] at HR
    clear h0
    generalize hN : (cutAt 47 q.data.toList).length = N at *
    have hw1 : IntKind.i64.wrap ((N : Int) - 1) = ((N - 1 : Nat) : Int) := by rw [IntKind.wrap_i64]; omega
    have hi1 : ((N - 1 : Nat) : Int) ≤ (cap : Int) := by omega
    have hi2 : (0 : Int) ≤ ((N - 1 : Nat) : Int) := by omega
    by_cases hr : parO q = ByteArray.empty
    · have HF : Hid (placeC t q = 0) := by show _ = _; rw [HE.out, if_pos (.inl hr)]
      have hN1 : N = 1 := by rw [← hN]; exact cut_one hp hr
      have HR2 := resolve_none (A ByteArray.empty) (.slice (some ⟨g, 0, none⟩) 0 cap) (show PartSl w1 _ [] from ⟨_, cap, rfl, Nat.zero_le _, fun h => by cases h⟩)
      unfold ptr at HR2
      subst hN1
      have HQ := Lib.hid hr
      clear hr HE hN
      go_wp2_with fail
      refine HR.mono ?_
      rintro e w2 ⟨rfl, rfl⟩
      go_wp2_with fail
      refine HR2.mono ?_
      rintro e w2 ⟨rfl, rfl⟩
      go_wp2_with fail
      go_ret2
      exact ⟨by unfold placeV; rw [HF.out, HQ.out]; rfl, hb1⟩
    · obtain ⟨hpp, hcut⟩ := cut_parO hp hr
      have hvt : PartSl w1 (.slice (some ⟨g, 0, none⟩) (N - 1) cap) (cutAt 47 (parO q).data.toList) := by
        rw [hcut]
        have hv := HV.out
        rw [← hN] at hv ⊢
        exact hv.take (by omega)
      have HR2 := resolve_any HTr.out ht hl _ hpp hvt
      unfold ptr resV at HR2
      have hz := findT_zero (t := t) (q := parO q)
      by_cases h0 : (findT t (parO q)).2 = 0
      · have HF : Hid (placeC t q = 0) := by show _ = _; rw [HE.out, if_pos (.inr (hz.1 h0))]
        rw [h0] at HR2
        clear hr HE hN h0 hz hcut hvt
        go_wp2_with fail
        refine HR.mono ?_
        rintro e w2 ⟨rfl, rfl⟩
        go_wp2_with fail
        refine HR2.mono ?_
        rintro e w2 ⟨rfl, rfl⟩
        go_wp2_with fail
        go_ret2
        exact ⟨by unfold placeV; rw [HF.out]; rfl, hb1⟩
      · have HF : Hid (placeC t q = 12) := by
          show _ = _
          rw [HE.out, if_neg]
          rintro (h2 | h2)
          · exact hr h2
          · exact h0 (hz.2 h2)
        have hd : ((findT t (parO q)).2 != 0) = true := by simpa using h0
        rw [if_neg h0] at HR2
        clear hr HE hN h0 hz hcut hvt
        go_wp2_with fail
        refine HR.mono ?_
        rintro e w2 ⟨rfl, rfl⟩
        go_wp2_with fail
        refine HR2.mono ?_
        rintro e w2 ⟨rfl, rfl⟩
        go_wp2_with fail
        go_ret2
        exact ⟨by unfold placeV; rw [HF.out]; rfl, hb1⟩
end
end Go.Proofs.YtibekkfbpmloiabGreatDoor.Recs

/- slices.Insert of one pointer into a row of pointers of the call's own: what comes out, wherever it goes. -/
namespace Go.Proofs.YtibekkfbpmloiabGreatDoor.Recs
set_option maxRecDepth 100000
open Go.RowKit Paths

theorem brInfo : (Tryz.prog.info? 146).map (fun i => (i.zero, i.size, i.bytes)) = some (some (.pointer none), 1, 8) := by kernel_rfl
/-- What 'append' hands back lies in the old row, or in a new one. -/
theorem append_where {P : Program} (w : World) (base : Nat) (t ty e : TypeId) (i : TypeInfo) (z : Value) (bytes : Nat) (ht : P.underlying t = some (.slice e)) (hi : P.info? e = some i) (hz : i.zero = some z)
    (hsize : i.size = 1) (hby : i.bytes = bytes) (v : Value) (n : Nat) (xs : List Value) (hown : w.ownsRow base e 1 v n xs)
    (a : Addr) (c : Nat) (p : Value) (hp0 : ∀ j u, [p][j]? = some u → w.cell? (a.add j) = some u) (h1 : p.oneCell' = true) (hn : n ≤ 1000) (hb : bytes ≤ 1000) {v' : Value} {w' : World}
    (hr : (Builtin.append_ #[t, t] ty #[v, .slice (some a) 1 c]).run P w = .ok v' w') : v'.ownBlock = v.ownBlock ∨ v'.ownBlock = some w.heap.size := by
  have hbig : (n + 1) * bytes ≤ 140737488355328 := by
    have : (n + 1) * bytes ≤ 1001 * 1000 := Nat.mul_le_mul (by omega) hb
    omega
  rcases hown.2 with ⟨rfl, rfl⟩ | ⟨g, cap, cur, rfl, hbg, hg, hnc, hcm, hcs, htake⟩
  · rw [run_append_nil w t ty e i z ht hi hz a 1 c [p] (by simp [hsize]) hp0 (by omega) (by omega) (by rw [hby]; omega)] at hr
    cases hr
    exact .inr rfl
  · by_cases hroom : n + 1 ≤ cap
    · rw [run_append_room w t ty e i ht hi g n cap cur hg a 1 c [p] (by simp [hsize]) hp0 (by simpa using h1) hroom (by rw [hsize]; simp; omega)] at hr
      cases hr
      exact .inl rfl
    · have holds : ∀ j u, xs[j]? = some u → w.cell? ((⟨g, 0, none⟩ : Addr).add j) = some u := hown.cells (g := g) rfl
      rw [run_append_grow w t ty e i z ht hi hz ⟨g, 0, none⟩ n cap xs (by rw [hown.1, hsize]) holds a 1 c [p] (by simp [hsize]) hp0 (by omega) (by omega) (by rw [hby]; exact growslice_fits (by omega) hbig)] at hr
      cases hr
      exact .inr rfl

/-- 'copy' for the walk, where its run is known. -/
theorem wp_copy_known (w : World) {P : Program} {o : Oper} {a : Act} {K : Act → World → Prop} {Q : Exit → Act → World → Prop} (d s : Operand) (t t' : TypeId)
    (ho : o.op = .call { callee := .builtin .copy, args := #[d, s], argTypes := #[t, t'] }) (v u : Value) (hd : a.eval d = v) (hs : a.eval s = u) {v' : Value} {w' : World}
    (hr : (Builtin.copy_ #[t, t'] o.type #[v, u]).run P w = .ok v' w') (h : K (a.put o.dst v') w') : o.wp P a w K Q := by
  unfold Oper.wp execOp
  simp only [ho, resolve, invoke, builtin, Sem.run_bind, Sem.run_pure, Result.andThen_ok, List.map_toArray, List.map_cons, List.map_nil, hd, hs, hr]
  exact h
theorem wpList_copy_known (w : World) {P : Program} {ops : Array Oper} {rest : List Oper} {o : Oper} {a : Act} {Q : Exit → Act → World → Prop} (hgd : o.guard = none) (d s : Operand) (t t' : TypeId)
    (ho : o.op = .call { callee := .builtin .copy, args := #[d, s], argTypes := #[t, t'] }) (v u : Value) (hd : a.eval d = v) (hs : a.eval s = u) {v' : Value} {w' : World}
    (hr : (Builtin.copy_ #[t, t'] o.type #[v, u]).run P w = .ok v' w') (h : wpList P ops Q rest (a.put o.dst v') w') : wpList P ops Q (o :: rest) a w :=
  wpList_plain hgd fun _ hK => wp_copy_known w d s t t' ho v u hd hs hr (hK _ _ h)
theorem step_copy_known {P : Program} {ops : Array Oper} {o : Oper} {a : Act} {w : World} {K : Act → World → Prop} {Q : Exit → Act → World → Prop} {E : Prop}
    (hg : o.guard = none) (d x : Operand) (dT sT : TypeId) (hop : o.op = Op.call { callee := Callee.builtin Builtin.copy, args := #[d, x], argTypes := #[dT, sT] })
    (v u : Value) (hd : a.eval d = v) (hx : a.eval x = u) {v' : Value} {w' : World} (hr : (Builtin.copy_ #[dT, sT] o.type #[v, u]).run P w = .ok v' w') (hK : K (a.put o.dst v') w') :
    if Region.wanted o (yielded ops a.tmps) = true then Oper.wp P o a w K Q else E := by
  have hw : Region.wanted o (yielded ops a.tmps) = true := by simp [Region.wanted, hg]
  rw [if_pos hw]
  exact wp_copy_known w d x dT sT hop v u hd hx hr hK

/-- A row with some of its cells written over. -/
def putA (cur : Array Value) : Nat → List Value → Array Value
  | _, [] => cur
  | o, v :: r => putA (cur.setIfInBounds o v) (o + 1) r
theorem putA_size : ∀ (vs : List Value) (o : Nat) (cur : Array Value), (putA cur o vs).size = cur.size
  | [], _, _ => rfl
  | v :: r, o, cur => by rw [putA, putA_size r]; simp
theorem set_take_drop (l : List Value) (o : Nat) (v : Value) (h : o < l.length) : l.set o v = l.take o ++ v :: l.drop (o + 1) := by
  rw [List.set_eq_take_append_cons_drop, if_pos h]
theorem putA_list : ∀ (vs : List Value) (o : Nat) (cur : Array Value), o + vs.length ≤ cur.size → (putA cur o vs).toList = cur.toList.take o ++ vs ++ cur.toList.drop (o + vs.length)
  | [], o, cur, _ => by simp [putA]
  | v :: r, o, cur, h => by
    simp only [List.length_cons] at h
    have hl : o < cur.toList.length := by simp; omega
    rw [putA, putA_list r (o + 1) _ (by simp; omega), Array.toList_setIfInBounds, set_take_drop _ _ _ hl]
    have e0 : (cur.toList.take o).length = o := by rw [List.length_take]; omega
    have e3 : cur.toList.drop (o + (r.length + 1)) = (cur.toList.drop (o + 1)).drop r.length := by rw [List.drop_drop]; congr 1; omega
    rw [List.length_cons, e3]
    generalize cur.toList.take o = A at e0 ⊢
    generalize cur.toList.drop (o + 1) = B
    have e1 : (A ++ v :: B).take (o + 1) = A ++ [v] := by
      rw [List.take_append, List.take_of_length_le (l := A) (by omega), e0, show o + 1 - o = 1 by omega]
      rfl
    have e2 : (A ++ v :: B).drop (o + 1 + r.length) = B.drop r.length := by
      rw [List.drop_append, List.drop_eq_nil_of_le (show A.length ≤ o + 1 + r.length by omega), e0, show o + 1 + r.length - o = r.length + 1 by omega]
      rfl
    rw [e1, e2]
    simp
theorem setCells_at (b : Nat) {e : TypeId} {fz : Nat × Nat} : ∀ (vs : List Value) (o : Nat) (w : World) (cur : Array Value), w.heap[b]? = some (.cells cur e fz) → (w.setCells b o vs).heap[b]? = some (.cells (putA cur o vs) e fz)
  | [], _, _, _, h => h
  | v :: r, o, w, cur, h => by
    rw [World.setCells, putA]
    refine setCells_at b r (o + 1) _ _ ?_
    simp [World.setCell, Array.getElem?_modify, h]
theorem setCells_grown (b : Nat) : ∀ (vs : List Value) (o : Nat) (w : World), w.grownBy (w.setCells b o vs) (some b)
  | [], _, w => ⟨rfl, rfl, rfl, Nat.le_refl _, fun _ _ _ => rfl⟩
  | v :: r, o, w => by
    rw [World.setCells]
    have h1 : w.grownBy (w.setCell ⟨b, o, none⟩ v) (some b) := ⟨rfl, rfl, rfl, by simp, fun k hk hne => Below.heap_setCell _ _ _ _ (fun e => hne (by rw [e]))⟩
    exact grown_trans h1 (setCells_grown b r (o + 1) _)
theorem drew_grown (w : World) (row : Option Nat) : w.grownBy w.drew row := ⟨rfl, rfl, rfl, Nat.le_refl _, fun _ _ _ => rfl⟩

/-- What an insertion leaves. -/
def InsPost (base : Nat) (v : Value) (n : Nat) (ys : List Value) (w : World) (e : Ending) (w' : World) : Prop :=
  ∃ v', e = .returned v' ∧ w'.ownsRow base 146 1 v' (n + 1) ys ∧ w.grownBy w' v.ownBlock ∧ (v'.ownBlock = v.ownBlock ∨ v'.ownBlock = some w.heap.size)

set_option maxHeartbeats 1600000 in
theorem insert_end (base : Nat) (v : Value) (n : Nat) (xs : List Value) (g : Nat) (p : Value) (w : World) (hown : w.ownsRow base 146 1 v n xs) (hn : n ≤ 1000) (hg : w.heap[g]? = some (.cells #[p] 146 (0, 0))) (hp : p.oneCell' = true) (hb : base ≤ w.heap.size) :
    Calls Tryz.prog 210 #[v, .int .i64 n, .slice (some ⟨g, 0, none⟩) 1 1] w (InsPost base v n (xs ++ [p]) w) := by
  obtain ⟨i0, hi, hI0, hI1, hI2⟩ := info_parts brInfo
  have hp0 : w.cell? ⟨g, 0, none⟩ = some p := by unfold World.cell?; simp [hg]
  have hnews : ∀ j u, [p][j]? = some u → w.cell? ((⟨g, 0, none⟩ : Addr).add j) = some u := by
    intro j u hj
    match j, hj with
    | 0, hj => cases hj; rw [Addr.add_lit]; exact hp0
    | j + 1, hj => simp at hj
  obtain ⟨v', w', hr, h2, h3, _⟩ := run_append_own (P := Tryz.prog) w base 195 195 146 i0 (.pointer none) 1 8 Tryz.underlying195 hi hI0 hI1 hI2 rfl (by decide) v n xs hown ⟨g, 0, none⟩ 1 1 [p] rfl hnews (by simpa using hp) (by unfold maxLen; omega) (by omega) hb
  have h4 := append_where w base 195 195 146 i0 (.pointer none) 8 Tryz.underlying195 hi hI0 hI1 hI2 v n xs hown ⟨g, 0, none⟩ 1 p hnews hp hn (by omega) hr
  have HP : Hid (InsPost base v n (xs ++ [p]) w (.returned v') w') := ⟨v', rfl, h2, h3, h4⟩
  obtain ⟨sA, cap, rfl⟩ := own_form hown
  have hnc : n ≤ cap := by
    rcases hown.2 with ⟨e, rfl⟩ | ⟨_, _, _, e, _, _, h, _⟩
    · omega
    · cases e; exact h
  have hcm : cap ≤ 9223372036854775807 := by
    rcases hown.2 with ⟨e, rfl⟩ | ⟨_, _, _, e, _, _, h, hc, _⟩
    · cases e; omega
    · cases e; unfold maxLen at hc; omega
  clear hown h2 h3 h4 hp0 hnews hg
  cases sA with
  | none =>
    go_enter Tryz.func210, Tryz.ntmps210
    go_wp2_with (at_builtin; refine Lib.wpList_append_run _ rfl _ _ _ _ rfl _ _ rfl rfl _ _ hr ?_)
    all_goals (go_ret; exact HP.out)
  | some a =>
    obtain ⟨ab, ao, asp⟩ := a
    go_enter Tryz.func210, Tryz.ntmps210
    go_wp2_with (at_builtin; refine Lib.wpList_append_run _ rfl _ _ _ _ rfl _ _ rfl rfl _ _ hr ?_)
    all_goals (go_ret; exact HP.out)
end Go.Proofs.YtibekkfbpmloiabGreatDoor.Recs
