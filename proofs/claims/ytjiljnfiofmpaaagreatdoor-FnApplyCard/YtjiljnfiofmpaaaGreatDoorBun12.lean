/- Several texts of mine in one file (each begins with its own remark). -/
import Derived.Test.YtjiljnfiofmpaaaGreatDoorBun9
import Derived.Test.YtjiljnfiofmpaaaGreatDoorBun1
import Derived.Test.YtjiljnfiofmpaaaGreatDoorBun5
import Derived.Test.YtjiljnfiofmpaaaGreatDoorBun11
import Derived.Test.YtjiljnfiofmpaaaGreatDoorBun10
import Derived.Laws.OwnMore
import Derived.Lib.SliceRun
import Derived.OneCell
import Derived.Deep.RegionWith
/- A tree in memory: what each branch holds; finding a child of a branch, resolving parts. -/

namespace Go.Proofs.YtjiljnfiofmpaaaGreatDoor.Recs
set_option maxRecDepth 100000
open Go.RowKit Paths

/-- A branch's six cells. -/
def brCells (r : R) (s : Value) : Array Value := #[.string (lastB r.p), .int .i64 r.k, .string r.p, .string r.b, .int .i64 r.m, s]
def ptr (a : Nat) : Value := .pointer (some ⟨a, 0, none⟩)
def ptrs (A : ByteArray → Nat) (l : List R) : List Value := l.map fun c => ptr (A c.p)
/-- The tree t lies in memory from 'base' on: A tells the block of each branch, S its slice of what is directly below. -/
structure Tr (w : World) (base : Nat) (A : ByteArray → Nat) (S : ByteArray → Value) (t : List R) : Prop where
  block : ∀ r ∈ rootR :: t, w.heap[A r.p]? = some (.cells (brCells r (S r.p)) 102 (0, 0))
  own : ∀ r ∈ rootR :: t, base ≤ A r.p
  row : ∀ r ∈ rootR :: t, w.ownsRow base 83 1 (S r.p) (kids t r.p).length (ptrs A (kids t r.p))
  apart : ∀ r ∈ rootR :: t, ∀ x ∈ rootR :: t, r.p ≠ x.p → ∀ g, (S r.p).ownBlock = some g → (S x.p).ownBlock ≠ some g
section
variable {w w' : World} {base : Nat} {A : ByteArray → Nat} {S : ByteArray → Value} {t : List R} {r : R}
theorem Tr.lt (h : Tr w base A S t) (hr : r ∈ rootR :: t) : A r.p < w.heap.size := (Array.getElem?_eq_some_iff.1 (h.block r hr)).1
theorem Tr.below (h : Tr w base A S t) (hb : Below w.heap.size w w') : Tr w' base A S t :=
  ⟨fun r hr => (hb.block _ (h.lt hr)).trans (h.block r hr), h.own, fun r hr => own_below (h.row r hr) hb, h.apart⟩
theorem Tr.cells (h : Tr w base A S t) (hr : r ∈ rootR :: t) :
    w.cell? ⟨A r.p, 0, none⟩ = some (.string (lastB r.p)) ∧ w.cell? ⟨A r.p, 1, none⟩ = some (.int .i64 r.k) ∧ w.cell? ⟨A r.p, 2, none⟩ = some (.string r.p) ∧
    w.cell? ⟨A r.p, 3, none⟩ = some (.string r.b) ∧ w.cell? ⟨A r.p, 4, none⟩ = some (.int .i64 r.m) ∧ w.cell? ⟨A r.p, 5, none⟩ = some (S r.p) := by
  have := h.block r hr
  refine ⟨?_, ?_, ?_, ?_, ?_, ?_⟩ <;> (unfold World.cell?; simp only [this]; rfl)
theorem Tr.frozen (h : Tr w base A S t) (hr : r ∈ rootR :: t) (j : Nat) : w.frozen? ⟨A r.p, j, none⟩ = false := by
  have := h.block r hr
  unfold World.frozen?
  simp only [this]
  simp
theorem Tr.kid (h : Tr w base A S t) (hr : r ∈ rootR :: t) : ∃ sA cap, S r.p = .slice sA (kids t r.p).length cap ∧ (kids t r.p).length ≤ cap ∧
    (0 < (kids t r.p).length → ∃ g, sA = some ⟨g, 0, none⟩ ∧ g < w.heap.size ∧ ∀ i (hi : i < (kids t r.p).length), w.cell? ⟨g, i, none⟩ = some (ptr (A (kids t r.p)[i].p))) := by
  have ho := h.row r hr
  rcases ho.2 with ⟨hv, hn⟩ | ⟨g, cap, cur, hv, hb, hg, hc, _⟩
  · exact ⟨none, 0, by rw [hv, hn], by omega, fun h => by omega⟩
  · refine ⟨_, cap, hv, hc, fun _ => ⟨g, rfl, (Array.getElem?_eq_some_iff.1 hg).1, fun i hi => ?_⟩⟩
    rw [hv] at ho
    rw [ho.cellAt i (by omega)]
    unfold ptrs
    rw [List.getElem?_map, List.getElem?_eq_getElem hi]
    rfl
theorem kid_mem {p : ByteArray} {c : R} (h : c ∈ kids t p) : c ∈ rootR :: t := List.mem_cons_of_mem _ (mem_kids.1 h).1
end

def kidOf (t : List R) (p x : ByteArray) : Option R := (kids t p).find? fun c => decide (lastB c.p = x)
def ptrO (A : ByteArray → Nat) (o : Option R) : Value := .pointer (o.map fun c => ⟨A c.p, 0, none⟩)
theorem find_step {K : List R} {P : R → Bool} {k : Nat} (h : k < K.length) : (K.drop k).find? P = if P K[k] then some K[k] else (K.drop (k + 1)).find? P := by
  rw [List.drop_eq_getElem_cons h, List.find?_cons]
  cases P K[k] <;> rfl

set_option maxHeartbeats 400000 in
theorem child_any {w : World} {base : Nat} {A : ByteArray → Nat} {S : ByteArray → Value} {t : List R} (h : Tr w base A S t) {r : R} (hr : r ∈ rootR :: t) (x : ByteArray) (hl : t.length ≤ 1048576) :
    Calls Tryz.prog 161 #[ptr (A r.p), .string x] w fun e w' => e = .returned (ptrO A (kidOf t r.p x)) ∧ w = w' := by
  obtain ⟨_, _, _, _, _, c5⟩ := h.cells hr
  obtain ⟨sA, cap, hS, hcap, hk⟩ := h.kid hr
  rw [hS] at c5
  have hkl : (kids t r.p).length ≤ 1048576 := Nat.le_trans (List.length_filter_le _ _) hl
  have HM : Hid (∀ i (hi : i < (kids t r.p).length), w.cell? ⟨A (kids t r.p)[i].p, 0, none⟩ = some (.string (lastB (kids t r.p)[i].p))) := fun i hi => (h.cells (kid_mem (List.getElem_mem hi))).1
  have HE : Hid (kidOf t r.p x = ((kids t r.p).drop 0).find? fun c => decide (lastB c.p = x)) := rfl
  generalize kidOf t r.p x = o at *
  generalize A r.p = a at *
  generalize kids t r.p = K at *
  have H := Lib.hid hk
  clear hk h hS hr
  unfold ptr ptrO
  go_enter Tryz.func161, Tryz.ntmps161
  go_wp2
  go_loop [12] (fun i => ∃ k : Nat, k ≤ K.length ∧ i = .int .i64 k ∧ Hid (o = (K.drop k).find? fun c => decide (lastB c.p = x))) (fun i => K.length - (intOf i).toNat)
  case atStart => exact ⟨0, by omega, rfl, HE⟩
  case round =>
    obtain ⟨k, hk, rfl, HK⟩ := hrel
    by_cases hlt : k < K.length
    · obtain ⟨g, rfl, hg, hcell⟩ := H.out (by omega)
      have c1 := hcell k hlt
      have c2 := HM.out k hlt
      unfold ptr at c1
      have HS := Lib.hid (HK.out.trans (find_step hlt))
      clear hcell HK
      have hi1 : (k : Int) < (K.length : Int) := by omega
      have hi0 : (0 : Int) ≤ (k : Int) := by omega
      rcases Bool.eq_false_or_eq_true ((lastB K[k].p).toList == x.toList) with he | he
      · have HF : Hid (o = some K[k]) := by show _ = _; rw [HS.out, if_pos (by simpa using str_eq_of he)]
        clear HS
        go_wp2
        go_ret
        exact ⟨by rw [HF.out]; rfl, rfl⟩
      · have HF : Hid (o = (K.drop (k + 1)).find? fun c => decide (lastB c.p = x)) := by
          show _ = _
          rw [HS.out, if_neg]
          intro e
          rw [of_decide_eq_true e] at he
          simp at he
        clear HS
        go_wp2
        exact ⟨⟨k + 1, by omega, by go_num, HF⟩, by simp [intOf]; omega⟩
    · have HF : Hid (o = none) := by show _ = _; rw [HK.out, List.drop_eq_nil_of_le (by omega)]; rfl
      go_wp2
      go_ret
      exact ⟨by rw [HF.out]; rfl, rfl⟩

/-- A slice that reads as parts. -/
def PartSl (w : World) (v : Value) (L : List (List UInt8)) : Prop :=
  ∃ A cap, v = .slice A L.length cap ∧ L.length ≤ cap ∧ (0 < L.length → ∃ g, A = some ⟨g, 0, none⟩ ∧ g < w.heap.size ∧ ∀ i (hi : i < L.length), w.cell? ⟨g, i, none⟩ = some (strV L[i]))
theorem PartSl.below {w w' : World} {v : Value} {L : List (List UInt8)} (h : PartSl w v L) (hb : Below w.heap.size w w') : PartSl w' v L := by
  obtain ⟨A, cap, rfl, hc, h⟩ := h
  refine ⟨A, cap, rfl, hc, fun hn => ?_⟩
  obtain ⟨g, rfl, hlt, hcell⟩ := h hn
  exact ⟨g, rfl, Nat.lt_of_lt_of_le hlt hb.size, fun i hi => (hb.cell (p := ⟨g, i, none⟩) hlt).trans (hcell i hi)⟩
theorem part_sl {w : World} {base : Nat} {v : Value} {L : List (List UInt8)} (h : w.ownsRow base 9 1 v L.length (L.map strV)) : PartSl w v L := by
  rcases h.2 with ⟨rfl, hn⟩ | ⟨g, cap, cur, rfl, _, hg, hc, _⟩
  · exact ⟨none, 0, by rw [hn], by omega, fun h => by omega⟩
  · refine ⟨_, cap, rfl, hc, fun _ => ⟨g, rfl, (Array.getElem?_eq_some_iff.1 hg).1, fun i hi => ?_⟩⟩
    rw [h.cellAt i (by omega), List.getElem?_map, List.getElem?_eq_getElem hi]
    rfl
theorem PartSl.take {w : World} {sA : Option Addr} {cap : Nat} {L : List (List UInt8)} (h : PartSl w (.slice sA L.length cap) L) {k : Nat} (hk : k ≤ L.length) : PartSl w (.slice sA k cap) (L.take k) := by
  obtain ⟨A', cap', e, hc, h⟩ := h
  cases e
  refine ⟨sA, cap, by rw [List.length_take, Nat.min_eq_left hk], by rw [List.length_take]; omega, fun hn => ?_⟩
  rw [List.length_take] at hn
  obtain ⟨g, e, hb, hcell⟩ := h (by omega)
  refine ⟨g, e, hb, fun i hi => ?_⟩
  rw [List.length_take] at hi
  rw [hcell i (by omega), List.getElem_take]

def zN : R := ⟨0, 0, ByteArray.empty, ByteArray.empty, false⟩
/-- Resolving, with r found at the j-th step. -/
def resFrom (t : List R) (q : ByteArray) (r : R) (j : Nat) : R × Int := if j = nparts q then (r, 0) else if r.k ≠ 3 then (zN, 13) else findFrom t q j
theorem find_no {t : List R} {q : ByteArray} {j : Nat} (hj : j < nparts q) (h : recAt t (pre q j) = none) : findFrom t q j = (zN, 5) := by
  rw [findFrom, if_pos hj]
  rcases atL_recAt t (pre q j) with ⟨h1, _⟩ | ⟨k, hk, _, h2⟩
  · rw [if_pos (by rw [h1]; decide)]; rfl
  · rw [h] at h2; cases h2
theorem find_yes {t : List R} {q : ByteArray} {j : Nat} (hj : j < nparts q) {r : R} (h : recAt t (pre q j) = some r) : findFrom t q j = resFrom t q r (j + 1) := by
  rw [findFrom, if_pos hj]
  rcases atL_recAt t (pre q j) with ⟨_, h2⟩ | ⟨k, hk, h1, h2⟩
  · rw [h] at h2; cases h2
  · rw [h] at h2
    cases h2
    rw [h1, if_neg (by omega), Int.toNat_natCast, List.getElem?_eq_getElem hk]
    unfold resFrom
    by_cases he : j + 1 = nparts q
    · rw [if_pos he, if_pos he]; rfl
    · rw [if_neg he, if_neg he]
      by_cases h3 : t[k].k ≠ 3
      · rw [if_pos (by simpa using h3), if_pos h3]; rfl
      · rw [if_neg (by simpa using h3), if_neg h3]
/-- What resolving answers: the branch and the code. -/
def resV (A : ByteArray → Nat) (t : List R) (q : ByteArray) : Value := .tuple #[.pointer (if (findT t q).2 = 0 then some ⟨A q, 0, none⟩ else none), .int .i64 (findT t q).2]

set_option maxHeartbeats 400000 in
theorem resolve_any {w : World} {base : Nat} {A : ByteArray → Nat} {S : ByteArray → Value} {t : List R} (h : Tr w base A S t) (ht : IsTree t) (hl : t.length ≤ 1048576) (v : Value) {q : ByteArray} (hq : pathB q.data.toList = true) (hv : PartSl w v (cutAt 47 q.data.toList)) :
    Calls Tryz.prog 128 #[ptr (A ByteArray.empty), v] w fun e w' => e = .returned (resV A t q) ∧ w = w' := by
  obtain ⟨pA, cap, rfl, hcap, hp⟩ := hv
  have h4 := (pathB_parts hq).1
  have HP := Lib.hid hp
  have HT := Lib.hid h
  have HI := Lib.hid ht
  have HF0 : Hid (findT t q = resFrom t q rootR 0) := by
    show _ = _
    have := nparts_pos q
    unfold resFrom
    rw [if_neg (by omega), if_neg (by decide), find_is ht hq]
  have hn0 := nparts_pos q
  have HN : Hid (nparts q = (cutAt 47 q.data.toList).length) := rfl
  clear hp h ht
  unfold ptr
  go_enter Tryz.func128, Tryz.ntmps128
  go_wp2
  go_loop [6, 13] (fun a i => ∃ (j : Nat) (r : R), j ≤ nparts q ∧ i = .int .i64 j ∧ a = .pointer (some ⟨A r.p, 0, none⟩) ∧ Hid (r ∈ rootR :: t ∧ (j < nparts q → parO (pre q j) = r.p) ∧ (j = nparts q → r.p = q) ∧ findT t q = resFrom t q r j)) (fun _ i => nparts q - (intOf i).toNat)
  case atStart => exact ⟨0, rootR, by omega, rfl, rfl, List.mem_cons_self .., fun _ => pre_parent0 hq, fun h => by omega, HF0.out⟩
  case round =>
    obtain ⟨j, r, hj, rfl, rfl, HR⟩ := hrel
    obtain ⟨hr, hpar, hend, hres⟩ := HR.out
    have hnl := HN.out
    by_cases hlt : j < nparts q
    · obtain ⟨g, rfl, hg, hcell⟩ := HP.out (by omega)
      obtain ⟨_, k1, _⟩ := HT.out.cells hr
      have hlast := pre_lastB hq hlt
      have c0 : w.cell? ⟨g, j, none⟩ = some (.string (lastB (pre q j))) := by rw [hlast]; exact hcell j (by omega)
      have hi1 : (j : Int) < ((cutAt 47 q.data.toList).length : Int) := by omega
      have hi0 : (0 : Int) ≤ (j : Int) := by omega
      have HC := child_any HT.out hr (lastB (pre q j)) hl
      have hkid : kidOf t r.p (lastB (pre q j)) = recAt t (pre q j) := kid_find HI.out.path (pre_path hq j) (hpar hlt) rfl
      rw [hkid] at HC
      unfold ptr at HC
      clear hcell hlast hkid hnl
      by_cases h3 : r.k = 3
      · have hd : (r.k != 3) = false := by simpa using h3
        have hff : findT t q = findFrom t q j := by rw [hres]; unfold resFrom; rw [if_neg (by omega), if_neg (by simpa using h3)]
        clear hres h3
        cases ho : recAt t (pre q j) with
        | none =>
          have HE : Hid (findT t q = (zN, 5)) := hff.trans (find_no hlt ho)
          rw [ho] at HC
          clear hff hpar hend HR
          go_wp2_with fail
          refine HC.mono ?_
          rintro e w1 ⟨rfl, rfl⟩
          unfold ptrO
          go_wp2_with fail
          go_ret2
          exact ⟨by unfold resV; rw [HE.out]; rfl, rfl⟩
        | some c =>
          have HE := Lib.hid (hff.trans (find_yes hlt ho))
          have HM := Lib.hid (recAt_mem ho)
          rw [ho] at HC
          clear hff hpar hend HR
          go_wp2_with fail
          refine HC.mono ?_
          rintro e w1 ⟨rfl, rfl⟩
          unfold ptrO
          go_wp2_with fail
          refine ⟨⟨j + 1, c, by omega, by go_num, rfl, ⟨List.mem_cons_of_mem _ HM.out.1, fun h => ?_, fun h => ?_, HE.out⟩⟩, by simp [intOf]; omega⟩
          · rw [pre_parent hq h, HM.out.2]
          · rw [HM.out.2, pre_last j (by omega)]
      · have HE : Hid (findT t q = (zN, 13)) := by show _ = _; rw [hres]; unfold resFrom; rw [if_neg (by omega), if_pos h3]
        have hd : (r.k != 3) = true := by simpa using h3
        clear hres h3 hpar hend HR
        go_wp2_with fail
        go_ret2
        exact ⟨by unfold resV; rw [HE.out]; rfl, rfl⟩
    · have HE : Hid (findT t q = (r, 0)) := by show _ = _; rw [hres]; unfold resFrom; rw [if_pos (by omega)]
      have HQ := Lib.hid (hend (by omega))
      clear hres hpar hend HR
      have hi1 : ¬ ((j : Int) < ((cutAt 47 q.data.toList).length : Int)) := by omega
      go_wp2_with fail
      go_ret2
      exact ⟨by unfold resV; rw [HE.out, HQ.out]; rfl, rfl⟩

theorem resolve_none {w : World} (a : Nat) (v : Value) (hv : PartSl w v []) :
    Calls Tryz.prog 128 #[ptr a, v] w fun e w' => e = .returned (.tuple #[ptr a, .int .i64 0]) ∧ w = w' := by
  obtain ⟨pA, cap, rfl, hcap, hp⟩ := hv
  unfold ptr
  clear hp
  go_enter Tryz.func128, Tryz.ntmps128
  go_wp2
  refine wp_loop_rounds 1 ?_
  rw [rounds_succ]
  go_wp2
  go_ret2
  exact ⟨rfl, rfl⟩
end Go.Proofs.YtjiljnfiofmpaaaGreatDoor.Recs

/- A tree in memory: resolving a path; the place for a node of a path. -/

namespace Go.Proofs.YtjiljnfiofmpaaaGreatDoor.Recs
set_option maxRecDepth 100000
open Go.RowKit Paths

/-- The place for a node of a path: the code. -/
def placeC (t : List R) (q : ByteArray) : Int :=
  if (findT t q).2 = 0 then 18 else if (findT t q).2 = 13 then 13 else if parO q = ByteArray.empty ∨ (recAt t (parO q)).isSome = true then 0 else 12
def placeV (A : ByteArray → Nat) (t : List R) (q : ByteArray) : Value := .tuple #[.pointer (if placeC t q = 0 then some ⟨A (parO q), 0, none⟩ else none), .int .i64 (placeC t q)]
theorem findT_codes (t : List R) (q : ByteArray) : (findT t q).2 = 0 ∨ (findT t q).2 = 13 ∨ (findT t q).2 = 5 := by
  unfold findT
  cases recAt t q with
  | some r => exact .inl rfl
  | none =>
    cases blocked t q with
    | true => exact .inr (.inl rfl)
    | false => exact .inr (.inr rfl)
theorem findT_zero {t : List R} {q : ByteArray} : (findT t q).2 = 0 ↔ (recAt t q).isSome = true := by
  unfold findT
  cases recAt t q with
  | some r => simp
  | none => cases blocked t q <;> simp
theorem own_some {w : World} {base : Nat} {e : TypeId} {v : Value} {n : Nat} {xs : List Value} (h : w.ownsRow base e 1 v n xs) (hv : v ≠ .slice none 0 0) : ∃ g cap, v = .slice (some ⟨g, 0, none⟩) n cap ∧ g < w.heap.size ∧ n ≤ cap ∧ cap ≤ maxLen := by
  rcases h.2 with ⟨rfl, _⟩ | ⟨g, cap, cur, rfl, _, hg, hc, hm, _⟩
  · exact absurd rfl hv
  · exact ⟨g, cap, rfl, (Array.getElem?_eq_some_iff.1 hg).1, hc, hm⟩
theorem cut_parO {q : ByteArray} (h : pathB q.data.toList = true) (hp : parO q ≠ ByteArray.empty) : pathB (parO q).data.toList = true ∧ cutAt 47 (parO q).data.toList = (cutAt 47 q.data.toList).take ((cutAt 47 q.data.toList).length - 1) := by
  rcases parent_cases h with ⟨h1, _⟩ | ⟨h1, h2, _⟩
  · exact absurd (parO_empty.2 h1) hp
  · refine ⟨h1, ?_⟩
    rw [parO_data, h2, List.dropLast_eq_take]
theorem cut_one {q : ByteArray} (h : pathB q.data.toList = true) (hp : parO q = ByteArray.empty) : (cutAt 47 q.data.toList).length = 1 := by
  rcases parent_cases h with ⟨_, h2, _⟩ | ⟨_, _, h3, _⟩
  · rw [h2]; rfl
  · exact absurd (parO_empty.1 hp) h3

section
variable {w : World} {base : Nat} {A : ByteArray → Nat} {S : ByteArray → Value} {t : List R}
def resP (A : ByteArray → Nat) (t : List R) (q : ByteArray) : Value := if pathB q.data.toList then resV A t q else .tuple #[.pointer none, .int .i64 10]

set_option maxHeartbeats 400000 in
theorem resolvePath_any (h : Tr w base A S t) (ht : IsTree t) (hl : t.length ≤ 1048576) (q : ByteArray) (hq : q.size ≤ maxLen) :
    Calls Tryz.prog 76 #[ptr (A ByteArray.empty), .string q] w fun e w' => e = .returned (resP A t q) ∧ Below w.heap.size w w' := by
  have HC := splitPath_any q w hq
  have hqn := fun (w : World) (a : Option Addr) (n c n' c' : Nat) => Lib.run_eql_slice_nil (P := Tryz.prog) w 36 9 a n c n' c' Tryz.underlying36
  unfold ptr
  rcases Bool.eq_false_or_eq_true (pathB q.data.toList) with hp | hp
  · go_enter Tryz.func76, Tryz.ntmps76
    go_wp2_with fail
    refine HC.mono ?_
    rintro e w1 ⟨v, rfl, hb1, ho, -, hn⟩
    rw [partsOf_yes hp] at ho
    have hv := part_sl ho
    obtain ⟨g, cap, rfl, -, hc, -⟩ := own_some ho (hn hp)
    have HR := resolve_any (h.below hb1) ht hl _ hp hv
    obtain ⟨P, c, HE⟩ : ∃ P c, Hid (resV A t q = .tuple #[.pointer P, .int .i64 c]) := ⟨_, _, rfl⟩
    rw [HE.out] at HR
    unfold ptr at HR
    clear hv ho hn
    go_wp2_with fail
    refine HR.mono ?_
    rintro e w2 ⟨rfl, rfl⟩
    go_wp2_with fail
    go_ret2
    exact ⟨by unfold resP; rw [if_pos hp, HE.out]; rfl, hb1⟩
  · go_enter Tryz.func76, Tryz.ntmps76
    go_wp2_with fail
    refine HC.mono ?_
    rintro e w1 ⟨v, rfl, hb1, ho, hn, -⟩
    obtain rfl := hn hp
    have HE : Hid (resP A t q = .tuple #[.pointer none, .int .i64 10]) := by show _ = _; unfold resP; rw [if_neg (by rw [hp]; decide)]
    clear ho hn
    go_wp2_with fail
    go_ret2
    exact ⟨by rw [HE.out]; rfl, hb1⟩

set_option maxHeartbeats 800000 in
theorem placeFor_any (h : Tr w base A S t) (ht : IsTree t) (hl : t.length ≤ 1048576) (q : ByteArray) (hq : q.size ≤ maxLen) (hp : pathB q.data.toList = true) :
    Calls Tryz.prog 63 #[ptr (A ByteArray.empty), .string q] w fun e w' => e = .returned (placeV A t q) ∧ Below w.heap.size w w' := by
  have HC := splitPath_any q w hq
  unfold ptr
  go_enter Tryz.func63, Tryz.ntmps63
  go_wp2_with fail
  refine HC.mono ?_
  rintro e w1 ⟨v, rfl, hb1, ho, -, hn⟩
  rw [partsOf_yes hp] at ho
  have hv := part_sl ho
  obtain ⟨g, cap, rfl, -, hc, hcm⟩ := own_some ho (hn hp)
  have HR := resolve_any (h.below hb1) ht hl _ hp hv
  unfold ptr resV at HR
  have h4 := (pathB_parts hp).1
  have h1 := cutAt_pos 47 q.data.toList
  have HV := Lib.hid hv
  have HTr := Lib.hid (h.below hb1)
  clear hv ho hn h
  rcases findT_codes t q with h0 | h0 | h0
  · have HE : Hid (placeC t q = 18) := by show _ = _; unfold placeC; rw [if_pos h0]
    rw [h0] at HR
    clear h0
    go_wp2_with fail
    refine HR.mono ?_
    rintro e w2 ⟨rfl, rfl⟩
    go_wp2_with fail
    go_ret2
    exact ⟨by unfold placeV; rw [HE.out]; rfl, hb1⟩
  · have HE : Hid (placeC t q = 13) := by show _ = _; unfold placeC; rw [h0]; rfl
    rw [h0] at HR
    clear h0
    go_wp2_with fail
    refine HR.mono ?_
    rintro e w2 ⟨rfl, rfl⟩
    go_wp2_with fail
    go_ret2
    exact ⟨by unfold placeV; rw [HE.out]; rfl, hb1⟩
  · have HE : Hid (placeC t q = if parO q = ByteArray.empty ∨ (recAt t (parO q)).isSome = true then 0 else 12) := by show _ = _; unfold placeC; rw [if_neg (by rw [h0]; decide), if_neg (by rw [h0]; decide)]
    rw [h0] at HR
    clear h0
    generalize hN : (cutAt 47 q.data.toList).length = N at *
    have hw1 : IntKind.i64.wrap ((N : Int) - 1) = ((N - 1 : Nat) : Int) := by rw [IntKind.wrap_i64]; omega
    have hi1 : ((N - 1 : Nat) : Int) ≤ (cap : Int) := by omega
    have hi2 : (0 : Int) ≤ ((N - 1 : Nat) : Int) := by omega
    by_cases hr : parO q = ByteArray.empty
    · have HF : Hid (placeC t q = 0) := by show _ = _; rw [HE.out, if_pos (.inl hr)]
      have hN1 : N = 1 := by rw [← hN]; exact cut_one hp hr
      have HR2 := resolve_none (A ByteArray.empty) (.slice (some ⟨g, 0, none⟩) 0 cap) (show PartSl w1 _ [] from ⟨_, cap, rfl, Nat.zero_le _, fun h => by cases h⟩)
      unfold ptr at HR2
      subst hN1
      have HQ := Lib.hid hr
      clear hr HE hN
      go_wp2_with fail
      refine HR.mono ?_
      rintro e w2 ⟨rfl, rfl⟩
      go_wp2_with fail
      refine HR2.mono ?_
      rintro e w2 ⟨rfl, rfl⟩
      go_wp2_with fail
      go_ret2
      exact ⟨by unfold placeV; rw [HF.out, HQ.out]; rfl, hb1⟩
    · obtain ⟨hpp, hcut⟩ := cut_parO hp hr
      have hvt : PartSl w1 (.slice (some ⟨g, 0, none⟩) (N - 1) cap) (cutAt 47 (parO q).data.toList) := by
        rw [hcut]
        have hv := HV.out
        rw [← hN] at hv ⊢
        exact hv.take (by omega)
      have HR2 := resolve_any HTr.out ht hl _ hpp hvt
      unfold ptr resV at HR2
      have hz := findT_zero (t := t) (q := parO q)
      by_cases h0 : (findT t (parO q)).2 = 0
      · have HF : Hid (placeC t q = 0) := by show _ = _; rw [HE.out, if_pos (.inr (hz.1 h0))]
        rw [h0] at HR2
        clear hr HE hN h0 hz hcut hvt
        go_wp2_with fail
        refine HR.mono ?_
        rintro e w2 ⟨rfl, rfl⟩
        go_wp2_with fail
        refine HR2.mono ?_
        rintro e w2 ⟨rfl, rfl⟩
        go_wp2_with fail
        go_ret2
        exact ⟨by unfold placeV; rw [HF.out]; rfl, hb1⟩
      · have HF : Hid (placeC t q = 12) := by
          show _ = _
          rw [HE.out, if_neg]
          rintro (h2 | h2)
          · exact hr h2
          · exact h0 (hz.2 h2)
        have hd : ((findT t (parO q)).2 != 0) = true := by simpa using h0
        rw [if_neg h0] at HR2
        clear hr HE hN h0 hz hcut hvt
        go_wp2_with fail
        refine HR.mono ?_
        rintro e w2 ⟨rfl, rfl⟩
        go_wp2_with fail
        refine HR2.mono ?_
        rintro e w2 ⟨rfl, rfl⟩
        go_wp2_with fail
        go_ret2
        exact ⟨by unfold placeV; rw [HF.out]; rfl, hb1⟩
end
end Go.Proofs.YtjiljnfiofmpaaaGreatDoor.Recs

/- A tree in memory: a node put into its place. -/

namespace Go.Proofs.YtjiljnfiofmpaaaGreatDoor.Recs
set_option maxRecDepth 100000
open Go.RowKit Paths

section
variable {w w' : World} {base : Nat} {A : ByteArray → Nat} {S : ByteArray → Value} {t : List R} {r x n : R}
theorem brCells_path {s s' : Value} (h : brCells r s = brCells x s') : r.p = x.p := by
  have := congrArg (fun c : Array Value => c[2]?) h
  simpa [brCells] using this
theorem Tr.inj (h : Tr w base A S t) (hr : r ∈ rootR :: t) (hx : x ∈ rootR :: t) (e : A r.p = A x.p) : r.p = x.p := by
  have h1 := h.block r hr
  rw [e, h.block x hx] at h1
  simp only [Option.some.injEq, Obj.cells.injEq, and_true] at h1
  exact (brCells_path h1).symm
theorem own_type {e : TypeId} {v : Value} {m : Nat} {xs : List Value} (h : w.ownsRow base e 1 v m xs) {g : Nat} (hg : v.ownBlock = some g) : ∃ cur, w.heap[g]? = some (.cells cur e (0, 0)) := by
  rcases h.2 with ⟨rfl, _⟩ | ⟨g', cap, cur, rfl, _, hh, _⟩
  · cases hg
  · cases hg; exact ⟨cur, hh⟩
theorem types_two : (83 : TypeId) ≠ 102 := by decide
theorem Tr.apart_row (h : Tr w base A S t) (hr : r ∈ rootR :: t) (hx : x ∈ rootR :: t) : (S x.p).ownBlock ≠ some (A r.p) := fun e => by
  obtain ⟨cur, hc⟩ := own_type (h.row x hx) e
  rw [h.block r hr] at hc
  simp only [Option.some.injEq, Obj.cells.injEq] at hc
  exact types_two hc.2.1.symm
theorem root_mem : rootR ∈ rootR :: t := List.mem_cons_self ..
theorem dom_once (hs : Sorted t) (hp : ∀ r ∈ t, pathB r.p.data.toList = true) (hr : r ∈ rootR :: t) (hx : x ∈ rootR :: t) (e : r.p = x.p) : r = x := by
  rcases List.mem_cons.1 hr with rfl | hr <;> rcases List.mem_cons.1 hx with rfl | hx
  · rfl
  · exact absurd e.symm (path_nonempty (hp x hx))
  · exact absurd e (path_nonempty (hp r hr))
  · exact sorted_mem_once hs hr hx e
theorem dom_new (hn : pathB n.p.data.toList = true) (hnew : recAt t n.p = none) (hr : r ∈ rootR :: t) : r.p ≠ n.p := by
  rcases List.mem_cons.1 hr with rfl | hr
  · exact fun e => path_nonempty hn e.symm
  · exact recAt_none hnew r hr
theorem par_ne (hn : pathB n.p.data.toList = true) : n.p ≠ parO n.p := fun e => by
  by_cases hp : parO n.p = ByteArray.empty
  · exact path_nonempty hn (e.trans hp)
  · have := up_self hn
    rw [ups_of_par hn hp, ← e] at this
    exact this (List.mem_cons_self ..)
theorem kids_new (ht : IsTree t) (hn : pathB n.p.data.toList = true) (hnew : recAt t n.p = none) : kids t n.p = [] := by
  unfold kids
  rw [List.filter_eq_nil_iff]
  intro c hc he
  have he := of_decide_eq_true he
  by_cases hp : parentL c.p.data.toList = []
  · exact path_nonempty hn (he.symm.trans (parO_empty.2 hp))
  · obtain ⟨x, hx, h1, _⟩ := ht.housed c hc hp
    exact recAt_none hnew x hx (h1.trans he)

def putAdr (A : ByteArray → Nat) (q : ByteArray) (a : Nat) : ByteArray → Nat := fun p => if p = q then a else A p
def putSl (S : ByteArray → Value) (x q : ByteArray) (v : Value) : ByteArray → Value := fun p => if p = x then v else if p = q then .slice none 0 0 else S p
theorem ptrs_put {l : List R} (a : Nat) (h : ∀ c ∈ l, c.p ≠ n.p) : ptrs (putAdr A n.p a) l = ptrs A l := by
  unfold ptrs putAdr
  exact List.map_congr_left fun c hc => by rw [if_neg (h c hc)]
theorem setCell_block {cur : Array Value} {e : TypeId} {fz : Nat × Nat} {g : Nat} (h : w.heap[g]? = some (.cells cur e fz)) (j : Nat) (u : Value) : (w.setCell ⟨g, j, none⟩ u).heap[g]? = some (.cells (cur.setIfInBounds j u) e fz) := by
  simp [World.setCell, Array.getElem?_modify, h]

theorem Tr.put {W w9 : World} (h : Tr W base A S t) (ht : IsTree t) (hn : pathB n.p.data.toList = true) (hx : x ∈ rootR :: t) (hxp : x.p = parO n.p) (hnew : recAt t n.p = none) {v' : Value} {a : Nat}
    (ha : W.heap[a]? = some (.cells (brCells n (.slice none 0 0)) 102 (0, 0))) (hab : base ≤ a)
    (hown : w9.ownsRow base 83 1 v' ((kids t x.p).length + 1) ((ptrs A (kids t x.p)).take (placeOf (kids t x.p) n) ++ ptr a :: (ptrs A (kids t x.p)).drop (placeOf (kids t x.p) n)))
    (hgrow : W.grownBy w9 (S x.p).ownBlock) (hwh : v'.ownBlock = (S x.p).ownBlock ∨ v'.ownBlock = some W.heap.size) :
    Tr (w9.setCell ⟨A x.p, 5, none⟩ v') base (putAdr A n.p a) (putSl S x.p n.p v') (putL t n) := by
  have hs := ht.sorted
  have hpath := ht.path
  have hnx : n.p ≠ x.p := by rw [hxp]; exact par_ne hn
  have hdn : ∀ r ∈ rootR :: t, r.p ≠ n.p := fun r hr => dom_new hn hnew hr
  have hA : ∀ r ∈ rootR :: t, putAdr A n.p a r.p = A r.p := fun r hr => if_neg (hdn r hr)
  have hAn : putAdr A n.p a n.p = a := if_pos rfl
  have hSx : putSl S x.p n.p v' x.p = v' := if_pos rfl
  have hSn : putSl S x.p n.p v' n.p = .slice none 0 0 := by unfold putSl; rw [if_neg hnx, if_pos rfl]
  have hS : ∀ r ∈ rootR :: t, r.p ≠ x.p → putSl S x.p n.p v' r.p = S r.p := fun r hr he => by unfold putSl; rw [if_neg he, if_neg (hdn r hr)]
  have hmem : ∀ r, r ∈ rootR :: putL t n → r = n ∨ r ∈ rootR :: t := fun r hr => by
    rcases List.mem_cons.1 hr with rfl | hr
    · exact .inr root_mem
    · rcases mem_put.1 hr with rfl | ⟨h1, _⟩
      · exact .inl rfl
      · exact .inr (List.mem_cons_of_mem _ h1)
  have hax : a ≠ A x.p := fun e => by
    have h1 := h.block x hx
    rw [← e, ha] at h1
    simp only [Option.some.injEq, Obj.cells.injEq, and_true] at h1
    exact hnx (brCells_path h1)
  have hasl : (S x.p).ownBlock ≠ some a := fun e => by
    obtain ⟨cur, hc⟩ := own_type (h.row x hx) e
    rw [ha] at hc
    simp only [Option.some.injEq, Obj.cells.injEq] at hc
    exact types_two hc.2.1.symm
  have hb9 : ∀ r ∈ rootR :: t, w9.heap[A r.p]? = W.heap[A r.p]? := fun r hr => hgrow.block _ (h.lt hr) (fun e => h.apart_row hr hx e.symm)
  have hvx : v'.ownBlock ≠ some (A x.p) := fun e => by
    obtain ⟨cur, hc⟩ := own_type hown e
    rw [hb9 x hx, h.block x hx] at hc
    simp only [Option.some.injEq, Obj.cells.injEq] at hc
    exact types_two hc.2.1.symm
  have hkid : ∀ p, kids (putL t n) p = if parO n.p = p then putL (kids t p) n else kids t p := fun p => kids_put hs hnew p
  refine ⟨fun r hr => ?_, fun r hr => ?_, fun r hr => ?_, fun r hr y hy hne g hg => ?_⟩
  · rcases hmem r hr with rfl | hrt
    · rw [hAn, hSn, Below.heap_setCell _ _ _ _ hax, hgrow.block a (Array.getElem?_eq_some_iff.1 ha).1 (fun e => hasl e.symm)]
      exact ha
    · rw [hA r hrt]
      by_cases he : r.p = x.p
      · obtain rfl := dom_once hs hpath hrt hx he
        rw [hSx]
        have := setCell_block ((hb9 r hrt).trans (h.block r hrt)) 5 v'
        rw [this]
        rfl
      · rw [hS r hrt he, Below.heap_setCell _ _ _ _ (fun e => he (h.inj hrt hx e)), hb9 r hrt]
        exact h.block r hrt
  · rcases hmem r hr with rfl | hrt
    · rw [hAn]; exact hab
    · rw [hA r hrt]; exact h.own r hrt
  · rcases hmem r hr with rfl | hrt
    · rw [hSn, hkid, if_neg (by rw [← hxp]; exact fun e => hnx e.symm), kids_new ht hn hnew]
      exact World.ownsRow_nil _ _ _ _
    · by_cases he : r.p = x.p
      · obtain rfl := dom_once hs hpath hrt hx he
        rw [hSx, hkid, if_pos hxp.symm, put_new (kids_sorted hs _) (recAt_kids hnew)]
        have hk : ∀ c ∈ kids t r.p, c.p ≠ n.p := fun c hc => hdn c (kid_mem hc)
        have e1 : ptrs (putAdr A n.p a) ((kids t r.p).take (placeOf (kids t r.p) n) ++ n :: (kids t r.p).drop (placeOf (kids t r.p) n)) = (ptrs A (kids t r.p)).take (placeOf (kids t r.p) n) ++ ptr a :: (ptrs A (kids t r.p)).drop (placeOf (kids t r.p) n) := by
          have e2 := ptrs_put (A := A) (n := n) (l := (kids t r.p).take (placeOf (kids t r.p) n)) a (fun c hc => hk c (List.mem_of_mem_take hc))
          have e3 := ptrs_put (A := A) (n := n) (l := (kids t r.p).drop (placeOf (kids t r.p) n)) a (fun c hc => hk c (List.mem_of_mem_drop hc))
          unfold ptrs at e2 e3 ⊢
          rw [List.map_append, List.map_cons, e2, e3, hAn, List.map_take, List.map_drop]
        have e4 : ((kids t r.p).take (placeOf (kids t r.p) n) ++ n :: (kids t r.p).drop (placeOf (kids t r.p) n)).length = (kids t r.p).length + 1 := by
          have : placeOf (kids t r.p) n ≤ (kids t r.p).length := by unfold placeOf; exact (List.takeWhile_prefix _).sublist.length_le
          rw [List.length_append, List.length_cons, List.length_take, List.length_drop]
          omega
        rw [e1, e4]
        exact ownsRow_setCell_other hown hvx _
      · rw [hS r hrt he, hkid, if_neg (by rw [← hxp]; exact fun e => he e.symm), ptrs_put a (fun c hc => hdn c (kid_mem hc))]
        have hk := (h.row r hrt).kept hgrow (by
          cases hc : (S r.p).ownBlock with
          | none => exact .inl rfl
          | some g => exact .inr fun e => h.apart r hrt x hx he g hc e.symm)
        exact ownsRow_setCell_other hk (h.apart_row hx hrt) _
  · rcases hmem r hr with rfl | hrt
    · rw [hSn] at hg; cases hg
    · rcases hmem y hy with rfl | hyt
      · rw [hSn]; intro e; cases e
      · by_cases her : r.p = x.p
        · have hey : y.p ≠ x.p := fun e => hne (her.trans e.symm)
          rw [her, hSx] at hg
          rw [hS y hyt hey]
          rcases hwh with h1 | h1
          · rw [h1] at hg
            exact h.apart x hx y hyt (fun e => hey e.symm) g hg
          · rw [h1] at hg
            cases hg
            intro e
            have := ((h.row y hyt).lt _ e).2
            omega
        · rw [hS r hrt her] at hg
          by_cases hey : y.p = x.p
          · rw [hey, hSx]
            rcases hwh with h1 | h1
            · rw [h1]
              exact h.apart r hrt x hx her g hg
            · rw [h1]
              intro e
              cases e
              have := ((h.row r hrt).lt _ hg).2
              omega
          · rw [hS y hyt hey]
            exact h.apart r hrt y hyt hne g hg
end
end Go.Proofs.YtjiljnfiofmpaaaGreatDoor.Recs

/- A tree in memory: attach, of the program. -/

namespace Go.Proofs.YtjiljnfiofmpaaaGreatDoor.Recs
set_option maxRecDepth 100000
open Go.RowKit Paths

theorem last_cell {q : ByteArray} (h : 0 < (cutAt 47 q.data.toList).length) : strV ((cutAt 47 q.data.toList)[(cutAt 47 q.data.toList).length - 1]'(by omega)) = .string (lastB q) := by
  unfold strV lastB
  rw [List.getLast_eq_getElem]
/-- Which of those directly below are less than a new one. -/
theorem kid_less {t : List R} (ht : IsTree t) {n c : R} (hn : pathB n.p.data.toList = true) (hc : c ∈ kids t (parO n.p)) : lessR c n = Op.bytesLess (lastB c.p).toList (lastB n.p).toList := by
  obtain ⟨h1, h2⟩ := mem_kids.1 hc
  unfold lessR
  rw [less_kid (ht.path c h1) hn h2, Lib.toList_data, Lib.toList_data]
theorem nod_cells_new (w : World) (r : R) : NodCells (w.alloc (.cells #[.int .i64 r.k, .string r.p, .string r.b, .int .i64 r.m] 29)) w.heap.size 0 r := by
  refine ⟨?_, ?_, ?_, ?_⟩ <;> simp
theorem ptrs_one (A : ByteArray → Nat) (l : List R) : ∀ u ∈ ptrs A l, u.oneCell' = true := by
  intro u hu
  unfold ptrs at hu
  obtain ⟨c, _, rfl⟩ := List.mem_map.1 hu
  rfl
theorem ptrs_len (A : ByteArray → Nat) (l : List R) : (ptrs A l).length = l.length := by simp [ptrs]
theorem place_le (l : List R) (n : R) : placeOf l n ≤ l.length := by unfold placeOf; exact (List.takeWhile_prefix _).sublist.length_le

/-- What attach leaves: the tree with the node, nothing below base turned. -/
def AttPost (base : Nat) (A : ByteArray → Nat) (t : List R) (n : R) (w : World) (e : Ending) (w' : World) : Prop :=
  (∃ v, e = .returned v) ∧ ∃ A' S', Tr w' base A' S' (putL t n) ∧ Below base w w' ∧ A' ByteArray.empty = A ByteArray.empty

set_option maxHeartbeats 4000000 in
theorem attach_any {w : World} {base : Nat} {A : ByteArray → Nat} {S : ByteArray → Value} {t : List R} {x n : R} (h : Tr w base A S t) (ht : IsTree t) (hl : t.length ≤ 1000) (hn : pathB n.p.data.toList = true) (hns : n.p.size ≤ maxLen) (hx : x ∈ rootR :: t) (hxp : x.p = parO n.p) (hnew : recAt t n.p = none) :
    Calls Tryz.prog 64 #[ptr (A x.p), n.nod] w (AttPost base A t n w) := by
  have hb0 : Below w.heap.size w (w.alloc (.cells #[.int .i64 n.k, .string n.p, .string n.b, .int .i64 n.m] 29)) := (Below.refl _ _).alloc (Nat.le_refl _) _
  have hnc := nod_cells_new w n
  have hwb : base ≤ w.heap.size := Nat.le_of_lt (Nat.lt_of_le_of_lt (h.own _ root_mem) (h.lt root_mem))
  unfold ptr R.nod
  have HT := Lib.hid h
  have HTT := Lib.hid ht
  have HX := Lib.hid hx
  have HXP := Lib.hid hxp
  have HNW := Lib.hid hnew
  clear h ht hx hxp hnew
  go_enter Tryz.func64, Tryz.ntmps64
  go_wp2_with fail
  refine (splitPath_any n.p _ hns).mono ?_
  rintro e w1 ⟨v, rfl, hb1, ho, -, hnn⟩
  rw [partsOf_yes hn] at ho
  have hv := part_sl ho
  obtain ⟨g, pcap, rfl, hgl, hpc, hpm⟩ := own_some ho (hnn hn)
  obtain ⟨_, _, e1, _, hpv0⟩ := hv
  cases e1
  have hN4 := (pathB_parts hn).1
  have hN1 := cutAt_pos 47 n.p.data.toList
  obtain ⟨g', e2, _, hpv⟩ := hpv0 (by omega)
  cases e2
  have cL := hpv ((cutAt 47 n.p.data.toList).length - 1) (by omega)
  rw [last_cell (by omega)] at cL
  clear hpv ho hnn hpv0
  generalize hN : (cutAt 47 n.p.data.toList).length = N at *
  obtain ⟨n0, n1, n2, n3⟩ := hnc.below hb1 (by simp)
  have c1 := hb0.trans (hb1.mono hb0.size)
  have hT1 := HT.out.below c1
  obtain ⟨_, _, _, _, _, c5⟩ := hT1.cells HX.out
  obtain ⟨sA, cap, hS, hcap, hk⟩ := hT1.kid HX.out
  have hf5 := hT1.frozen HX.out 5
  have HS := Lib.hid hS
  rw [hS] at c5
  have hkl : (kids t x.p).length ≤ 1000 := Nat.le_trans (List.length_filter_le _ _) hl
  have HM : Hid (∀ i (hi : i < (kids t x.p).length), w1.cell? ⟨A (kids t x.p)[i].p, 0, none⟩ = some (.string (lastB (kids t x.p)[i].p))) := fun i hi => (hT1.cells (kid_mem (List.getElem_mem hi))).1
  have HL : Hid (∀ i (hi : i < (kids t x.p).length), lessR (kids t x.p)[i] n = Op.bytesLess (lastB (kids t x.p)[i].p).toList (lastB n.p).toList) := fun i hi => kid_less HTT.out hn (by rw [← HXP.out]; exact List.getElem_mem hi)
  have hpl := place_le (kids t x.p) n
  have HPL : Hid (∀ k, k < placeOf (kids t x.p) n → ∃ h : k < (kids t x.p).length, lessR (kids t x.p)[k] n = true) := fun k hk => place_less hk
  have HPS : Hid (∀ h : placeOf (kids t x.p) n < (kids t x.p).length, lessR (kids t x.p)[placeOf (kids t x.p) n] n = false) := fun h => place_stop h
  have HT1 := Lib.hid hT1
  have H := Lib.hid hk
  have hw1 : IntKind.i64.wrap ((N : Int) - 1) = ((N - 1 : Nat) : Int) := by rw [IntKind.wrap_i64]; omega
  have hi9 : ((N - 1 : Nat) : Int) < (N : Int) := by omega
  clear hk hT1 hS hpm
  generalize hQ : placeOf (kids t x.p) n = Q at *
  generalize hK : kids t x.p = K at *
  generalize hAx : A x.p = a at *
  go_wp2_with fail
  go_loop [6] (fun i => ∃ k : Nat, k ≤ Q ∧ i = .int .i64 k) (fun i => Q - (intOf i).toNat)
  case atStart => exact ⟨0, by omega, rfl⟩
  case round =>
    obtain ⟨k, hk, rfl⟩ := hrel
    by_cases hlt : k < Q
    · obtain ⟨hkK, hless⟩ := HPL.out k hlt
      rw [HL.out k hkK] at hless
      obtain ⟨g', rfl, hg', hcell⟩ := H.out (by omega)
      have d1 := hcell k hkK
      have d2 := HM.out k hkK
      unfold ptr at d1
      have hi1 : (k : Int) < (K.length : Int) := by omega
      have hi0 : (0 : Int) ≤ (k : Int) := by omega
      clear hcell
      go_wp2_with fail
      exact ⟨⟨k + 1, by omega, by go_num⟩, by simp [intOf]; omega⟩
    · obtain rfl : k = Q := by omega
      have hbW2 : Below w1.heap.size w1 ((w1.drew.alloc (.cells #[.string (lastB n.p), .int .i64 n.k, .string n.p, .string n.b, .int .i64 n.m, .slice none 0 0] 102)).alloc (.cells #[.pointer (some ⟨w1.heap.size, 0, none⟩)] 83)) :=
        ((Below.refl _ _).drew.alloc (Nat.le_refl _) _).alloc (by simp) _
      have hbr : ((w1.drew.alloc (.cells #[.string (lastB n.p), .int .i64 n.k, .string n.p, .string n.b, .int .i64 n.m, .slice none 0 0] 102)).alloc (.cells #[.pointer (some ⟨w1.heap.size, 0, none⟩)] 83)).heap[w1.heap.size]? = some (.cells (brCells n (.slice none 0 0)) 102 (0, 0)) :=
        (Below.heap_alloc _ _ _ (by simp)).trans (alloc_at w1.drew _)
      have hvr : ((w1.drew.alloc (.cells #[.string (lastB n.p), .int .i64 n.k, .string n.p, .string n.b, .int .i64 n.m, .slice none 0 0] 102)).alloc (.cells #[.pointer (some ⟨w1.heap.size, 0, none⟩)] 83)).heap[w1.heap.size + 1]? = some (.cells #[ptr w1.heap.size] 83 (0, 0)) := by
        have := alloc_at (w1.drew.alloc (.cells #[.string (lastB n.p), .int .i64 n.k, .string n.p, .string n.b, .int .i64 n.m, .slice none 0 0] 102)) (.cells #[.pointer (some ⟨w1.heap.size, 0, none⟩)] 83)
        rw [World.size_alloc, World.size_drew] at this
        exact this
      have hT2 := HT1.out.below hbW2
      have hown2 := hT2.row x HX.out
      have hsx := (HT1.out.row x HX.out).lt
      rw [hK, HS.out] at hown2
      rw [HS.out] at hsx
      have HC := insert_any base (.slice sA K.length cap) K.length k (ptrs A K) (w1.heap.size + 1) (ptr w1.heap.size) _ hown2 hpl hkl hvr (fun e => by have := (hsx _ e).2; omega) rfl (ptrs_one A K) (Nat.le_trans hwb (Nat.le_trans c1.size hbW2.size))
      have HFIN : Hid (∀ (e : Ending) (w9 : World) (v' : Value), (∃ v, e = .returned v) → w9.ownsRow base 83 1 v' (K.length + 1) ((ptrs A K).take k ++ ptr w1.heap.size :: (ptrs A K).drop k) →
          ((w1.drew.alloc (.cells #[.string (lastB n.p), .int .i64 n.k, .string n.p, .string n.b, .int .i64 n.m, .slice none 0 0] 102)).alloc (.cells #[.pointer (some ⟨w1.heap.size, 0, none⟩)] 83)).grownBy w9 (Value.slice sA K.length cap).ownBlock →
          (v'.ownBlock = (Value.slice sA K.length cap).ownBlock ∨ v'.ownBlock = some ((w1.drew.alloc (.cells #[.string (lastB n.p), .int .i64 n.k, .string n.p, .string n.b, .int .i64 n.m, .slice none 0 0] 102)).alloc (.cells #[.pointer (some ⟨w1.heap.size, 0, none⟩)] 83)).heap.size) →
          AttPost base A t n w e (w9.setCell ⟨a, 5, none⟩ v')) := by
        intro e w9 v' he ho9 hg9 hw9
        rw [← HS.out] at hg9 hw9
        have hcb : Below base w w9 := (((c1.mono hwb).trans (hbW2.mono (Nat.le_trans hwb c1.size)))).grown hg9 (Nat.le_trans hwb (Nat.le_trans c1.size hbW2.size)) (fun j hj => ((HT1.out.row x HX.out).lt j hj).1)
        refine ⟨he, _, _, hAx ▸ Tr.put hT2 HTT.out hn HX.out HXP.out HNW.out hbr (Nat.le_trans hwb c1.size) (by rw [hK, hQ]; exact ho9) hg9 hw9, hcb.setCell (by rw [← hAx]; exact HT1.out.own x HX.out) _, ?_⟩
        exact if_neg (fun e => path_nonempty hn e.symm)
      have HA9 : Hid (∀ w9 : World, ((w1.drew.alloc (.cells #[.string (lastB n.p), .int .i64 n.k, .string n.p, .string n.b, .int .i64 n.m, .slice none 0 0] 102)).alloc (.cells #[.pointer (some ⟨w1.heap.size, 0, none⟩)] 83)).grownBy w9 (Value.slice sA K.length cap).ownBlock →
          w9.cell? ⟨a, 5, none⟩ = some (.slice sA K.length cap) ∧ w9.frozen? ⟨a, 5, none⟩ = false ∧ w9.cell? ⟨w.heap.size, 0, none⟩ = some (.int .i64 n.k) ∧ w9.cell? ⟨w.heap.size, 1, none⟩ = some (.string n.p) ∧ w9.cell? ⟨w.heap.size, 2, none⟩ = some (.string n.b) ∧ w9.cell? ⟨w.heap.size, 3, none⟩ = some (.int .i64 n.m)) := by
        intro w9 hg9
        rw [← HS.out] at hg9
        have hws : w.heap.size < w1.heap.size := by have := hb1.size; simp at this; omega
        have ew := hg9.block w.heap.size (Nat.lt_of_lt_of_le hws hbW2.size) (fun e => by have := ((HT.out.row x HX.out).lt _ e.symm).2; omega)
        rw [hbW2.block _ hws] at ew
        have m0 := (World.cell?_of_block (a := ⟨w.heap.size, 0, none⟩) ew).trans n0
        have m1 := (World.cell?_of_block (a := ⟨w.heap.size, 1, none⟩) ew).trans n1
        have m2 := (World.cell?_of_block (a := ⟨w.heap.size, 2, none⟩) ew).trans n2
        have m3 := (World.cell?_of_block (a := ⟨w.heap.size, 3, none⟩) ew).trans n3
        have e9 := hg9.block (A x.p) (hT2.lt HX.out) (fun e => hT2.apart_row HX.out HX.out e.symm)
        rw [hAx] at e9
        have c9 := hT2.cells HX.out
        have f9 := hT2.frozen HX.out 5
        rw [hAx, HS.out] at c9
        rw [hAx] at f9
        exact ⟨(World.cell?_of_block (a := ⟨a, 5, none⟩) e9).trans c9.2.2.2.2.2, (World.frozen?_of_block (a := ⟨a, 5, none⟩) e9).trans f9, m0, m1, m2, m3⟩
      unfold ptr at HC
      have hal : a < w1.heap.size := by rw [← hAx]; exact HT1.out.lt HX.out
      have hane : ¬ a = w1.heap.size := by omega
      have hane' : ¬ a = w1.heap.size + 1 := by omega
      have f1 : (w1.drew.alloc (.cells #[.string (lastB n.p), .int .i64 n.k, .string n.p, .string n.b, .int .i64 n.m, .slice none 0 0] 102)).cell? ⟨a, 5, none⟩ = some (.slice sA K.length cap) := (World.cell?_alloc_lt _ _ _ hal).trans c5
      have f2 := (hbW2.cell (p := ⟨a, 5, none⟩) hal).trans c5
      clear hown2 hvr hbr hT2 hsx
      by_cases hkK : k < K.length
      · have hless := HPS.out hkK
        rw [HL.out k hkK] at hless
        obtain ⟨g', rfl, hg', hcell⟩ := H.out (by omega)
        have d1 := hcell k hkK
        have d2 := HM.out k hkK
        unfold ptr at d1
        have hi1 : (k : Int) < (K.length : Int) := by omega
        have hi0 : (0 : Int) ≤ (k : Int) := by omega
        clear hcell
        go_wp2_with fail
        clear hbW2 c1 hb1 hb0 hcap HPL HPS HM HL H d1 d2 hless hi1 hi0 hi9 hw1
        go_region_with (first | (go_at_call 129; refine HC.mono ?_; rintro e w9 ⟨v', rfl, ho9, hg9, hw9⟩; have HF9 := Lib.hid (HFIN.out (.returned (.tuple #[])) w9 v' ⟨_, rfl⟩ ho9 hg9 hw9); obtain ⟨hc9, hf9, m0, m1, m2, m3⟩ := HA9.out w9 hg9; obtain ⟨vA, vc, rfl⟩ := own_form ho9; clear ho9 hg9 hw9))
        all_goals (go_wp2; go_end0; exact HF9.out)
      · have hkK' : k = K.length := by omega
        subst hkK'
        have hi1 : ¬ ((K.length : Int) < (K.length : Int)) := by omega
        go_wp2_with fail
        clear hbW2 c1 hb1 hb0 hcap HPL HPS HM HL H hi1 hi9 hw1
        go_region_with (first | (go_at_call 129; refine HC.mono ?_; rintro e w9 ⟨v', rfl, ho9, hg9, hw9⟩; have HF9 := Lib.hid (HFIN.out (.returned (.tuple #[])) w9 v' ⟨_, rfl⟩ ho9 hg9 hw9); obtain ⟨hc9, hf9, m0, m1, m2, m3⟩ := HA9.out w9 hg9; obtain ⟨vA, vc, rfl⟩ := own_form ho9; clear ho9 hg9 hw9))
        all_goals (go_wp2; go_end0; exact HF9.out)
end Go.Proofs.YtjiljnfiofmpaaaGreatDoor.Recs
