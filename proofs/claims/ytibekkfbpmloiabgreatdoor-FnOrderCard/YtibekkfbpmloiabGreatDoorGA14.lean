/- Parts of several texts of mine in one file (each begins with its own remark). -/
import Derived.Test.YtibekkfbpmloiabGreatDoorGA1
import Derived.Test.YtibekkfbpmloiabGreatDoorGA11
import Derived.Test.YtibekkfbpmloiabGreatDoorGA12
import Derived.Test.YtibekkfbpmloiabGreatDoorGA13
import Derived.Test.YtibekkfbpmloiabGreatDoorGA2
import Derived.Test.YtibekkfbpmloiabGreatDoorGA3
import Derived.Test.YtibekkfbpmloiabGreatDoorGA4
import Derived.Test.YtibekkfbpmloiabGreatDoorGA8
import Derived.Test.YtibekkfbpmloiabGreatDoorGA9
import Derived.Test.YtibekkfbpmloiabGreatDoorChecked
import Derived.Test.YtibekkfbpmloiabGreatDoorShelf
import Derived.Test.YtibekkfbpmloiabGreatDoorProg
import Derived.Test.YtibekkfbpmloiabGreatDoorRows
import Derived.Stop.LaidErr
import Derived.StillTailTactics
import Derived.Laws.OwnMore
import Derived.BigQuiet
import Derived.BigRegion
import Derived.Deep.QuietTactic
import Derived.Deep.RegionHeld3
import Derived.Deep.Slices
import Derived.OpenShut
import Derived.ShutString
import Derived.ChangeArms
import Derived.WideShapes
import Derived.Lib.LaidTab
import Derived.Deep.Draws
import Derived.Deep.LoopGhost
import Derived.WalkKit
import Derived.WalkSpells
import Derived.WalkSmall
import Derived.Lib.OthersKept
import Derived.Lib.Hide
import Derived.Lib.Strings
import Derived.Lib.Join
import Derived.Laws.BytesArg
import Derived.WalkLawsBesides
import Derived.LaidEql
import Derived.Stop.Asserts
import Derived.Below
import Derived.Stop.LaidTwo
import Derived.ChangeVars
import Derived.Deep.DeepHandedRow
/- Layers: the program's check of one: the code of a record behind others, the error of a list. Conditions: the table of kinds, the sentinel (as each states). -/
namespace Go.Proofs.YtibekkfbpmloiabGreatDoor.Recs
set_option maxRecDepth 100000
open Go.RowKit Paths Errs

def ordC (L : List R) (q : ByteArray) : Int := match L.getLast? with | none => 0 | some x => if x.p = q then 18 else if lessB x.p q then 0 else 11
theorem ord_nil (q : ByteArray) : ordC [] q = 0 := rfl
theorem ord_last {L : List R} {n : Nat} (hn : L.length = n + 1) (q : ByteArray) : ordC L q = if (L[n]'(by omega)).p = q then 18 else if lessB (L[n]'(by omega)).p q then 0 else 11 := by
  have e : L[L.length - 1]? = some (L[n]'(by omega)) := by
    have h1 : L.length - 1 = n := by omega
    rw [h1, List.getElem?_eq_getElem]
  unfold ordC
  rw [List.getLast?_eq_getElem?, e]

set_option maxHeartbeats 800000 in
theorem orderFault_any (v : Value) (L : List R) (q : ByteArray) (w : World) (h : RecSl w v L) (hl : L.length ≤ 1048576) (hq : q.size ≤ maxLen) (hr : ∀ r ∈ L, r.p.size ≤ maxLen) :
    Calls Tryz.prog 192 #[v, .string q] w fun e w' => e = .returned (.int .i64 (ordC L q)) ∧ Below w.heap.size w w' := by
  obtain ⟨A, cap, rfl, hcap, h⟩ := h
  by_cases h0 : L.length = 0
  · have HE : Hid (ordC L q = 0) := by rw [List.eq_nil_of_length_eq_zero h0]; rfl
    rw [h0]
    go_enter Tryz.func192, Tryz.ntmps192
    go_wp2_with fail
    go_ret
    exact ⟨ret_int HE.out.symm, Below.refl _ _⟩
  · obtain ⟨n, hn⟩ : ∃ n, L.length = n + 1 := ⟨L.length - 1, by omega⟩
    have HO := Lib.hid (ord_last hn q)
    obtain ⟨b, off, rfl, hb, hcell⟩ := h (by omega)
    obtain ⟨_, c1, _⟩ := hcell n (L[n]'(by omega)) (by simp)
    have hs := hr (L[n]'(by omega)) (List.getElem_mem _)
    clear h hcell hr
    generalize L[n]'(by omega) = x at *
    rw [hn] at hl hcap ⊢
    have i1 : (n : Int) < (n : Int) + 1 := by omega
    have i0 : (0 : Int) ≤ (n : Int) := by omega
    have hd0 : ((n : Int) + 1 == 0) = false := by simp; omega
    clear hn h0
    rcases Bool.eq_false_or_eq_true (q.toList == x.p.toList) with he | he
    · have HE : Hid (ordC L q = 18) := by show _ = _; rw [HO.out, if_pos (str_eq_of he).symm]
      go_enter Tryz.func192, Tryz.ntmps192
      go_wp2_with fail
      go_ret
      exact ⟨ret_int HE.out.symm, Below.refl _ _⟩
    · have hne : ¬ x.p = q := fun e => by rw [e] at he; simp at he
      have HE : Hid (ordC L q = if lessB x.p q then 0 else 11) := by show _ = _; rw [HO.out, if_neg hne]
      clear hne
      rcases Bool.eq_false_or_eq_true (lessB x.p q) with hb2 | hb2
      · have HF : Hid (ordC L q = 0) := by show _ = _; rw [HE.out, if_pos hb2]
        go_enter Tryz.func192, Tryz.ntmps192
        go_wp2_with (go_at_call 44; refine (pathLess_impl _ _ _ hs hq).mono ?_; rintro e w1 ⟨rfl, hb1⟩)
        go_ret
        exact ⟨ret_int HF.out.symm, hb1⟩
      · have HF : Hid (ordC L q = 11) := by show _ = _; rw [HE.out, if_neg (by rw [hb2]; decide)]
        go_enter Tryz.func192, Tryz.ntmps192
        go_wp2_with (go_at_call 44; refine (pathLess_impl _ _ _ hs hq).mono ?_; rintro e w1 ⟨rfl, hb1⟩)
        go_ret
        exact ⟨ret_int HF.out.symm, hb1⟩

def parC (L : List R) (q : ByteArray) : Int :=
  if parS q = [] then 0 else if atL L ⟨(parS q).toArray⟩ < 0 then 12 else if (L[(atL L ⟨(parS q).toArray⟩).toNat]?).any (fun x => x.k ≠ 3) then 13 else 0

set_option maxHeartbeats 800000 in
theorem parentFault_any (v : Value) (L : List R) (q : ByteArray) (w : World) (h : RecSl w v L) (hl : L.length ≤ 1048576) (hq : q.size ≤ maxLen) :
    Calls Tryz.prog 193 #[v, .string q] w fun e w' => e = .returned (.int .i64 (parC L q)) ∧ Below w.heap.size w w' := by
  have hsl := h
  obtain ⟨A, cap, rfl, hcap, h⟩ := h
  have H := Lib.hid h
  clear h
  by_cases h0 : parS q = []
  · have HE : Hid (parC L q = 0) := if_pos h0
    go_enter Tryz.func193, Tryz.ntmps193
    go_wp2_with fail
    refine (parentOf_impl _ _ hq).mono ?_
    rintro e w1 ⟨rfl, hb1⟩
    have hemp : (parS q).isEmpty = true := by rw [h0]; rfl
    unfold strV
    go_wp2_with fail
    go_ret
    exact ⟨ret_int HE.out.symm, hb1⟩
  · have HE : Hid (parC L q = if atL L ⟨(parS q).toArray⟩ < 0 then 12 else if (L[(atL L ⟨(parS q).toArray⟩).toNat]?).any (fun x => x.k ≠ 3) then 13 else 0) := if_neg h0
    have hemp : (parS q).isEmpty = false := by simpa using h0
    clear h0
    go_enter Tryz.func193, Tryz.ntmps193
    go_wp2_with fail
    refine (parentOf_impl _ _ hq).mono ?_
    rintro e w1 ⟨rfl, hb1⟩
    unfold strV
    go_wp2_with fail
    refine (indexOfPath_any _ L _ _ (hsl.below hb1) hl).mono ?_
    rintro e w2 ⟨rfl, hb2⟩
    have hbw := hb1.trans (hb2.mono hb1.size)
    rcases atL_cases L ⟨(parS q).toArray⟩ with ⟨ha, _⟩ | ⟨j, hj, ha, _⟩
    · have HF : Hid (parC L q = 12) := by show _ = _; rw [HE.out, if_pos (by rw [ha]; decide)]
      rw [ha]
      go_wp2_with fail
      go_ret
      exact ⟨ret_int HF.out.symm, hbw⟩
    · have HG : Hid (parC L q = if L[j].k ≠ 3 then 13 else 0) := by show _ = _; rw [HE.out, if_neg (by omega), ha, Int.toNat_natCast, List.getElem?_eq_getElem hj]; simp
      obtain ⟨b, off, rfl, hb, hcell⟩ := H.out (by omega)
      obtain ⟨f0, _⟩ := (hcell j L[j] (by simp [hj])).below hbw hb
      rw [ha]
      clear ha hcell
      have j1 : (0 : Int) ≤ (j : Int) := by omega
      have j2 : (j : Int) < (L.length : Int) := by omega
      have j3 : decide ((j : Int) < 0) = false := by simp
      by_cases h3 : L[j].k = 3
      · have HN : Hid (parC L q = 0) := by show _ = _; rw [HG.out, if_neg (by simpa using h3)]
        have j4 : (L[j].k != 3) = false := by simpa using h3
        clear h3
        go_wp2_with fail
        go_ret
        exact ⟨ret_int HN.out.symm, hbw⟩
      · have HN : Hid (parC L q = 13) := by show _ = _; rw [HG.out, if_pos h3]
        have j4 : (L[j].k != 3) = true := by simpa using h3
        clear h3
        go_wp2_with fail
        go_ret
        exact ⟨ret_int HN.out.symm, hbw⟩

def behC (L : List R) (r : R) : Int := if 16 ≤ L.length then 6 else if r.fault ≠ 0 then r.fault else if ordC L r.p ≠ 0 then ordC L r.p else parC L r.p

theorem par_up {l : List R} {i : Nat} {r : R} (hp : pathB r.p.data.toList = true) : parC (l.take i) r.p = codeUp l i r := by
  have e : parS r.p = parentL r.p.data.toList := by unfold parS; rw [hp]; rfl
  unfold parC codeUp
  rw [e]
  by_cases h0 : parentL r.p.data.toList = []
  · rw [if_pos h0, if_pos h0]
  · rw [if_neg h0, if_neg h0]
    show (if atL (l.take i) (parO r.p) < 0 then (12 : Int) else if ((l.take i)[(atL (l.take i) (parO r.p)).toNat]?).any (fun x => x.k ≠ 3) then 13 else 0) = _
    rcases atL_cases (l.take i) (parO r.p) with ⟨ha, _⟩ | ⟨j, hj, ha, _⟩
    · rw [ha, if_pos (by decide), if_pos (by decide)]
    · have hneg : ¬ ((j : Int) < 0) := by omega
      rw [ha, if_neg hneg, if_neg hneg, Int.toNat_natCast, List.getElem?_eq_getElem hj]
      rw [List.length_take] at hj
      rw [List.getElem?_eq_getElem (by omega : j < l.length), List.getElem_take]

theorem beh_code {l : List R} {i : Nat} (hi : i < l.length) (hc : ∀ j (h : j < l.length), j < i → codeAt l j l[j] = 0) : behC (l.take i) l[i] = codeAt l i l[i] := by
  have h16 : i ≤ 16 := by
    rcases Nat.lt_or_ge 16 i with h | h
    · exact absurd (hc 16 (by omega) h) (by rw [code_many]; decide)
    · exact h
  have hlen : (l.take i).length = i := by rw [List.length_take]; omega
  unfold behC
  rw [hlen]
  by_cases h1 : i = 16
  · subst h1
    rw [if_pos (by omega), code_many]
  rw [if_neg (by omega)]
  by_cases hf : l[i].fault = 0
  case neg => rw [if_pos hf, code_rec h1 hf]
  rw [if_neg (by simpa using hf)]
  have hp := (fault_path hf).1
  cases i with
  | zero =>
    rw [code_up h1 hf rfl rfl, if_neg (by simp [ord_nil]), par_up hp]
  | succ n =>
    have hn : n < l.length := by omega
    have hp2 := (fault_path (codeAt_zero (hc n hn (by omega))).2).1
    have ho := ord_last (L := l.take (n + 1)) (n := n) hlen l[n + 1].p
    rw [List.getElem_take, lessB_yes hp2 hp] at ho
    rw [ho]
    by_cases he : l[n].p = l[n + 1].p
    · rw [if_pos he, code_same h1 hf (by rw [beforeL_pos hi]; simp [he])]
      rfl
    · rw [if_neg he]
      have hs : (beforeL l (n + 1)).any (fun x => x.p = l[n + 1].p) = false := by rw [beforeL_pos hi]; simp [he]
      rcases Bool.eq_false_or_eq_true (lessP (cutAt 47 l[n].p.data.toList) (cutAt 47 l[n + 1].p.data.toList)) with hl | hl
      · rw [code_up h1 hf hs (by rw [beforeL_pos hi]; simp [hl]), if_pos hl, if_neg (by decide), par_up hp]
      · rw [code_order h1 hf hs (by rw [beforeL_pos hi]; simp [hl])]
        simp [hl]

set_option maxHeartbeats 800000 in
theorem faultBehind_any (v : Value) (L : List R) (r : R) (w : World) (h : RecSl w v L) (hl : L.length ≤ 1048576) (hq : r.p.size ≤ maxLen) (hr : ∀ x ∈ L, x.p.size ≤ maxLen) (ht : Tab w) :
    Calls Tryz.prog 143 #[v, .agg #[.int .i64 r.k, .string r.p, .string r.b, .int .i64 r.m, .bool r.o]] w fun e w' => e = .returned (.int .i64 (behC L r)) ∧ Below w.heap.size w w' := by
  have hb0 : Below w.heap.size w (w.alloc (.cells #[.int .i64 r.k, .string r.p, .string r.b, .int .i64 r.m, .bool r.o] 53)) := (Below.refl _ _).alloc (Nat.le_refl _) _
  have hsl := h.below hb0
  have ht0 := ht.below hb0 (Nat.le_refl _)
  obtain ⟨A, cap, rfl, hcap, _⟩ := h
  by_cases h16 : 16 ≤ L.length
  · have HE : Hid (behC L r = 6) := if_pos h16
    have hd : decide ((16 : Int) ≤ (L.length : Int)) = true := by simp; omega
    go_enter Tryz.func143, Tryz.ntmps143
    go_wp2_with fail
    go_ret
    exact ⟨ret_int HE.out.symm, hb0⟩
  have hd : decide ((16 : Int) ≤ (L.length : Int)) = false := by simp; omega
  have HB : Hid (behC L r = if r.fault ≠ 0 then r.fault else if ordC L r.p ≠ 0 then ordC L r.p else parC L r.p) := if_neg h16
  clear h16
  go_enter Tryz.func143, Tryz.ntmps143
  go_wp2_with fail
  refine (recordFault_impl _ _ _ _ _ _ hq ht0).mono ?_
  rintro e w1 ⟨rfl, hb1⟩
  have hb01 := hb0.trans (hb1.mono hb0.size)
  obtain ⟨hc1, hf1⟩ := bcell hb1
  have hz1 : w.heap.size < w1.heap.size := by have := hb1.size; simp at this; omega
  by_cases hf : r.fault = 0
  case neg =>
    have HE : Hid (behC L r = faultI r.k r.p.data.toList r.b.size r.m r.o) := by show _ = _; rw [HB.out, if_pos hf]; rfl
    have hd1 : (faultI r.k r.p.data.toList r.b.size r.m r.o != 0) = true := by have h := hf; unfold R.fault at h; simpa using h
    clear hf
    go_wp2_with fail
    go_ret
    exact ⟨ret_int HE.out.symm, hb01⟩
  have HC : Hid (behC L r = if ordC L r.p ≠ 0 then ordC L r.p else parC L r.p) := by show _ = _; rw [HB.out, if_neg (by simpa using hf)]
  have hd1 : (faultI r.k r.p.data.toList r.b.size r.m r.o != 0) = false := by have h := hf; unfold R.fault at h; simpa using h
  clear hf
  go_wp2_with fail
  refine (orderFault_any _ L _ _ (hsl.below hb1) hl hq hr).mono ?_
  rintro e w2 ⟨rfl, hb2⟩
  have hb02 := hb01.trans (hb2.mono hb01.size)
  obtain ⟨hc2, hf2⟩ := bcell hb2
  have hz2 : w.heap.size < w2.heap.size := by have := hb2.size; omega
  by_cases ho : ordC L r.p = 0
  case neg =>
    have HE : Hid (behC L r = ordC L r.p) := by show _ = _; rw [HC.out, if_pos ho]
    have hd2 : (ordC L r.p != 0) = true := by simpa using ho
    clear ho
    go_wp2_with fail
    go_ret
    exact ⟨ret_int HE.out.symm, hb02⟩
  have HE : Hid (behC L r = parC L r.p) := by show _ = _; rw [HC.out, if_neg (by simpa using ho)]
  have hd2 : (ordC L r.p != 0) = false := by simpa using ho
  clear ho
  go_wp2_with fail
  refine (parentFault_any _ L _ _ ((hsl.below hb1).below hb2) hl hq).mono ?_
  rintro e w3 ⟨rfl, hb3⟩
  go_wp2_with fail
  go_ret
  exact ⟨ret_int HE.out.symm, hb02.trans (hb3.mono hb02.size)⟩
end Go.Proofs.YtibekkfbpmloiabGreatDoor.Recs

/- Layers: the error of a list, the code of errors. Conditions: the table of kinds, the sentinels (as each states). -/
namespace Go.Proofs.YtibekkfbpmloiabGreatDoor.Recs
set_option maxRecDepth 100000
open Go.RowKit Paths Errs

/-- What checkLayer answers; x: where the sentinel of long arguments lies. -/
def checkV (l : List R) (x : Addr) : Value := if 4096 < l.length then errV x else if (layerFaultL l).2 ≠ 0 then recV (layerFaultL l).1 (layerFaultL l).2 else .nilIface
theorem check_long {l : List R} {x : Addr} (h : 4096 < l.length) : checkV l x = errV x := if_pos h
theorem check_bad {l : List R} {x : Addr} {i c : Int} (h : ¬ 4096 < l.length) (hf : layerFaultL l = (i, c)) (hc : c ≠ 0) : checkV l x = recV i c := by
  unfold checkV; rw [if_neg h, hf, if_pos hc]
theorem check_ok {l : List R} {x : Addr} (h : ¬ 4096 < l.length) (hf : layerFaultL l = (0, 0)) : checkV l x = .nilIface := by
  unfold checkV; rw [if_neg h, hf, if_neg (by simp)]
theorem ret_eq {a b : Value} (h : a = b) : Ending.returned a = .returned b := by rw [h]

set_option maxHeartbeats 800000 in
theorem checkLayer_any (v : Value) (l : List R) (x : Addr) (w : World) (h : RecSl w v l) (hl : l.length ≤ 1048576) (hr : ∀ r ∈ l, r.p.size ≤ maxLen) (ht : Tab w) (hx : w.cell? ⟨0, 0, none⟩ = some (errV x)) :
    Calls Tryz.prog 77 #[v] w fun e w' => e = .returned (checkV l x) ∧ Below w.heap.size w w' := by
  have hsl := h
  obtain ⟨A, cap, rfl, hcap, h⟩ := h
  by_cases h4 : 4096 < l.length
  · have HE := Lib.hid (check_long (x := x) h4)
    have hd : decide ((4096 : Int) < (l.length : Int)) = true := by simp; omega
    unfold errV at hx HE
    go_enter Tryz.func77, Tryz.ntmps77
    go_wp2_with fail
    go_ret
    exact ⟨ret_eq HE.out.symm, Below.refl _ _⟩
  have hd : decide ((4096 : Int) < (l.length : Int)) = false := by simp; omega
  have HSl := Lib.hid hsl
  have H := Lib.hid h
  have HT := Lib.hid ht
  have H4 := Lib.hid h4
  clear h hsl ht hx h4
  go_enter Tryz.func77, Tryz.ntmps77
  go_wp2
  go_loopw [12] (fun i wr => ∃ k : Nat, k ≤ l.length ∧ i = .int .i64 k ∧ Hid (layerFaultL l = faultFrom l k) ∧ Hid (∀ j (h : j < l.length), j < k → codeAt l j l[j] = 0) ∧ Below w.heap.size w wr) (fun i _ => l.length - (intOf i).toNat)
  case atStart => exact ⟨0, by omega, rfl, rfl, fun j h hj => by omega, Below.refl _ _⟩
  case round =>
    obtain ⟨k, hk, rfl, HK, HC, hbw⟩ := hrel
    by_cases hlt : k < l.length
    · obtain ⟨b, off, rfl, hb, hcell⟩ := H.out (by omega)
      obtain ⟨c0, c1, c2, c3, c4⟩ := (hcell k l[k] (by simp [hlt])).below hbw hb
      have hi1 : (k : Int) < (l.length : Int) := by omega
      have hi0 : (0 : Int) ≤ (k : Int) := by omega
      clear hcell
      go_wp2_with fail
      have a0 : (wr.alloc (.cells #[.int .i64 l[k].k, .string l[k].p, .string l[k].b, .int .i64 l[k].m, .bool l[k].o] 53)).cell? ⟨wr.heap.size, 0, none⟩ = some (.int .i64 l[k].k) := by go_simp
      have a1 : (wr.alloc (.cells #[.int .i64 l[k].k, .string l[k].p, .string l[k].b, .int .i64 l[k].m, .bool l[k].o] 53)).cell? ⟨wr.heap.size, 1, none⟩ = some (.string l[k].p) := by go_simp
      have a2 : (wr.alloc (.cells #[.int .i64 l[k].k, .string l[k].p, .string l[k].b, .int .i64 l[k].m, .bool l[k].o] 53)).cell? ⟨wr.heap.size, 2, none⟩ = some (.string l[k].b) := by go_simp
      have a3 : (wr.alloc (.cells #[.int .i64 l[k].k, .string l[k].p, .string l[k].b, .int .i64 l[k].m, .bool l[k].o] 53)).cell? ⟨wr.heap.size, 3, none⟩ = some (.int .i64 l[k].m) := by go_simp
      have a4 : (wr.alloc (.cells #[.int .i64 l[k].k, .string l[k].p, .string l[k].b, .int .i64 l[k].m, .bool l[k].o] 53)).cell? ⟨wr.heap.size, 4, none⟩ = some (.bool l[k].o) := by go_simp
      have hbA : Below w.heap.size w (wr.alloc (.cells #[.int .i64 l[k].k, .string l[k].p, .string l[k].b, .int .i64 l[k].m, .bool l[k].o] 53)) := hbw.alloc hbw.size _
      generalize wr.alloc (.cells #[.int .i64 l[k].k, .string l[k].p, .string l[k].b, .int .i64 l[k].m, .bool l[k].o] 53) = W at *
      have hi2 : (k : Int) ≤ (cap : Int) := by omega
      have hi3 : k ≤ cap := by omega
      have hi4 : ¬ ((k : Int) < 0) := by omega
      have hi5 : ¬ ((cap : Int) < (k : Int)) := by omega
      go_still_tail 4, (by kernel_rfl)
      change wpList _ _ _ _ _ W.drew
      have hbA' : Below w.heap.size w W.drew := hbA.drew
      clear hbA c0 c1 c2 c3 c4
      generalize W.drew = W2 at *
      have hslr := (HSl.out.below hbA').take (k := k) (by omega)
      have hq := hr l[k] (List.getElem_mem hlt)
      have htr := HT.out.below hbA' (Nat.le_refl _)
      go_wp2_with fail
      refine (faultBehind_any _ (l.take k) l[k] _ (by exact hslr) (by rw [List.length_take]; omega) hq (fun r hm => hr r (List.mem_of_mem_take hm)) htr).mono ?_
      rintro e w1 ⟨rfl, hb1⟩
      rw [beh_code hlt HC.out]
      have hbw1 := hbA'.trans (hb1.mono hbA'.size)
      by_cases hc : codeAt l k l[k] = 0
      · have HF := Lib.hid (HK.out.trans (faultFrom_good hlt hc))
        have HA := all_next HC.out hlt hc
        rw [hc]
        go_wp2_with fail
        exact ⟨⟨k + 1, by omega, by go_num, HF, HA, hbw1⟩, by simp [intOf]; omega⟩
      · have HE := Lib.hid (check_bad (x := x) H4.out (HK.out.trans (faultFrom_bad hlt hc)) hc)
        have hd2 : (codeAt l k l[k] != 0) = true := by simpa using hc
        unfold recV at HE
        clear hc
        go_wp2_with fail
        go_ret
        exact ⟨ret_eq HE.out.symm, hbw1⟩
    · obtain rfl : k = l.length := by omega
      have HE := Lib.hid (check_ok (x := x) H4.out (HK.out.trans (faultFrom_end (Nat.le_refl _))))
      go_wp2
      go_ret
      exact ⟨ret_eq HE.out.symm, hbw⟩

theorem layerOK_impl (v : Value) (l : List R) (x : Addr) (w : World) (h : RecSl w v l) (hl : l.length ≤ 1048576) (hr : ∀ r ∈ l, r.p.size ≤ maxLen) (ht : Tab w) (hx : w.cell? ⟨0, 0, none⟩ = some (errV x)) :
    Calls Tryz.prog 23 #[v] w fun e w' => e = .returned (.bool (decide (l.length ≤ 4096) && layerOK l)) ∧ Below w.heap.size w w' := by
  have HC := checkLayer_any v l x w h hl hr ht hx
  obtain ⟨A, cap, rfl, hcap, _⟩ := h
  unfold checkV at HC
  by_cases h4 : 4096 < l.length
  · rw [if_pos h4] at HC
    have HE : Hid ((decide (l.length ≤ 4096) && layerOK l) = false) := by show _ = _; rw [decide_eq_false (by omega)]; rfl
    unfold errV at HC
    go_enter Tryz.func23, Tryz.ntmps23
    go_wp2_with fail
    refine HC.mono ?_
    rintro e w1 ⟨rfl, hb1⟩
    go_wp2_with fail
    go_ret
    exact ⟨ret_bool HE.out.symm, hb1⟩
  rw [if_neg h4] at HC
  by_cases hf : (layerFaultL l).2 = 0
  · rw [if_neg (by simpa using hf)] at HC
    have HE : Hid ((decide (l.length ≤ 4096) && layerOK l) = true) := by show _ = _; rw [decide_eq_true (by omega)]; simpa [layerOK] using hf
    clear hf
    go_enter Tryz.func23, Tryz.ntmps23
    go_wp2_with fail
    refine HC.mono ?_
    rintro e w1 ⟨rfl, hb1⟩
    go_wp2_with fail
    go_ret
    exact ⟨ret_bool HE.out.symm, hb1⟩
  · rw [if_pos hf] at HC
    have HE : Hid ((decide (l.length ≤ 4096) && layerOK l) = false) := by show _ = _; rw [decide_eq_true (by omega)]; simpa [layerOK] using hf
    clear hf
    unfold recV at HC
    go_enter Tryz.func23, Tryz.ntmps23
    go_wp2_with fail
    refine HC.mono ?_
    rintro e w1 ⟨rfl, hb1⟩
    go_wp2_with fail
    go_ret
    exact ⟨ret_bool HE.out.symm, hb1⟩
end Go.Proofs.YtibekkfbpmloiabGreatDoor.Recs

/- Layers: LayerFault and LayerOK of the model. -/
namespace Go.Proofs.YtibekkfbpmloiabGreatDoor.Recs
set_option maxRecDepth 100000
open Go.RowKit Paths

theorem l03OK_any (v : Value) (l : List R) (w : World) (h : RecSl w v l) (hl : l.length ≤ 1048576) :
    Calls Tryz.prog 65 #[v] w fun e w' => e = .returned (.bool (layerOK l)) ∧ Below w.heap.size w w' := by
  have HC := l03Fault_any v l w h hl
  obtain ⟨A, cap, rfl, hcap, _⟩ := h
  go_enter Tryz.func65, Tryz.ntmps65
  go_wp2_with fail
  refine HC.mono ?_
  rintro e w1 ⟨rfl, hb1⟩
  go_wp2_with fail
  go_ret
  exact ⟨rfl, hb1⟩

end Go.Proofs.YtibekkfbpmloiabGreatDoor.Recs

/- Layers: comparison of two lists of records, of the program and of its model. -/
namespace Go.Proofs.YtibekkfbpmloiabGreatDoor.Recs
set_option maxRecDepth 100000
open Go.RowKit Paths

instance decR : DecidableEq R := fun x y =>
  if h : x.k = y.k ∧ x.m = y.m ∧ x.p = y.p ∧ x.b = y.b ∧ x.o = y.o then isTrue (by cases x; cases y; simp_all) else isFalse (fun e => h (by subst e; simp))
/-- Two records are alike, or one field is the first that is not. -/
theorem five (x y : R) : (x.k == y.k) = false ∨ ((x.k == y.k) = true ∧ (x.p.toList == y.p.toList) = false) ∨ ((x.k == y.k) = true ∧ (x.p.toList == y.p.toList) = true ∧ (x.b.toList == y.b.toList) = false) ∨
    ((x.k == y.k) = true ∧ (x.p.toList == y.p.toList) = true ∧ (x.b.toList == y.b.toList) = true ∧ (x.m == y.m) = false) ∨ ((x.k == y.k) = true ∧ (x.p.toList == y.p.toList) = true ∧ (x.b.toList == y.b.toList) = true ∧ (x.m == y.m) = true ∧ (x.o == y.o) = false) ∨
    ((x.k == y.k) = true ∧ (x.p.toList == y.p.toList) = true ∧ (x.b.toList == y.b.toList) = true ∧ (x.m == y.m) = true ∧ (x.o == y.o) = true) := by
  cases (x.k == y.k) <;> cases (x.p.toList == y.p.toList) <;> cases (x.b.toList == y.b.toList) <;> cases (x.m == y.m) <;> cases (x.o == y.o) <;> simp
theorem rec_eq {x y : R} (h0 : (x.k == y.k) = true) (h1 : (x.p.toList == y.p.toList) = true) (h2 : (x.b.toList == y.b.toList) = true) (h3 : (x.m == y.m) = true) (h4 : (x.o == y.o) = true) : x = y := by
  have e0 := eq_of_beq h0
  have e1 := str_eq_of h1
  have e2 := str_eq_of h2
  have e3 := eq_of_beq h3
  have e4 := eq_of_beq h4
  cases x; cases y
  simp only at e0 e1 e2 e3 e4
  subst e0 e1 e2 e3 e4
  rfl
theorem ne_at {A B : List R} {k : Nat} (h1 : k < A.length) (h2 : k < B.length) (h : A[k] ≠ B[k]) : Hid (¬ A = B) := fun e => h (getElem_of_eq h1 h2 e)

end Go.Proofs.YtibekkfbpmloiabGreatDoor.Recs

/- The program's table of kinds: what the row's condition says of it. -/
namespace Go.Proofs.YtibekkfbpmloiabGreatDoor.Recs
set_option maxRecDepth 100000
open Go.RowKit Paths Go.WideShapes Go.ChangeShapes

section
variable {H : Type} {enc : TypeId × Value → H} {w : World} {base : Nat} {spare : Nat → Bool} {held : Bool}
theorem cRule : Tryz.prog.cellsOf 234 = 4 := by kernel_rfl
theorem cRules : Tryz.prog.cellsOf 235 = 20 := by kernel_rfl

def ruleD (a b c d : Bool) : DataW H := .agg [.lit (.bool a), .lit (.bool b), .lit (.bool c), .lit (.bool d)]
theorem rule_of_trod {fuel : Nat} {cs : List Value} {a b c d : Bool} {q : List MemPlace} (h : DataW.trod enc Tryz.prog w base spare held fuel 234 cs = some (ruleD a b c d, q)) : cs = [.bool a, .bool b, .bool c, .bool d] := by
  obtain ⟨xs, n, _, hx, hl, hxl, hg⟩ := DataW.trod_struct Tryz.underlying234 h
  rw [cRule] at hl
  have g0 : DataW.trod enc Tryz.prog w base spare held n 4 ((cs.drop 0).take 1) = xs[0]? := by have g := hg 0 _ rfl; change DataW.trod enc Tryz.prog w base spare held n 4 ((cs.drop 0).take (Tryz.prog.cellsOf 4)) = xs[0]? at g; rw [cB] at g; exact g
  have g1 : DataW.trod enc Tryz.prog w base spare held n 4 ((cs.drop 1).take 1) = xs[1]? := by have g := hg 1 _ rfl; change DataW.trod enc Tryz.prog w base spare held n 4 ((cs.drop 1).take (Tryz.prog.cellsOf 4)) = xs[1]? at g; rw [cB] at g; exact g
  have g2 : DataW.trod enc Tryz.prog w base spare held n 4 ((cs.drop 2).take 1) = xs[2]? := by have g := hg 2 _ rfl; change DataW.trod enc Tryz.prog w base spare held n 4 ((cs.drop 2).take (Tryz.prog.cellsOf 4)) = xs[2]? at g; rw [cB] at g; exact g
  have g3 : DataW.trod enc Tryz.prog w base spare held n 4 ((cs.drop 3).take 1) = xs[3]? := by have g := hg 3 _ rfl; change DataW.trod enc Tryz.prog w base spare held n 4 ((cs.drop 3).take (Tryz.prog.cellsOf 4)) = xs[3]? at g; rw [cB] at g; exact g
  match cs, hl, xs, hxl with
  | [c0, c1, c2, c3], _, [y0, y1, y2, y3], _ =>
    obtain ⟨o0, e0, f0⟩ := DataW.trod_bool Tryz.underlying4 (show DataW.trod enc Tryz.prog w base spare held n 4 [c0] = some y0 from g0)
    obtain ⟨o1, e1, f1⟩ := DataW.trod_bool Tryz.underlying4 (show DataW.trod enc Tryz.prog w base spare held n 4 [c1] = some y1 from g1)
    obtain ⟨o2, e2, f2⟩ := DataW.trod_bool Tryz.underlying4 (show DataW.trod enc Tryz.prog w base spare held n 4 [c2] = some y2 from g2)
    obtain ⟨o3, e3, f3⟩ := DataW.trod_bool Tryz.underlying4 (show DataW.trod enc Tryz.prog w base spare held n 4 [c3] = some y3 from g3)
    simp only [List.cons.injEq, and_true] at e0 e1 e2 e3
    subst e0 e1 e2 e3 f0 f1 f2 f3
    simp [ruleD] at hx
    obtain ⟨⟨rfl, rfl, rfl, rfl⟩, _⟩ := hx
    rfl
theorem rules_of_trod {fuel : Nat} {cs : List Value} {q : List MemPlace} (h : DataW.trod enc Tryz.prog w base spare held fuel 235 cs = some (.agg [ruleD false false false false, ruleD true false true false, ruleD true true false false, ruleD false false true true, ruleD false false false false], q)) : cs = cells.toList := by
  obtain ⟨xs, n, _, hx, hl, hxl, hg⟩ := DataW.trod_array Tryz.underlying235 h
  rw [cRules] at hl
  rw [cRule] at hg
  have g0 := hg 0 (by decide)
  have g1 := hg 1 (by decide)
  have g2 := hg 2 (by decide)
  have g3 := hg 3 (by decide)
  have g4 := hg 4 (by decide)
  match cs, hl, xs, hxl with
  | [c0, c1, c2, c3, c4, c5, c6, c7, c8, c9, c10, c11, c12, c13, c14, c15, c16, c17, c18, c19], _, [⟨y0, z0⟩, ⟨y1, z1⟩, ⟨y2, z2⟩, ⟨y3, z3⟩, ⟨y4, z4⟩], _ =>
    simp only [Prod.mk.injEq, List.map_cons, List.map_nil, DataW.agg.injEq, List.cons.injEq, and_true] at hx
    obtain ⟨⟨h0, h1, h2, h3, h4⟩, _⟩ := hx
    obtain rfl := h0
    have r0 := rule_of_trod (show DataW.trod enc Tryz.prog w base spare held n 234 [c0, c1, c2, c3] = some (ruleD false false false false, z0) from g0)
    simp only [List.cons.injEq, and_true] at r0
    obtain ⟨rfl, rfl, rfl, rfl⟩ := r0
    obtain rfl := h1
    have r1 := rule_of_trod (show DataW.trod enc Tryz.prog w base spare held n 234 [c4, c5, c6, c7] = some (ruleD true false true false, z1) from g1)
    simp only [List.cons.injEq, and_true] at r1
    obtain ⟨rfl, rfl, rfl, rfl⟩ := r1
    obtain rfl := h2
    have r2 := rule_of_trod (show DataW.trod enc Tryz.prog w base spare held n 234 [c8, c9, c10, c11] = some (ruleD true true false false, z2) from g2)
    simp only [List.cons.injEq, and_true] at r2
    obtain ⟨rfl, rfl, rfl, rfl⟩ := r2
    obtain rfl := h3
    have r3 := rule_of_trod (show DataW.trod enc Tryz.prog w base spare held n 234 [c12, c13, c14, c15] = some (ruleD false false true true, z3) from g3)
    simp only [List.cons.injEq, and_true] at r3
    obtain ⟨rfl, rfl, rfl, rfl⟩ := r3
    obtain rfl := h4
    have r4 := rule_of_trod (show DataW.trod enc Tryz.prog w base spare held n 234 [c16, c17, c18, c19] = some (ruleD false false false false, z4) from g4)
    simp only [List.cons.injEq, and_true] at r4
    obtain ⟨rfl, rfl, rfl, rfl⟩ := r4
    rfl
end

theorem tab_of_cells {n : String} {W : World} {cs : Array Value} (hg : Tryz.prog.globalNamed n = some 2) (hv : W.var? Tryz.prog n = some cs) (hc : cs.toList = cells.toList) : Tab W := by
  have e : cs = cells := by
    apply Array.ext'
    rw [hc]
  subst e
  simp only [World.var?, hg, Option.bind_some] at hv
  split at hv
  · rename_i c t fr hb
    cases hv
    exact ⟨t, fr, hb⟩
  · cases hv

theorem gTab : Tryz.prog.globalNamed "loop.example/g00798/impl.kindRules" = some 2 := by kernel_rfl
theorem gTabType : (Tryz.prog.globals[(2 : Nat)]?).map (·.type) = some 235 := by kernel_rfl
/-- What a row's list gives: the table holds what its own initialiser lays. -/
theorem table {W : World} (h : laidMetH Tryz.prog [("loop.example/g00798/impl.kindRules", Rows.laid_loop_example_g00798_impl_kindRules)] W) : Tab W := by
  obtain ⟨ps, ⟨g', t', cs, fuel, p, q, hg', ht', hvar, hd, _, _⟩, _⟩ := (show laidMet Tryz.prog [("loop.example/g00798/impl.kindRules", Rows.laid_loop_example_g00798_impl_kindRules)] W from h)
  obtain rfl := Option.some.inj (gTab.symm.trans hg')
  obtain rfl := Option.some.inj (gTabType.symm.trans ht')
  exact tab_of_cells hg' hvar (rules_of_trod hd)
end Go.Proofs.YtibekkfbpmloiabGreatDoor.Recs
