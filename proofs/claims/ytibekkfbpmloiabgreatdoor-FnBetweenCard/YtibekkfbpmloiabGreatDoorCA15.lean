/- Parts of several texts of mine in one file (each begins with its own remark). -/
import Derived.Test.YtibekkfbpmloiabGreatDoorCA1
import Derived.Test.YtibekkfbpmloiabGreatDoorCA10
import Derived.Test.YtibekkfbpmloiabGreatDoorCA14
import Derived.Test.YtibekkfbpmloiabGreatDoorCA2
import Derived.Test.YtibekkfbpmloiabGreatDoorCA3
import Derived.Test.YtibekkfbpmloiabGreatDoorCA4
import Derived.Test.YtibekkfbpmloiabGreatDoorCA5
import Derived.Test.YtibekkfbpmloiabGreatDoorCA6
import Derived.Test.YtibekkfbpmloiabGreatDoorCA7
import Derived.Test.YtibekkfbpmloiabGreatDoorCA9
import Derived.Test.YtibekkfbpmloiabGreatDoorChecked
import Derived.Test.YtibekkfbpmloiabGreatDoorShelf
import Derived.Test.YtibekkfbpmloiabGreatDoorProg
import Derived.Test.YtibekkfbpmloiabGreatDoorRows
import Derived.Stop.LaidErr
import Derived.StillTailTactics
import Derived.Laws.OwnMore
import Derived.BigQuiet
import Derived.BigRegion
import Derived.Deep.QuietTactic
import Derived.Deep.RegionHeld3
import Derived.Deep.Slices
import Derived.OpenShut
import Derived.ShutString
import Derived.ChangeArms
import Derived.WideShapes
import Derived.Lib.LaidTab
import Derived.Deep.Draws
import Derived.Deep.LoopGhost
import Derived.WalkKit
import Derived.WalkSpells
import Derived.WalkSmall
import Derived.Lib.OthersKept
import Derived.Lib.Hide
import Derived.Lib.Strings
import Derived.Lib.Join
import Derived.Laws.BytesArg
import Derived.WalkLawsBesides
import Derived.LaidEql
import Derived.Stop.Asserts
import Derived.Below
import Derived.Stop.LaidTwo
import Derived.Deep.RegionWith
import Derived.OneCell
import Derived.Lib.SliceRun
import Derived.Lib.Overlaps
import Derived.Lib.AppendZerosOnto
import Derived.Laws.NewBlocks
import Derived.Laws.IdiomCopy
import Derived.Deep.RegionLaw
import Derived.ChangeVars
import Derived.Deep.DeepHandedRow
import Derived.Deep.AppendLies
import Derived.Laws.EntriesVeiled
/- Layers: the program's check of one: the code of a record behind others, the error of a list. Conditions: the table of kinds, the sentinel (as each states). -/
namespace Go.Proofs.YtibekkfbpmloiabGreatDoor.Recs
set_option maxRecDepth 100000
open Go.RowKit Paths Errs

def ordC (L : List R) (q : ByteArray) : Int := match L.getLast? with | none => 0 | some x => if x.p = q then 18 else if lessB x.p q then 0 else 11
theorem ord_nil (q : ByteArray) : ordC [] q = 0 := rfl
theorem ord_last {L : List R} {n : Nat} (hn : L.length = n + 1) (q : ByteArray) : ordC L q = if (L[n]'(by omega)).p = q then 18 else if lessB (L[n]'(by omega)).p q then 0 else 11 := by
  have e : L[L.length - 1]? = some (L[n]'(by omega)) := by
    have h1 : L.length - 1 = n := by omega
    rw [h1, List.getElem?_eq_getElem]
  unfold ordC
  rw [List.getLast?_eq_getElem?, e]

set_option maxHeartbeats 800000 in
theorem orderFault_any (v : Value) (L : List R) (q : ByteArray) (w : World) (h : RecSl w v L) (hl : L.length ≤ 1048576) (hq : q.size ≤ maxLen) (hr : ∀ r ∈ L, r.p.size ≤ maxLen) :
    Calls Tryz.prog 192 #[v, .string q] w fun e w' => e = .returned (.int .i64 (ordC L q)) ∧ Below w.heap.size w w' := by
  obtain ⟨A, cap, rfl, hcap, h⟩ := h
  by_cases h0 : L.length = 0
  · have HE : Hid (ordC L q = 0) := by rw [List.eq_nil_of_length_eq_zero h0]; rfl
    rw [h0]
    go_enter Tryz.func192, Tryz.ntmps192
    go_wp2_with fail
    go_ret
    exact ⟨ret_int HE.out.symm, Below.refl _ _⟩
  · obtain ⟨n, hn⟩ : ∃ n, L.length = n + 1 := ⟨L.length - 1, by omega⟩
    have HO := Lib.hid (ord_last hn q)
    obtain ⟨b, off, rfl, hb, hcell⟩ := h (by omega)
    obtain ⟨_, c1, _⟩ := hcell n (L[n]'(by omega)) (by simp)
    have hs := hr (L[n]'(by omega)) (List.getElem_mem _)
    clear h hcell hr
    generalize L[n]'(by omega) = x at *
    rw [hn] at hl hcap ⊢
    have i1 : (n : Int) < (n : Int) + 1 := by omega
    have i0 : (0 : Int) ≤ (n : Int) := by omega
    have hd0 : ((n : Int) + 1 == 0) = false := by simp; omega
    clear hn h0
    rcases Bool.eq_false_or_eq_true (q.toList == x.p.toList) with he | he
    · have HE : Hid (ordC L q = 18) := by show _ = _; rw [HO.out, if_pos (str_eq_of he).symm]
      go_enter Tryz.func192, Tryz.ntmps192
      go_wp2_with fail
      go_ret
      exact ⟨ret_int HE.out.symm, Below.refl _ _⟩
    · have hne : ¬ x.p = q := fun e => by rw [e] at he; simp at he
      have HE : Hid (ordC L q = if lessB x.p q then 0 else 11) := by show _ = _; rw [HO.out, if_neg hne]
      clear hne
      rcases Bool.eq_false_or_eq_true (lessB x.p q) with hb2 | hb2
      · have HF : Hid (ordC L q = 0) := by show _ = _; rw [HE.out, if_pos hb2]
        go_enter Tryz.func192, Tryz.ntmps192
        go_wp2_with (go_at_call 44; refine (pathLess_impl _ _ _ hs hq).mono ?_; rintro e w1 ⟨rfl, hb1⟩)
        go_ret
        exact ⟨ret_int HF.out.symm, hb1⟩
      · have HF : Hid (ordC L q = 11) := by show _ = _; rw [HE.out, if_neg (by rw [hb2]; decide)]
        go_enter Tryz.func192, Tryz.ntmps192
        go_wp2_with (go_at_call 44; refine (pathLess_impl _ _ _ hs hq).mono ?_; rintro e w1 ⟨rfl, hb1⟩)
        go_ret
        exact ⟨ret_int HF.out.symm, hb1⟩

def parC (L : List R) (q : ByteArray) : Int :=
  if parS q = [] then 0 else if atL L ⟨(parS q).toArray⟩ < 0 then 12 else if (L[(atL L ⟨(parS q).toArray⟩).toNat]?).any (fun x => x.k ≠ 3) then 13 else 0

set_option maxHeartbeats 800000 in
theorem parentFault_any (v : Value) (L : List R) (q : ByteArray) (w : World) (h : RecSl w v L) (hl : L.length ≤ 1048576) (hq : q.size ≤ maxLen) :
    Calls Tryz.prog 193 #[v, .string q] w fun e w' => e = .returned (.int .i64 (parC L q)) ∧ Below w.heap.size w w' := by
  have hsl := h
  obtain ⟨A, cap, rfl, hcap, h⟩ := h
  have H := Lib.hid h
  clear h
  by_cases h0 : parS q = []
  · have HE : Hid (parC L q = 0) := if_pos h0
    go_enter Tryz.func193, Tryz.ntmps193
    go_wp2_with fail
    refine (parentOf_impl _ _ hq).mono ?_
    rintro e w1 ⟨rfl, hb1⟩
    have hemp : (parS q).isEmpty = true := by rw [h0]; rfl
    unfold strV
    go_wp2_with fail
    go_ret
    exact ⟨ret_int HE.out.symm, hb1⟩
  · have HE : Hid (parC L q = if atL L ⟨(parS q).toArray⟩ < 0 then 12 else if (L[(atL L ⟨(parS q).toArray⟩).toNat]?).any (fun x => x.k ≠ 3) then 13 else 0) := if_neg h0
    have hemp : (parS q).isEmpty = false := by simpa using h0
    clear h0
    go_enter Tryz.func193, Tryz.ntmps193
    go_wp2_with fail
    refine (parentOf_impl _ _ hq).mono ?_
    rintro e w1 ⟨rfl, hb1⟩
    unfold strV
    go_wp2_with fail
    refine (indexOfPath_any _ L _ _ (hsl.below hb1) hl).mono ?_
    rintro e w2 ⟨rfl, hb2⟩
    have hbw := hb1.trans (hb2.mono hb1.size)
    rcases atL_cases L ⟨(parS q).toArray⟩ with ⟨ha, _⟩ | ⟨j, hj, ha, _⟩
    · have HF : Hid (parC L q = 12) := by show _ = _; rw [HE.out, if_pos (by rw [ha]; decide)]
      rw [ha]
      go_wp2_with fail
      go_ret
      exact ⟨ret_int HF.out.symm, hbw⟩
    · have HG : Hid (parC L q = if L[j].k ≠ 3 then 13 else 0) := by show _ = _; rw [HE.out, if_neg (by omega), ha, Int.toNat_natCast, List.getElem?_eq_getElem hj]; simp
      obtain ⟨b, off, rfl, hb, hcell⟩ := H.out (by omega)
      obtain ⟨f0, _⟩ := (hcell j L[j] (by simp [hj])).below hbw hb
      rw [ha]
      clear ha hcell
      have j1 : (0 : Int) ≤ (j : Int) := by omega
      have j2 : (j : Int) < (L.length : Int) := by omega
      have j3 : decide ((j : Int) < 0) = false := by simp
      by_cases h3 : L[j].k = 3
      · have HN : Hid (parC L q = 0) := by show _ = _; rw [HG.out, if_neg (by simpa using h3)]
        have j4 : (L[j].k != 3) = false := by simpa using h3
        clear h3
        go_wp2_with fail
        go_ret
        exact ⟨ret_int HN.out.symm, hbw⟩
      · have HN : Hid (parC L q = 13) := by show _ = _; rw [HG.out, if_pos h3]
        have j4 : (L[j].k != 3) = true := by simpa using h3
        clear h3
        go_wp2_with fail
        go_ret
        exact ⟨ret_int HN.out.symm, hbw⟩

def behC (L : List R) (r : R) : Int := if 16 ≤ L.length then 6 else if r.fault ≠ 0 then r.fault else if ordC L r.p ≠ 0 then ordC L r.p else parC L r.p

theorem par_up {l : List R} {i : Nat} {r : R} (hp : pathB r.p.data.toList = true) : parC (l.take i) r.p = codeUp l i r := by
  have e : parS r.p = parentL r.p.data.toList := by unfold parS; rw [hp]; rfl
  unfold parC codeUp
  rw [e]
  by_cases h0 : parentL r.p.data.toList = []
  · rw [if_pos h0, if_pos h0]
  · rw [if_neg h0, if_neg h0]
    show (if atL (l.take i) (parO r.p) < 0 then (12 : Int) else if ((l.take i)[(atL (l.take i) (parO r.p)).toNat]?).any (fun x => x.k ≠ 3) then 13 else 0) = _
    rcases atL_cases (l.take i) (parO r.p) with ⟨ha, _⟩ | ⟨j, hj, ha, _⟩
    · rw [ha, if_pos (by decide), if_pos (by decide)]
    · have hneg : ¬ ((j : Int) < 0) := by omega
      rw [ha, if_neg hneg, if_neg hneg, Int.toNat_natCast, List.getElem?_eq_getElem hj]
      rw [List.length_take] at hj
      rw [List.getElem?_eq_getElem (by omega : j < l.length), List.getElem_take]

theorem beh_code {l : List R} {i : Nat} (hi : i < l.length) (hc : ∀ j (h : j < l.length), j < i → codeAt l j l[j] = 0) : behC (l.take i) l[i] = codeAt l i l[i] := by
  have h16 : i ≤ 16 := by
    rcases Nat.lt_or_ge 16 i with h | h
    · exact absurd (hc 16 (by omega) h) (by rw [code_many]; decide)
    · exact h
  have hlen : (l.take i).length = i := by rw [List.length_take]; omega
  unfold behC
  rw [hlen]
  by_cases h1 : i = 16
  · subst h1
    rw [if_pos (by omega), code_many]
  rw [if_neg (by omega)]
  by_cases hf : l[i].fault = 0
  case neg => rw [if_pos hf, code_rec h1 hf]
  rw [if_neg (by simpa using hf)]
  have hp := (fault_path hf).1
  cases i with
  | zero =>
    rw [code_up h1 hf rfl rfl, if_neg (by simp [ord_nil]), par_up hp]
  | succ n =>
    have hn : n < l.length := by omega
    have hp2 := (fault_path (codeAt_zero (hc n hn (by omega))).2).1
    have ho := ord_last (L := l.take (n + 1)) (n := n) hlen l[n + 1].p
    rw [List.getElem_take, lessB_yes hp2 hp] at ho
    rw [ho]
    by_cases he : l[n].p = l[n + 1].p
    · rw [if_pos he, code_same h1 hf (by rw [beforeL_pos hi]; simp [he])]
      rfl
    · rw [if_neg he]
      have hs : (beforeL l (n + 1)).any (fun x => x.p = l[n + 1].p) = false := by rw [beforeL_pos hi]; simp [he]
      rcases Bool.eq_false_or_eq_true (lessP (cutAt 47 l[n].p.data.toList) (cutAt 47 l[n + 1].p.data.toList)) with hl | hl
      · rw [code_up h1 hf hs (by rw [beforeL_pos hi]; simp [hl]), if_pos hl, if_neg (by decide), par_up hp]
      · rw [code_order h1 hf hs (by rw [beforeL_pos hi]; simp [hl])]
        simp [hl]

set_option maxHeartbeats 800000 in
theorem faultBehind_any (v : Value) (L : List R) (r : R) (w : World) (h : RecSl w v L) (hl : L.length ≤ 1048576) (hq : r.p.size ≤ maxLen) (hr : ∀ x ∈ L, x.p.size ≤ maxLen) (ht : Tab w) :
    Calls Tryz.prog 143 #[v, .agg #[.int .i64 r.k, .string r.p, .string r.b, .int .i64 r.m, .bool r.o]] w fun e w' => e = .returned (.int .i64 (behC L r)) ∧ Below w.heap.size w w' := by
  have hb0 : Below w.heap.size w (w.alloc (.cells #[.int .i64 r.k, .string r.p, .string r.b, .int .i64 r.m, .bool r.o] 53)) := (Below.refl _ _).alloc (Nat.le_refl _) _
  have hsl := h.below hb0
  have ht0 := ht.below hb0 (Nat.le_refl _)
  obtain ⟨A, cap, rfl, hcap, _⟩ := h
  by_cases h16 : 16 ≤ L.length
  · have HE : Hid (behC L r = 6) := if_pos h16
    have hd : decide ((16 : Int) ≤ (L.length : Int)) = true := by simp; omega
    go_enter Tryz.func143, Tryz.ntmps143
    go_wp2_with fail
    go_ret
    exact ⟨ret_int HE.out.symm, hb0⟩
  have hd : decide ((16 : Int) ≤ (L.length : Int)) = false := by simp; omega
  have HB : Hid (behC L r = if r.fault ≠ 0 then r.fault else if ordC L r.p ≠ 0 then ordC L r.p else parC L r.p) := if_neg h16
  clear h16
  go_enter Tryz.func143, Tryz.ntmps143
  go_wp2_with fail
  refine (recordFault_impl _ _ _ _ _ _ hq ht0).mono ?_
  rintro e w1 ⟨rfl, hb1⟩
  have hb01 := hb0.trans (hb1.mono hb0.size)
  obtain ⟨hc1, hf1⟩ := bcell hb1
  have hz1 : w.heap.size < w1.heap.size := by have := hb1.size; simp at this; omega
  by_cases hf : r.fault = 0
  case neg =>
    have HE : Hid (behC L r = faultI r.k r.p.data.toList r.b.size r.m r.o) := by show _ = _; rw [HB.out, if_pos hf]; rfl
    have hd1 : (faultI r.k r.p.data.toList r.b.size r.m r.o != 0) = true := by have h := hf; unfold R.fault at h; simpa using h
    clear hf
    go_wp2_with fail
    go_ret
    exact ⟨ret_int HE.out.symm, hb01⟩
  have HC : Hid (behC L r = if ordC L r.p ≠ 0 then ordC L r.p else parC L r.p) := by show _ = _; rw [HB.out, if_neg (by simpa using hf)]
  have hd1 : (faultI r.k r.p.data.toList r.b.size r.m r.o != 0) = false := by have h := hf; unfold R.fault at h; simpa using h
  clear hf
  go_wp2_with fail
  refine (orderFault_any _ L _ _ (hsl.below hb1) hl hq hr).mono ?_
  rintro e w2 ⟨rfl, hb2⟩
  have hb02 := hb01.trans (hb2.mono hb01.size)
  obtain ⟨hc2, hf2⟩ := bcell hb2
  have hz2 : w.heap.size < w2.heap.size := by have := hb2.size; omega
  by_cases ho : ordC L r.p = 0
  case neg =>
    have HE : Hid (behC L r = ordC L r.p) := by show _ = _; rw [HC.out, if_pos ho]
    have hd2 : (ordC L r.p != 0) = true := by simpa using ho
    clear ho
    go_wp2_with fail
    go_ret
    exact ⟨ret_int HE.out.symm, hb02⟩
  have HE : Hid (behC L r = parC L r.p) := by show _ = _; rw [HC.out, if_neg (by simpa using ho)]
  have hd2 : (ordC L r.p != 0) = false := by simpa using ho
  clear ho
  go_wp2_with fail
  refine (parentFault_any _ L _ _ ((hsl.below hb1).below hb2) hl hq).mono ?_
  rintro e w3 ⟨rfl, hb3⟩
  go_wp2_with fail
  go_ret
  exact ⟨ret_int HE.out.symm, hb02.trans (hb3.mono hb02.size)⟩
end Go.Proofs.YtibekkfbpmloiabGreatDoor.Recs

/- Layers: the error of a list, the code of errors. Conditions: the table of kinds, the sentinels (as each states). -/
namespace Go.Proofs.YtibekkfbpmloiabGreatDoor.Recs
set_option maxRecDepth 100000
open Go.RowKit Paths Errs

/-- What checkLayer answers; x: where the sentinel of long arguments lies. -/
def checkV (l : List R) (x : Addr) : Value := if 4096 < l.length then errV x else if (layerFaultL l).2 ≠ 0 then recV (layerFaultL l).1 (layerFaultL l).2 else .nilIface
theorem check_long {l : List R} {x : Addr} (h : 4096 < l.length) : checkV l x = errV x := if_pos h
theorem check_bad {l : List R} {x : Addr} {i c : Int} (h : ¬ 4096 < l.length) (hf : layerFaultL l = (i, c)) (hc : c ≠ 0) : checkV l x = recV i c := by
  unfold checkV; rw [if_neg h, hf, if_pos hc]
theorem check_ok {l : List R} {x : Addr} (h : ¬ 4096 < l.length) (hf : layerFaultL l = (0, 0)) : checkV l x = .nilIface := by
  unfold checkV; rw [if_neg h, hf, if_neg (by simp)]
theorem ret_eq {a b : Value} (h : a = b) : Ending.returned a = .returned b := by rw [h]

set_option maxHeartbeats 800000 in
theorem checkLayer_any (v : Value) (l : List R) (x : Addr) (w : World) (h : RecSl w v l) (hl : l.length ≤ 1048576) (hr : ∀ r ∈ l, r.p.size ≤ maxLen) (ht : Tab w) (hx : w.cell? ⟨0, 0, none⟩ = some (errV x)) :
    Calls Tryz.prog 77 #[v] w fun e w' => e = .returned (checkV l x) ∧ Below w.heap.size w w' := by
  have hsl := h
  obtain ⟨A, cap, rfl, hcap, h⟩ := h
  by_cases h4 : 4096 < l.length
  · have HE := Lib.hid (check_long (x := x) h4)
    have hd : decide ((4096 : Int) < (l.length : Int)) = true := by simp; omega
    unfold errV at hx HE
    go_enter Tryz.func77, Tryz.ntmps77
    go_wp2_with fail
    go_ret
    exact ⟨ret_eq HE.out.symm, Below.refl _ _⟩
  have hd : decide ((4096 : Int) < (l.length : Int)) = false := by simp; omega
  have HSl := Lib.hid hsl
  have H := Lib.hid h
  have HT := Lib.hid ht
  have H4 := Lib.hid h4
  clear h hsl ht hx h4
  go_enter Tryz.func77, Tryz.ntmps77
  go_wp2
  go_loopw [12] (fun i wr => ∃ k : Nat, k ≤ l.length ∧ i = .int .i64 k ∧ Hid (layerFaultL l = faultFrom l k) ∧ Hid (∀ j (h : j < l.length), j < k → codeAt l j l[j] = 0) ∧ Below w.heap.size w wr) (fun i _ => l.length - (intOf i).toNat)
  case atStart => exact ⟨0, by omega, rfl, rfl, fun j h hj => by omega, Below.refl _ _⟩
  case round =>
    obtain ⟨k, hk, rfl, HK, HC, hbw⟩ := hrel
    by_cases hlt : k < l.length
    · obtain ⟨b, off, rfl, hb, hcell⟩ := H.out (by omega)
      obtain ⟨c0, c1, c2, c3, c4⟩ := (hcell k l[k] (by simp [hlt])).below hbw hb
      have hi1 : (k : Int) < (l.length : Int) := by omega
      have hi0 : (0 : Int) ≤ (k : Int) := by omega
      clear hcell
      go_wp2_with fail
      have a0 : (wr.alloc (.cells #[.int .i64 l[k].k, .string l[k].p, .string l[k].b, .int .i64 l[k].m, .bool l[k].o] 53)).cell? ⟨wr.heap.size, 0, none⟩ = some (.int .i64 l[k].k) := by go_simp
      have a1 : (wr.alloc (.cells #[.int .i64 l[k].k, .string l[k].p, .string l[k].b, .int .i64 l[k].m, .bool l[k].o] 53)).cell? ⟨wr.heap.size, 1, none⟩ = some (.string l[k].p) := by go_simp
      have a2 : (wr.alloc (.cells #[.int .i64 l[k].k, .string l[k].p, .string l[k].b, .int .i64 l[k].m, .bool l[k].o] 53)).cell? ⟨wr.heap.size, 2, none⟩ = some (.string l[k].b) := by go_simp
      have a3 : (wr.alloc (.cells #[.int .i64 l[k].k, .string l[k].p, .string l[k].b, .int .i64 l[k].m, .bool l[k].o] 53)).cell? ⟨wr.heap.size, 3, none⟩ = some (.int .i64 l[k].m) := by go_simp
      have a4 : (wr.alloc (.cells #[.int .i64 l[k].k, .string l[k].p, .string l[k].b, .int .i64 l[k].m, .bool l[k].o] 53)).cell? ⟨wr.heap.size, 4, none⟩ = some (.bool l[k].o) := by go_simp
      have hbA : Below w.heap.size w (wr.alloc (.cells #[.int .i64 l[k].k, .string l[k].p, .string l[k].b, .int .i64 l[k].m, .bool l[k].o] 53)) := hbw.alloc hbw.size _
      generalize wr.alloc (.cells #[.int .i64 l[k].k, .string l[k].p, .string l[k].b, .int .i64 l[k].m, .bool l[k].o] 53) = W at *
      have hi2 : (k : Int) ≤ (cap : Int) := by omega
      have hi3 : k ≤ cap := by omega
      have hi4 : ¬ ((k : Int) < 0) := by omega
      have hi5 : ¬ ((cap : Int) < (k : Int)) := by omega
      go_still_tail 4, (by kernel_rfl)
      change wpList _ _ _ _ _ W.drew
      have hbA' : Below w.heap.size w W.drew := hbA.drew
      clear hbA c0 c1 c2 c3 c4
      generalize W.drew = W2 at *
      have hslr := (HSl.out.below hbA').take (k := k) (by omega)
      have hq := hr l[k] (List.getElem_mem hlt)
      have htr := HT.out.below hbA' (Nat.le_refl _)
      go_wp2_with fail
      refine (faultBehind_any _ (l.take k) l[k] _ (by exact hslr) (by rw [List.length_take]; omega) hq (fun r hm => hr r (List.mem_of_mem_take hm)) htr).mono ?_
      rintro e w1 ⟨rfl, hb1⟩
      rw [beh_code hlt HC.out]
      have hbw1 := hbA'.trans (hb1.mono hbA'.size)
      by_cases hc : codeAt l k l[k] = 0
      · have HF := Lib.hid (HK.out.trans (faultFrom_good hlt hc))
        have HA := all_next HC.out hlt hc
        rw [hc]
        go_wp2_with fail
        exact ⟨⟨k + 1, by omega, by go_num, HF, HA, hbw1⟩, by simp [intOf]; omega⟩
      · have HE := Lib.hid (check_bad (x := x) H4.out (HK.out.trans (faultFrom_bad hlt hc)) hc)
        have hd2 : (codeAt l k l[k] != 0) = true := by simpa using hc
        unfold recV at HE
        clear hc
        go_wp2_with fail
        go_ret
        exact ⟨ret_eq HE.out.symm, hbw1⟩
    · obtain rfl : k = l.length := by omega
      have HE := Lib.hid (check_ok (x := x) H4.out (HK.out.trans (faultFrom_end (Nat.le_refl _))))
      go_wp2
      go_ret
      exact ⟨ret_eq HE.out.symm, hbw⟩

end Go.Proofs.YtibekkfbpmloiabGreatDoor.Recs

/- Layers: LayerFault and LayerOK of the model. -/
namespace Go.Proofs.YtibekkfbpmloiabGreatDoor.Recs
set_option maxRecDepth 100000
open Go.RowKit Paths

theorem l03OK_any (v : Value) (l : List R) (w : World) (h : RecSl w v l) (hl : l.length ≤ 1048576) :
    Calls Tryz.prog 65 #[v] w fun e w' => e = .returned (.bool (layerOK l)) ∧ Below w.heap.size w w' := by
  have HC := l03Fault_any v l w h hl
  obtain ⟨A, cap, rfl, hcap, _⟩ := h
  go_enter Tryz.func65, Tryz.ntmps65
  go_wp2_with fail
  refine HC.mono ?_
  rintro e w1 ⟨rfl, hb1⟩
  go_wp2_with fail
  go_ret
  exact ⟨rfl, hb1⟩

end Go.Proofs.YtibekkfbpmloiabGreatDoor.Recs

/- Layers: comparison of two lists of records, of the program and of its model. -/
namespace Go.Proofs.YtibekkfbpmloiabGreatDoor.Recs
set_option maxRecDepth 100000
open Go.RowKit Paths

instance decR : DecidableEq R := fun x y =>
  if h : x.k = y.k ∧ x.m = y.m ∧ x.p = y.p ∧ x.b = y.b ∧ x.o = y.o then isTrue (by cases x; cases y; simp_all) else isFalse (fun e => h (by subst e; simp))
/-- Two records are alike, or one field is the first that is not. -/
theorem five (x y : R) : (x.k == y.k) = false ∨ ((x.k == y.k) = true ∧ (x.p.toList == y.p.toList) = false) ∨ ((x.k == y.k) = true ∧ (x.p.toList == y.p.toList) = true ∧ (x.b.toList == y.b.toList) = false) ∨
    ((x.k == y.k) = true ∧ (x.p.toList == y.p.toList) = true ∧ (x.b.toList == y.b.toList) = true ∧ (x.m == y.m) = false) ∨ ((x.k == y.k) = true ∧ (x.p.toList == y.p.toList) = true ∧ (x.b.toList == y.b.toList) = true ∧ (x.m == y.m) = true ∧ (x.o == y.o) = false) ∨
    ((x.k == y.k) = true ∧ (x.p.toList == y.p.toList) = true ∧ (x.b.toList == y.b.toList) = true ∧ (x.m == y.m) = true ∧ (x.o == y.o) = true) := by
  cases (x.k == y.k) <;> cases (x.p.toList == y.p.toList) <;> cases (x.b.toList == y.b.toList) <;> cases (x.m == y.m) <;> cases (x.o == y.o) <;> simp
theorem rec_eq {x y : R} (h0 : (x.k == y.k) = true) (h1 : (x.p.toList == y.p.toList) = true) (h2 : (x.b.toList == y.b.toList) = true) (h3 : (x.m == y.m) = true) (h4 : (x.o == y.o) = true) : x = y := by
  have e0 := eq_of_beq h0
  have e1 := str_eq_of h1
  have e2 := str_eq_of h2
  have e3 := eq_of_beq h3
  have e4 := eq_of_beq h4
  cases x; cases y
  simp only at e0 e1 e2 e3 e4
  subst e0 e1 e2 e3 e4
  rfl
theorem ne_at {A B : List R} {k : Nat} (h1 : k < A.length) (h2 : k < B.length) (h : A[k] ≠ B[k]) : Hid (¬ A = B) := fun e => h (getElem_of_eq h1 h2 e)

end Go.Proofs.YtibekkfbpmloiabGreatDoor.Recs

/- Trees: the place of a path, comparison of two, of the model. DRAFT (made out of the texts on records; not built yet: no seat had nodes). -/
namespace Go.Proofs.YtibekkfbpmloiabGreatDoor.Recs
set_option maxRecDepth 100000
open Go.RowKit Paths

theorem NodSl.take {w : World} {A : Option Addr} {cap : Nat} {l : List R} {k : Nat} (h : NodSl w (.slice A l.length cap) l) (hk : k ≤ l.length) : NodSl w (.slice A k cap) (l.take k) := by
  obtain ⟨ho, A', cap', e, hc, h⟩ := h
  cases e
  refine ⟨fun r hr => ho r (List.mem_of_mem_take hr), A, cap, by rw [List.length_take, Nat.min_eq_left hk], by rw [List.length_take]; omega, fun hn => ?_⟩
  rw [List.length_take] at hn
  obtain ⟨b, off, e, hb, hcell⟩ := h (by omega)
  refine ⟨b, off, e, hb, fun j p hj => hcell j p ?_⟩
  rw [List.getElem?_take] at hj
  split at hj
  · exact hj
  · cases hj
set_option maxHeartbeats 400000 in
theorem l04At_any (v : Value) (l : List R) (q : ByteArray) (w : World) (h : NodSl w v l) (hl : l.length ≤ 1048576) :
    Calls Tryz.prog 127 #[v, .string q] w fun e w' => e = .returned (.int .i64 (atL l q)) ∧ w = w' := by
  obtain ⟨_, A, cap, rfl, hcap, h⟩ := h
  have H := Lib.hid h
  clear h
  go_enter Tryz.func127, Tryz.ntmps127
  go_wp2
  go_loop [5] (fun i => ∃ k : Nat, k ≤ l.length ∧ i = .int .i64 k ∧ Hid (atL l q = atFrom (l.drop k) k q)) (fun i => l.length - (intOf i).toNat)
  case atStart => exact ⟨0, by omega, rfl, rfl⟩
  case round =>
    obtain ⟨k, hk, rfl, HK⟩ := hrel
    by_cases hlt : k < l.length
    · obtain ⟨b, off, rfl, hb, hcell⟩ := H.out (by omega)
      obtain ⟨_, hc1, _⟩ := hcell k l[k] (by simp [hlt])
      have HS := Lib.hid (HK.out.trans (atFrom_step hlt q))
      clear hcell HK
      have hi1 : (k : Int) < (l.length : Int) := by omega
      have hi0 : (0 : Int) ≤ (k : Int) := by omega
      rcases Bool.eq_false_or_eq_true (l[k].p.toList == q.toList) with he | he
      · have HE : Hid (atL l q = k) := by show _ = _; rw [HS.out, if_pos (str_eq_of he)]
        go_wp2
        go_ret
        exact ⟨ret_int HE.out.symm, rfl⟩
      · have HE : Hid (atL l q = atFrom (l.drop (k + 1)) (k + 1) q) := by show _ = _; rw [HS.out, if_neg (fun e => by rw [e] at he; simp at he)]
        go_wp2
        exact ⟨⟨k + 1, by omega, by go_num, HE⟩, by simp [intOf]; omega⟩
    · have HE := Lib.hid (HK.out.trans (atFrom_end (by omega) q))
      go_wp2
      go_ret
      exact ⟨ret_int HE.out.symm, rfl⟩

/-- Two nodes are alike, or one field is the first that is not. -/
theorem four (x y : R) : (x.k == y.k) = false ∨ ((x.k == y.k) = true ∧ (x.p.toList == y.p.toList) = false) ∨ ((x.k == y.k) = true ∧ (x.p.toList == y.p.toList) = true ∧ (x.b.toList == y.b.toList) = false) ∨
    ((x.k == y.k) = true ∧ (x.p.toList == y.p.toList) = true ∧ (x.b.toList == y.b.toList) = true ∧ (x.m == y.m) = false) ∨ ((x.k == y.k) = true ∧ (x.p.toList == y.p.toList) = true ∧ (x.b.toList == y.b.toList) = true ∧ (x.m == y.m) = true) := by
  cases (x.k == y.k) <;> cases (x.p.toList == y.p.toList) <;> cases (x.b.toList == y.b.toList) <;> cases (x.m == y.m) <;> simp

end Go.Proofs.YtibekkfbpmloiabGreatDoor.Recs

/- growTree, of the program: the errors, or the tree in memory. Conditions: the table of kinds, the two sentinels. -/
namespace Go.Proofs.YtibekkfbpmloiabGreatDoor.Recs
set_option maxRecDepth 100000
open Go.RowKit Paths Errs

/-- An error that a check hands back: none, the sentinel of long arguments, the one of invalid ones. -/
inductive EN where
  | fine
  | long
  | inv
def EN.val (x y : Addr) : EN → Value
  | .fine => .nilIface
  | .long => errV x
  | .inv => errV y
end Go.Proofs.YtibekkfbpmloiabGreatDoor.Recs

/- Trees: ListDir, of the program and of its model. Conditions (of the program's): the table of kinds, the two sentinels. -/
namespace Go.Proofs.YtibekkfbpmloiabGreatDoor.Recs
set_option maxRecDepth 100000
open Go.RowKit Paths Errs

theorem cut_last {p : ByteArray} {w : World} {g : Nat} (h : ∀ i (hi : i < (cutAt 47 p.data.toList).length), w.cell? ⟨g, i, none⟩ = some (strV (cutAt 47 p.data.toList)[i])) : w.cell? ⟨g, (cutAt 47 p.data.toList).length - 1, none⟩ = some (.string (lastB p)) := by
  have hp := cutAt_pos 47 p.data.toList
  rw [h _ (by omega), last_cell hp]

end Go.Proofs.YtibekkfbpmloiabGreatDoor.Recs

/- A tree in memory: a node taken out, with all that is below it. -/
namespace Go.Proofs.YtibekkfbpmloiabGreatDoor.Recs
set_option maxRecDepth 100000
open Go.RowKit Paths

theorem ups_nil : ups ByteArray.empty = [] := by decide
section
variable {base : Nat} {A : ByteArray → Nat} {S : ByteArray → Value} {t : List R} {x : R} {q : ByteArray}
/-- Those directly below one that stay without a last part. -/
def kidsBut (t : List R) (p q : ByteArray) : List R := (kids t p).filter fun c => !decide (lastB c.p = lastB q)
theorem Tr.cut {W w9 : World} (h : Tr W base A S t) (ht : IsTree t) (hq : pathB q.data.toList = true) (hx : x ∈ rootR :: t) (hxp : x.p = parO q) {v' : Value}
    (hown : w9.ownsRow base 146 1 v' (kidsBut t x.p q).length (ptrs A (kidsBut t x.p q)))
    (hgrow : W.grownBy w9 (S x.p).ownBlock) (hwh : v'.ownBlock = (S x.p).ownBlock) :
    Tr (w9.setCell ⟨A x.p, 5, none⟩ v') base A (fun p => if p = x.p then v' else S p) (withoutL t q true) := by
  have hs := ht.sorted
  have hpath := ht.path
  have hmem : ∀ r, r ∈ rootR :: withoutL t q true → r ∈ rootR :: t ∧ r.p ≠ q ∧ q ∉ ups r.p := fun r hr => by
    rcases List.mem_cons.1 hr with rfl | hr
    · refine ⟨root_mem, fun e => path_nonempty hq e.symm, ?_⟩
      rw [rootR_p, ups_nil]
      simp
    · obtain ⟨h1, h2, h3⟩ := mem_without.1 hr
      exact ⟨List.mem_cons_of_mem _ h1, h3 rfl, h2⟩
  have hb9 : ∀ r ∈ rootR :: t, w9.heap[A r.p]? = W.heap[A r.p]? := fun r hr => hgrow.block _ (h.lt hr) (fun e => h.apart_row hr hx e.symm)
  have hvx : v'.ownBlock ≠ some (A x.p) := by rw [hwh]; exact h.apart_row hx hx
  have hkid : ∀ r ∈ rootR :: withoutL t q true, kids (withoutL t q true) r.p = if r.p = x.p then kidsBut t x.p q else kids t r.p := fun r hr => by
    obtain ⟨_, h2, h3⟩ := hmem r hr
    rw [kids_without hpath hq ⟨h2, h3⟩]
    by_cases he : r.p = x.p
    · rw [if_pos he, he, hxp]
      unfold kidsBut
      simp
    · rw [if_neg he]
      have : ¬ parO q = r.p := fun e => he (by rw [hxp, e])
      simp [this]
  refine ⟨fun r hr => ?_, fun r hr => h.own r (hmem r hr).1, fun r hr => ?_, fun r hr y hy hne g hg => ?_⟩
  · have hrt := (hmem r hr).1
    by_cases he : r.p = x.p
    · obtain rfl := dom_once hs hpath hrt hx he
      rw [if_pos rfl, setCell_block ((hb9 r hrt).trans (h.block r hrt)) 5 v']
      rfl
    · rw [if_neg he, Below.heap_setCell _ _ _ _ (fun e => he (h.inj hrt hx e)), hb9 r hrt]
      exact h.block r hrt
  · have hrt := (hmem r hr).1
    rw [hkid r hr]
    by_cases he : r.p = x.p
    · rw [if_pos he, if_pos he]
      exact ownsRow_setCell_other hown hvx _
    · rw [if_neg he, if_neg he]
      have hk := (h.row r hrt).kept hgrow (by
        cases hc : (S r.p).ownBlock with
        | none => exact .inl rfl
        | some g => exact .inr fun e => h.apart r hrt x hx he g hc e.symm)
      exact ownsRow_setCell_other hk (h.apart_row hx hrt) _
  · have hrt := (hmem r hr).1
    have hyt := (hmem y hy).1
    by_cases her : r.p = x.p
    · have hey : y.p ≠ x.p := fun e => hne (her.trans e.symm)
      rw [if_pos her, hwh] at hg
      rw [if_neg hey]
      exact h.apart x hx y hyt (fun e => hey e.symm) g hg
    · rw [if_neg her] at hg
      by_cases hey : y.p = x.p
      · rw [if_pos hey, hwh]
        exact h.apart r hrt x hx her g hg
      · rw [if_neg hey]
        exact h.apart r hrt y hyt hne g hg
end
end Go.Proofs.YtibekkfbpmloiabGreatDoor.Recs

/- A tree in memory: remove, of the program. -/
namespace Go.Proofs.YtibekkfbpmloiabGreatDoor.Recs
set_option maxRecDepth 100000
open Go.RowKit Paths

theorem str_eq_dec (a b : ByteArray) : (a.toList == b.toList) = decide (a = b) := by
  by_cases h : a = b
  · subst h; simp
  · rw [decide_eq_false h, Bool.eq_false_iff]
    exact fun e => h (str_eq_of e)
end Go.Proofs.YtibekkfbpmloiabGreatDoor.Recs
