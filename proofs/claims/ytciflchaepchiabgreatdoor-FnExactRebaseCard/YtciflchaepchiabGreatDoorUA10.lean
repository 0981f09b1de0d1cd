/- Parts of several texts of mine in one file (each begins with its own remark). -/
import Derived.Test.YtciflchaepchiabGreatDoorUA1
import Derived.Test.YtciflchaepchiabGreatDoorUA2
import Derived.Test.YtciflchaepchiabGreatDoorUA3
import Derived.Test.YtciflchaepchiabGreatDoorUA4
import Derived.Test.YtciflchaepchiabGreatDoorUA5
import Derived.Test.YtciflchaepchiabGreatDoorUA6
import Derived.Test.YtciflchaepchiabGreatDoorUA7
import Derived.Test.YtciflchaepchiabGreatDoorUA8
import Derived.Test.YtciflchaepchiabGreatDoorUA9
import Derived.Test.YtciflchaepchiabGreatDoorChecked
import Derived.Test.YtciflchaepchiabGreatDoorShelf
import Derived.Test.YtciflchaepchiabGreatDoorProg
import Derived.Stop.LaidErr
import Derived.StillTailTactics
import Derived.Laws.OwnMore
import Derived.BigQuiet
import Derived.BigRegion
import Derived.Deep.QuietTactic
import Derived.Deep.RegionHeld3
import Derived.Deep.Slices
import Derived.OpenShut
import Derived.ShutString
import Derived.ChangeArms
import Derived.WideShapes
import Derived.Lib.LaidTab
import Derived.Deep.Draws
import Derived.Deep.LoopGhost
import Derived.WalkKit
import Derived.WalkSpells
import Derived.WalkSmall
import Derived.Lib.OthersKept
import Derived.Lib.Hide
import Derived.Lib.Strings
import Derived.Lib.Join
import Derived.Laws.BytesArg
import Derived.WalkLawsBesides
import Derived.LaidEql
import Derived.Stop.Asserts
import Derived.Below
import Derived.Stop.LaidTwo
/- Layers: the program's check of one: the code of a record behind others, the error of a list. Conditions: the table of kinds, the sentinel (as each states). -/
namespace Go.Proofs.YtciflchaepchiabGreatDoor.Recs
set_option maxRecDepth 100000
open Go.RowKit Paths Errs

def ordC (L : List R) (q : ByteArray) : Int := match L.getLast? with | none => 0 | some x => if x.p = q then 18 else if lessB x.p q then 0 else 11
theorem ord_nil (q : ByteArray) : ordC [] q = 0 := rfl
theorem ord_last {L : List R} {n : Nat} (hn : L.length = n + 1) (q : ByteArray) : ordC L q = if (L[n]'(by omega)).p = q then 18 else if lessB (L[n]'(by omega)).p q then 0 else 11 := by
  have e : L[L.length - 1]? = some (L[n]'(by omega)) := by
    have h1 : L.length - 1 = n := by omega
    rw [h1, List.getElem?_eq_getElem]
  unfold ordC
  rw [List.getLast?_eq_getElem?, e]

set_option maxHeartbeats 800000 in
theorem orderFault_any (v : Value) (L : List R) (q : ByteArray) (w : World) (h : RecSl w v L) (hl : L.length ≤ 1048576) (hq : q.size ≤ maxLen) (hr : ∀ r ∈ L, r.p.size ≤ maxLen) :
    Calls Tryz.prog 176 #[v, .string q] w fun e w' => e = .returned (.int .i64 (ordC L q)) ∧ Below w.heap.size w w' := by
  obtain ⟨A, cap, rfl, hcap, h⟩ := h
  by_cases h0 : L.length = 0
  · have HE : Hid (ordC L q = 0) := by rw [List.eq_nil_of_length_eq_zero h0]; rfl
    rw [h0]
    go_enter Tryz.func176, Tryz.ntmps176
    go_wp2_with fail
    go_ret
    exact ⟨ret_int HE.out.symm, Below.refl _ _⟩
  · obtain ⟨n, hn⟩ : ∃ n, L.length = n + 1 := ⟨L.length - 1, by omega⟩
    have HO := Lib.hid (ord_last hn q)
    obtain ⟨b, off, rfl, hb, hcell⟩ := h (by omega)
    obtain ⟨_, c1, _⟩ := hcell n (L[n]'(by omega)) (by simp)
    have hs := hr (L[n]'(by omega)) (List.getElem_mem _)
    clear h hcell hr
    generalize L[n]'(by omega) = x at *
    rw [hn] at hl hcap ⊢
    have i1 : (n : Int) < (n : Int) + 1 := by omega
    have i0 : (0 : Int) ≤ (n : Int) := by omega
    have hd0 : ((n : Int) + 1 == 0) = false := by simp; omega
    clear hn h0
    rcases Bool.eq_false_or_eq_true (q.toList == x.p.toList) with he | he
    · have HE : Hid (ordC L q = 18) := by show _ = _; rw [HO.out, if_pos (str_eq_of he).symm]
      go_enter Tryz.func176, Tryz.ntmps176
      go_wp2_with fail
      go_ret
      exact ⟨ret_int HE.out.symm, Below.refl _ _⟩
    · have hne : ¬ x.p = q := fun e => by rw [e] at he; simp at he
      have HE : Hid (ordC L q = if lessB x.p q then 0 else 11) := by show _ = _; rw [HO.out, if_neg hne]
      clear hne
      rcases Bool.eq_false_or_eq_true (lessB x.p q) with hb2 | hb2
      · have HF : Hid (ordC L q = 0) := by show _ = _; rw [HE.out, if_pos hb2]
        go_enter Tryz.func176, Tryz.ntmps176
        go_wp2_with (go_at_call 41; refine (pathLess_impl _ _ _ hs hq).mono ?_; rintro e w1 ⟨rfl, hb1⟩)
        go_ret
        exact ⟨ret_int HF.out.symm, hb1⟩
      · have HF : Hid (ordC L q = 11) := by show _ = _; rw [HE.out, if_neg (by rw [hb2]; decide)]
        go_enter Tryz.func176, Tryz.ntmps176
        go_wp2_with (go_at_call 41; refine (pathLess_impl _ _ _ hs hq).mono ?_; rintro e w1 ⟨rfl, hb1⟩)
        go_ret
        exact ⟨ret_int HF.out.symm, hb1⟩

def parC (L : List R) (q : ByteArray) : Int :=
  if parS q = [] then 0 else if atL L ⟨(parS q).toArray⟩ < 0 then 12 else if (L[(atL L ⟨(parS q).toArray⟩).toNat]?).any (fun x => x.k ≠ 3) then 13 else 0

set_option maxHeartbeats 800000 in
theorem parentFault_any (v : Value) (L : List R) (q : ByteArray) (w : World) (h : RecSl w v L) (hl : L.length ≤ 1048576) (hq : q.size ≤ maxLen) :
    Calls Tryz.prog 177 #[v, .string q] w fun e w' => e = .returned (.int .i64 (parC L q)) ∧ Below w.heap.size w w' := by
  have hsl := h
  obtain ⟨A, cap, rfl, hcap, h⟩ := h
  have H := Lib.hid h
  clear h
  by_cases h0 : parS q = []
  · have HE : Hid (parC L q = 0) := if_pos h0
    go_enter Tryz.func177, Tryz.ntmps177
    go_wp2_with fail
    refine (parentOf_impl _ _ hq).mono ?_
    rintro e w1 ⟨rfl, hb1⟩
    have hemp : (parS q).isEmpty = true := by rw [h0]; rfl
    unfold strV
    go_wp2_with fail
    go_ret
    exact ⟨ret_int HE.out.symm, hb1⟩
  · have HE : Hid (parC L q = if atL L ⟨(parS q).toArray⟩ < 0 then 12 else if (L[(atL L ⟨(parS q).toArray⟩).toNat]?).any (fun x => x.k ≠ 3) then 13 else 0) := if_neg h0
    have hemp : (parS q).isEmpty = false := by simpa using h0
    clear h0
    go_enter Tryz.func177, Tryz.ntmps177
    go_wp2_with fail
    refine (parentOf_impl _ _ hq).mono ?_
    rintro e w1 ⟨rfl, hb1⟩
    unfold strV
    go_wp2_with fail
    refine (indexOfPath_any _ L _ _ (hsl.below hb1) hl).mono ?_
    rintro e w2 ⟨rfl, hb2⟩
    have hbw := hb1.trans (hb2.mono hb1.size)
    rcases atL_cases L ⟨(parS q).toArray⟩ with ⟨ha, _⟩ | ⟨j, hj, ha, _⟩
    · have HF : Hid (parC L q = 12) := by show _ = _; rw [HE.out, if_pos (by rw [ha]; decide)]
      rw [ha]
      go_wp2_with fail
      go_ret
      exact ⟨ret_int HF.out.symm, hbw⟩
    · have HG : Hid (parC L q = if L[j].k ≠ 3 then 13 else 0) := by show _ = _; rw [HE.out, if_neg (by omega), ha, Int.toNat_natCast, List.getElem?_eq_getElem hj]; simp
      obtain ⟨b, off, rfl, hb, hcell⟩ := H.out (by omega)
      obtain ⟨f0, _⟩ := (hcell j L[j] (by simp [hj])).below hbw hb
      rw [ha]
      clear ha hcell
      have j1 : (0 : Int) ≤ (j : Int) := by omega
      have j2 : (j : Int) < (L.length : Int) := by omega
      have j3 : decide ((j : Int) < 0) = false := by simp
      by_cases h3 : L[j].k = 3
      · have HN : Hid (parC L q = 0) := by show _ = _; rw [HG.out, if_neg (by simpa using h3)]
        have j4 : (L[j].k != 3) = false := by simpa using h3
        clear h3
        go_wp2_with fail
        go_ret
        exact ⟨ret_int HN.out.symm, hbw⟩
      · have HN : Hid (parC L q = 13) := by show _ = _; rw [HG.out, if_pos h3]
        have j4 : (L[j].k != 3) = true := by simpa using h3
        clear h3
        go_wp2_with fail
        go_ret
        exact ⟨ret_int HN.out.symm, hbw⟩

def behC (L : List R) (r : R) : Int := if 16 ≤ L.length then 6 else if r.fault ≠ 0 then r.fault else if ordC L r.p ≠ 0 then ordC L r.p else parC L r.p

theorem par_up {l : List R} {i : Nat} {r : R} (hp : pathB r.p.data.toList = true) : parC (l.take i) r.p = codeUp l i r := by
  have e : parS r.p = parentL r.p.data.toList := by unfold parS; rw [hp]; rfl
  unfold parC codeUp
  rw [e]
  by_cases h0 : parentL r.p.data.toList = []
  · rw [if_pos h0, if_pos h0]
  · rw [if_neg h0, if_neg h0]
    show (if atL (l.take i) (parO r.p) < 0 then (12 : Int) else if ((l.take i)[(atL (l.take i) (parO r.p)).toNat]?).any (fun x => x.k ≠ 3) then 13 else 0) = _
    rcases atL_cases (l.take i) (parO r.p) with ⟨ha, _⟩ | ⟨j, hj, ha, _⟩
    · rw [ha, if_pos (by decide), if_pos (by decide)]
    · have hneg : ¬ ((j : Int) < 0) := by omega
      rw [ha, if_neg hneg, if_neg hneg, Int.toNat_natCast, List.getElem?_eq_getElem hj]
      rw [List.length_take] at hj
      rw [List.getElem?_eq_getElem (by omega : j < l.length), List.getElem_take]

theorem beh_code {l : List R} {i : Nat} (hi : i < l.length) (hc : ∀ j (h : j < l.length), j < i → codeAt l j l[j] = 0) : behC (l.take i) l[i] = codeAt l i l[i] := by
  have h16 : i ≤ 16 := by
    rcases Nat.lt_or_ge 16 i with h | h
    · exact absurd (hc 16 (by omega) h) (by rw [code_many]; decide)
    · exact h
  have hlen : (l.take i).length = i := by rw [List.length_take]; omega
  unfold behC
  rw [hlen]
  by_cases h1 : i = 16
  · subst h1
    rw [if_pos (by omega), code_many]
  rw [if_neg (by omega)]
  by_cases hf : l[i].fault = 0
  case neg => rw [if_pos hf, code_rec h1 hf]
  rw [if_neg (by simpa using hf)]
  have hp := (fault_path hf).1
  cases i with
  | zero =>
    rw [code_up h1 hf rfl rfl, if_neg (by simp [ord_nil]), par_up hp]
  | succ n =>
    have hn : n < l.length := by omega
    have hp2 := (fault_path (codeAt_zero (hc n hn (by omega))).2).1
    have ho := ord_last (L := l.take (n + 1)) (n := n) hlen l[n + 1].p
    rw [List.getElem_take, lessB_yes hp2 hp] at ho
    rw [ho]
    by_cases he : l[n].p = l[n + 1].p
    · rw [if_pos he, code_same h1 hf (by rw [beforeL_pos hi]; simp [he])]
      rfl
    · rw [if_neg he]
      have hs : (beforeL l (n + 1)).any (fun x => x.p = l[n + 1].p) = false := by rw [beforeL_pos hi]; simp [he]
      rcases Bool.eq_false_or_eq_true (lessP (cutAt 47 l[n].p.data.toList) (cutAt 47 l[n + 1].p.data.toList)) with hl | hl
      · rw [code_up h1 hf hs (by rw [beforeL_pos hi]; simp [hl]), if_pos hl, if_neg (by decide), par_up hp]
      · rw [code_order h1 hf hs (by rw [beforeL_pos hi]; simp [hl])]
        simp [hl]

set_option maxHeartbeats 800000 in
theorem faultBehind_any (v : Value) (L : List R) (r : R) (w : World) (h : RecSl w v L) (hl : L.length ≤ 1048576) (hq : r.p.size ≤ maxLen) (hr : ∀ x ∈ L, x.p.size ≤ maxLen) (ht : Tab w) :
    Calls Tryz.prog 129 #[v, .agg #[.int .i64 r.k, .string r.p, .string r.b, .int .i64 r.m, .bool r.o]] w fun e w' => e = .returned (.int .i64 (behC L r)) ∧ Below w.heap.size w w' := by
  have hb0 : Below w.heap.size w (w.alloc (.cells #[.int .i64 r.k, .string r.p, .string r.b, .int .i64 r.m, .bool r.o] 53)) := (Below.refl _ _).alloc (Nat.le_refl _) _
  have hsl := h.below hb0
  have ht0 := ht.below hb0 (Nat.le_refl _)
  obtain ⟨A, cap, rfl, hcap, _⟩ := h
  by_cases h16 : 16 ≤ L.length
  · have HE : Hid (behC L r = 6) := if_pos h16
    have hd : decide ((16 : Int) ≤ (L.length : Int)) = true := by simp; omega
    go_enter Tryz.func129, Tryz.ntmps129
    go_wp2_with fail
    go_ret
    exact ⟨ret_int HE.out.symm, hb0⟩
  have hd : decide ((16 : Int) ≤ (L.length : Int)) = false := by simp; omega
  have HB : Hid (behC L r = if r.fault ≠ 0 then r.fault else if ordC L r.p ≠ 0 then ordC L r.p else parC L r.p) := if_neg h16
  clear h16
  go_enter Tryz.func129, Tryz.ntmps129
  go_wp2_with fail
  refine (recordFault_impl _ _ _ _ _ _ hq ht0).mono ?_
  rintro e w1 ⟨rfl, hb1⟩
  have hb01 := hb0.trans (hb1.mono hb0.size)
  obtain ⟨hc1, hf1⟩ := bcell hb1
  have hz1 : w.heap.size < w1.heap.size := by have := hb1.size; simp at this; omega
  by_cases hf : r.fault = 0
  case neg =>
    have HE : Hid (behC L r = faultI r.k r.p.data.toList r.b.size r.m r.o) := by show _ = _; rw [HB.out, if_pos hf]; rfl
    have hd1 : (faultI r.k r.p.data.toList r.b.size r.m r.o != 0) = true := by have h := hf; unfold R.fault at h; simpa using h
    clear hf
    go_wp2_with fail
    go_ret
    exact ⟨ret_int HE.out.symm, hb01⟩
  have HC : Hid (behC L r = if ordC L r.p ≠ 0 then ordC L r.p else parC L r.p) := by show _ = _; rw [HB.out, if_neg (by simpa using hf)]
  have hd1 : (faultI r.k r.p.data.toList r.b.size r.m r.o != 0) = false := by have h := hf; unfold R.fault at h; simpa using h
  clear hf
  go_wp2_with fail
  refine (orderFault_any _ L _ _ (hsl.below hb1) hl hq hr).mono ?_
  rintro e w2 ⟨rfl, hb2⟩
  have hb02 := hb01.trans (hb2.mono hb01.size)
  obtain ⟨hc2, hf2⟩ := bcell hb2
  have hz2 : w.heap.size < w2.heap.size := by have := hb2.size; omega
  by_cases ho : ordC L r.p = 0
  case neg =>
    have HE : Hid (behC L r = ordC L r.p) := by show _ = _; rw [HC.out, if_pos ho]
    have hd2 : (ordC L r.p != 0) = true := by simpa using ho
    clear ho
    go_wp2_with fail
    go_ret
    exact ⟨ret_int HE.out.symm, hb02⟩
  have HE : Hid (behC L r = parC L r.p) := by show _ = _; rw [HC.out, if_neg (by simpa using ho)]
  have hd2 : (ordC L r.p != 0) = false := by simpa using ho
  clear ho
  go_wp2_with fail
  refine (parentFault_any _ L _ _ ((hsl.below hb1).below hb2) hl hq).mono ?_
  rintro e w3 ⟨rfl, hb3⟩
  go_wp2_with fail
  go_ret
  exact ⟨ret_int HE.out.symm, hb02.trans (hb3.mono hb02.size)⟩
end Go.Proofs.YtciflchaepchiabGreatDoor.Recs

/- Layers: the error of a list, the code of errors. Conditions: the table of kinds, the sentinels (as each states). -/
namespace Go.Proofs.YtciflchaepchiabGreatDoor.Recs
set_option maxRecDepth 100000
open Go.RowKit Paths Errs

/-- What checkLayer answers; x: where the sentinel of long arguments lies. -/
def checkV (l : List R) (x : Addr) : Value := if 4096 < l.length then errV x else if (layerFaultL l).2 ≠ 0 then recV (layerFaultL l).1 (layerFaultL l).2 else .nilIface
theorem check_long {l : List R} {x : Addr} (h : 4096 < l.length) : checkV l x = errV x := if_pos h
theorem check_bad {l : List R} {x : Addr} {i c : Int} (h : ¬ 4096 < l.length) (hf : layerFaultL l = (i, c)) (hc : c ≠ 0) : checkV l x = recV i c := by
  unfold checkV; rw [if_neg h, hf, if_pos hc]
theorem check_ok {l : List R} {x : Addr} (h : ¬ 4096 < l.length) (hf : layerFaultL l = (0, 0)) : checkV l x = .nilIface := by
  unfold checkV; rw [if_neg h, hf, if_neg (by simp)]
theorem ret_eq {a b : Value} (h : a = b) : Ending.returned a = .returned b := by rw [h]

set_option maxHeartbeats 800000 in
theorem checkLayer_any (v : Value) (l : List R) (x : Addr) (w : World) (h : RecSl w v l) (hl : l.length ≤ 1048576) (hr : ∀ r ∈ l, r.p.size ≤ maxLen) (ht : Tab w) (hx : w.cell? ⟨0, 0, none⟩ = some (errV x)) :
    Calls Tryz.prog 83 #[v] w fun e w' => e = .returned (checkV l x) ∧ Below w.heap.size w w' := by
  have hsl := h
  obtain ⟨A, cap, rfl, hcap, h⟩ := h
  by_cases h4 : 4096 < l.length
  · have HE := Lib.hid (check_long (x := x) h4)
    have hd : decide ((4096 : Int) < (l.length : Int)) = true := by simp; omega
    unfold errV at hx HE
    go_enter Tryz.func83, Tryz.ntmps83
    go_wp2_with fail
    go_ret
    exact ⟨ret_eq HE.out.symm, Below.refl _ _⟩
  have hd : decide ((4096 : Int) < (l.length : Int)) = false := by simp; omega
  have HSl := Lib.hid hsl
  have H := Lib.hid h
  have HT := Lib.hid ht
  have H4 := Lib.hid h4
  clear h hsl ht hx h4
  go_enter Tryz.func83, Tryz.ntmps83
  go_wp2
  go_loopw [12] (fun i wr => ∃ k : Nat, k ≤ l.length ∧ i = .int .i64 k ∧ Hid (layerFaultL l = faultFrom l k) ∧ Hid (∀ j (h : j < l.length), j < k → codeAt l j l[j] = 0) ∧ Below w.heap.size w wr) (fun i _ => l.length - (intOf i).toNat)
  case atStart => exact ⟨0, by omega, rfl, rfl, fun j h hj => by omega, Below.refl _ _⟩
  case round =>
    obtain ⟨k, hk, rfl, HK, HC, hbw⟩ := hrel
    by_cases hlt : k < l.length
    · obtain ⟨b, off, rfl, hb, hcell⟩ := H.out (by omega)
      obtain ⟨c0, c1, c2, c3, c4⟩ := (hcell k l[k] (by simp [hlt])).below hbw hb
      have hi1 : (k : Int) < (l.length : Int) := by omega
      have hi0 : (0 : Int) ≤ (k : Int) := by omega
      clear hcell
      go_wp2_with fail
      have a0 : (wr.alloc (.cells #[.int .i64 l[k].k, .string l[k].p, .string l[k].b, .int .i64 l[k].m, .bool l[k].o] 53)).cell? ⟨wr.heap.size, 0, none⟩ = some (.int .i64 l[k].k) := by go_simp
      have a1 : (wr.alloc (.cells #[.int .i64 l[k].k, .string l[k].p, .string l[k].b, .int .i64 l[k].m, .bool l[k].o] 53)).cell? ⟨wr.heap.size, 1, none⟩ = some (.string l[k].p) := by go_simp
      have a2 : (wr.alloc (.cells #[.int .i64 l[k].k, .string l[k].p, .string l[k].b, .int .i64 l[k].m, .bool l[k].o] 53)).cell? ⟨wr.heap.size, 2, none⟩ = some (.string l[k].b) := by go_simp
      have a3 : (wr.alloc (.cells #[.int .i64 l[k].k, .string l[k].p, .string l[k].b, .int .i64 l[k].m, .bool l[k].o] 53)).cell? ⟨wr.heap.size, 3, none⟩ = some (.int .i64 l[k].m) := by go_simp
      have a4 : (wr.alloc (.cells #[.int .i64 l[k].k, .string l[k].p, .string l[k].b, .int .i64 l[k].m, .bool l[k].o] 53)).cell? ⟨wr.heap.size, 4, none⟩ = some (.bool l[k].o) := by go_simp
      have hbA : Below w.heap.size w (wr.alloc (.cells #[.int .i64 l[k].k, .string l[k].p, .string l[k].b, .int .i64 l[k].m, .bool l[k].o] 53)) := hbw.alloc hbw.size _
      generalize wr.alloc (.cells #[.int .i64 l[k].k, .string l[k].p, .string l[k].b, .int .i64 l[k].m, .bool l[k].o] 53) = W at *
      have hi2 : (k : Int) ≤ (cap : Int) := by omega
      have hi3 : k ≤ cap := by omega
      have hi4 : ¬ ((k : Int) < 0) := by omega
      have hi5 : ¬ ((cap : Int) < (k : Int)) := by omega
      go_still_tail 4, (by kernel_rfl)
      change wpList _ _ _ _ _ W.drew
      have hbA' : Below w.heap.size w W.drew := hbA.drew
      clear hbA c0 c1 c2 c3 c4
      generalize W.drew = W2 at *
      have hslr := (HSl.out.below hbA').take (k := k) (by omega)
      have hq := hr l[k] (List.getElem_mem hlt)
      have htr := HT.out.below hbA' (Nat.le_refl _)
      go_wp2_with fail
      refine (faultBehind_any _ (l.take k) l[k] _ (by exact hslr) (by rw [List.length_take]; omega) hq (fun r hm => hr r (List.mem_of_mem_take hm)) htr).mono ?_
      rintro e w1 ⟨rfl, hb1⟩
      rw [beh_code hlt HC.out]
      have hbw1 := hbA'.trans (hb1.mono hbA'.size)
      by_cases hc : codeAt l k l[k] = 0
      · have HF := Lib.hid (HK.out.trans (faultFrom_good hlt hc))
        have HA := all_next HC.out hlt hc
        rw [hc]
        go_wp2_with fail
        exact ⟨⟨k + 1, by omega, by go_num, HF, HA, hbw1⟩, by simp [intOf]; omega⟩
      · have HE := Lib.hid (check_bad (x := x) H4.out (HK.out.trans (faultFrom_bad hlt hc)) hc)
        have hd2 : (codeAt l k l[k] != 0) = true := by simpa using hc
        unfold recV at HE
        clear hc
        go_wp2_with fail
        go_ret
        exact ⟨ret_eq HE.out.symm, hbw1⟩
    · obtain rfl : k = l.length := by omega
      have HE := Lib.hid (check_ok (x := x) H4.out (HK.out.trans (faultFrom_end (Nat.le_refl _))))
      go_wp2
      go_ret
      exact ⟨ret_eq HE.out.symm, hbw⟩

end Go.Proofs.YtciflchaepchiabGreatDoor.Recs

/- Layers: LayerFault and LayerOK of the model. -/
namespace Go.Proofs.YtciflchaepchiabGreatDoor.Recs
set_option maxRecDepth 100000
open Go.RowKit Paths

theorem l03OK_any (v : Value) (l : List R) (w : World) (h : RecSl w v l) (hl : l.length ≤ 1048576) :
    Calls Tryz.prog 63 #[v] w fun e w' => e = .returned (.bool (layerOK l)) ∧ Below w.heap.size w w' := by
  have HC := l03Fault_any v l w h hl
  obtain ⟨A, cap, rfl, hcap, _⟩ := h
  go_enter Tryz.func63, Tryz.ntmps63
  go_wp2_with fail
  refine HC.mono ?_
  rintro e w1 ⟨rfl, hb1⟩
  go_wp2_with fail
  go_ret
  exact ⟨rfl, hb1⟩

end Go.Proofs.YtciflchaepchiabGreatDoor.Recs

/- Layers: comparison of two lists of records, of the program and of its model. -/
namespace Go.Proofs.YtciflchaepchiabGreatDoor.Recs
set_option maxRecDepth 100000
open Go.RowKit Paths

instance decR : DecidableEq R := fun x y =>
  if h : x.k = y.k ∧ x.m = y.m ∧ x.p = y.p ∧ x.b = y.b ∧ x.o = y.o then isTrue (by cases x; cases y; simp_all) else isFalse (fun e => h (by subst e; simp))
/-- Two records are alike, or one field is the first that is not. -/
theorem five (x y : R) : (x.k == y.k) = false ∨ ((x.k == y.k) = true ∧ (x.p.toList == y.p.toList) = false) ∨ ((x.k == y.k) = true ∧ (x.p.toList == y.p.toList) = true ∧ (x.b.toList == y.b.toList) = false) ∨
    ((x.k == y.k) = true ∧ (x.p.toList == y.p.toList) = true ∧ (x.b.toList == y.b.toList) = true ∧ (x.m == y.m) = false) ∨ ((x.k == y.k) = true ∧ (x.p.toList == y.p.toList) = true ∧ (x.b.toList == y.b.toList) = true ∧ (x.m == y.m) = true ∧ (x.o == y.o) = false) ∨
    ((x.k == y.k) = true ∧ (x.p.toList == y.p.toList) = true ∧ (x.b.toList == y.b.toList) = true ∧ (x.m == y.m) = true ∧ (x.o == y.o) = true) := by
  cases (x.k == y.k) <;> cases (x.p.toList == y.p.toList) <;> cases (x.b.toList == y.b.toList) <;> cases (x.m == y.m) <;> cases (x.o == y.o) <;> simp
theorem rec_eq {x y : R} (h0 : (x.k == y.k) = true) (h1 : (x.p.toList == y.p.toList) = true) (h2 : (x.b.toList == y.b.toList) = true) (h3 : (x.m == y.m) = true) (h4 : (x.o == y.o) = true) : x = y := by
  have e0 := eq_of_beq h0
  have e1 := str_eq_of h1
  have e2 := str_eq_of h2
  have e3 := eq_of_beq h3
  have e4 := eq_of_beq h4
  cases x; cases y
  simp only at e0 e1 e2 e3 e4
  subst e0 e1 e2 e3 e4
  rfl
end Go.Proofs.YtciflchaepchiabGreatDoor.Recs

/- Differences of trees, plain: the changes between two lists in the order of paths. -/
namespace Go.Proofs.YtciflchaepchiabGreatDoor.Recs
set_option maxRecDepth 100000
open Go.RowKit Paths

/-- A path, and what two lists have there; zR stands for none. -/
abbrev Chg := ByteArray × R × R
def chgs : List R → List R → List Chg
  | [], [] => []
  | x :: a, [] => (x.p, x, zR) :: chgs a []
  | [], y :: b => (y.p, zR, y) :: chgs [] b
  | x :: a, y :: b =>
    if lessR x y then (x.p, x, zR) :: chgs a (y :: b)
    else if x.p = y.p then (if x = y then chgs a b else (y.p, x, y) :: chgs a b)
    else (y.p, zR, y) :: chgs (x :: a) b
termination_by a b => a.length + b.length
theorem chg_nil : chgs [] [] = [] := by rw [chgs]
theorem chg_left (x : R) (a : List R) : chgs (x :: a) [] = (x.p, x, zR) :: chgs a [] := by rw [chgs]
theorem chg_right (y : R) (b : List R) : chgs [] (y :: b) = (y.p, zR, y) :: chgs [] b := by rw [chgs]
theorem chg_less {x y : R} (h : lessR x y = true) (a b : List R) : chgs (x :: a) (y :: b) = (x.p, x, zR) :: chgs a (y :: b) := by rw [chgs, if_pos h]
theorem chg_same {x y : R} (h : x = y) (a b : List R) : chgs (x :: a) (y :: b) = chgs a b := by
  subst h
  rw [chgs, if_neg (by unfold lessR; rw [lessP_irrefl]; decide), if_pos rfl, if_pos rfl]
theorem chg_both {x y : R} (hp : x.p = y.p) (h : x ≠ y) (a b : List R) : chgs (x :: a) (y :: b) = (y.p, x, y) :: chgs a b := by
  rw [chgs, if_neg (by unfold lessR; rw [hp, lessP_irrefl]; decide), if_pos hp, if_neg h]
theorem chg_more {x y : R} (hl : lessR x y = false) (hp : x.p ≠ y.p) (a b : List R) : chgs (x :: a) (y :: b) = (y.p, zR, y) :: chgs (x :: a) b := by
  rw [chgs, if_neg (by rw [hl]; decide), if_neg hp]

/-- What two lists have at a path, and that it is not the same. -/
def Differs (A B : List R) (c : Chg) : Prop := recAt A c.1 ≠ recAt B c.1 ∧ c.2 = ((recAt A c.1).getD zR, (recAt B c.1).getD zR)
theorem recAt_front {x : R} {a : List R} (h : ∀ w ∈ a, lessR x w = true) : recAt a x.p = none := recAt_less h
theorem differs_skip {x : R} {A B a : List R} {c : Chg} (hc : c.1 ≠ x.p) (he : ∀ q, q ≠ x.p → recAt A q = recAt a q) : Differs A B c ↔ Differs a B c := by unfold Differs; rw [he _ hc]
theorem cons_at {x : R} (a : List R) {q : ByteArray} (h : q ≠ x.p) : recAt (x :: a) q = recAt a q := recAt_cons_ne (fun e => h e.symm)
theorem cons_here (x : R) (a : List R) : recAt (x :: a) x.p = some x := recAt_cons_eq rfl
theorem less_no {x y : R} {b : List R} (hb : ∀ w ∈ b, lessR y w = true) (h : lessR x y = true) : ∀ w ∈ y :: b, lessR x w = true := fun w hw => by
  rcases List.mem_cons.1 hw with rfl | hw
  · exact h
  · exact lessR_trans h (hb w hw)
theorem less_flip {x y : R} (hl : lessR x y = false) (hp : x.p ≠ y.p) : lessR y x = true := by
  rcases less_or hp with h | h
  · rw [hl] at h; cases h
  · exact h

theorem chg_mem : ∀ A B : List R, Sorted A → Sorted B → ∀ c, c ∈ chgs A B ↔ Differs A B c
  | [], [], _, _, c => by rw [chg_nil]; unfold Differs; simp [recAt]
  | x :: a, [], ha, _, c => by
    obtain ⟨ha1, ha2⟩ := List.pairwise_cons.1 ha
    rw [chg_left, List.mem_cons, chg_mem a [] ha2 List.Pairwise.nil c]
    by_cases hc : c.1 = x.p
    · have e1 : recAt a c.1 = none := by rw [hc]; exact recAt_front ha1
      have e2 : recAt (x :: a) c.1 = some x := by rw [hc]; exact cons_here x a
      unfold Differs
      rw [e1, e2]
      simp only [recAt, List.find?_nil, ne_eq, not_true_eq_false, false_and, or_false, reduceCtorEq, not_false_eq_true, true_and, Option.getD_some, Option.getD_none]
      exact ⟨fun e => by rw [e], fun e => Prod.ext hc e⟩
    · rw [differs_skip hc (fun q hq => cons_at a hq)]
      exact ⟨fun e => e.elim (fun e => absurd (by rw [e]) hc) id, .inr⟩
  | [], y :: b, _, hb, c => by
    obtain ⟨hb1, hb2⟩ := List.pairwise_cons.1 hb
    rw [chg_right, List.mem_cons, chg_mem [] b List.Pairwise.nil hb2 c]
    by_cases hc : c.1 = y.p
    · have e1 : recAt b c.1 = none := by rw [hc]; exact recAt_front hb1
      have e2 : recAt (y :: b) c.1 = some y := by rw [hc]; exact cons_here y b
      unfold Differs
      rw [e1, e2]
      simp only [recAt, List.find?_nil, ne_eq, not_true_eq_false, false_and, or_false, reduceCtorEq, not_false_eq_true, true_and, Option.getD_some, Option.getD_none]
      exact ⟨fun e => by rw [e], fun e => Prod.ext hc e⟩
    · have : Differs [] (y :: b) c ↔ Differs [] b c := by unfold Differs; rw [cons_at b hc]
      rw [this]
      exact ⟨fun e => e.elim (fun e => absurd (by rw [e]) hc) id, .inr⟩
  | x :: a, y :: b, ha, hb, c => by
    obtain ⟨ha1, ha2⟩ := List.pairwise_cons.1 ha
    obtain ⟨hb1, hb2⟩ := List.pairwise_cons.1 hb
    rcases Bool.eq_false_or_eq_true (lessR x y) with hl | hl
    · rw [chg_less hl, List.mem_cons, chg_mem a (y :: b) ha2 hb c]
      by_cases hc : c.1 = x.p
      · have e1 : recAt a c.1 = none := by rw [hc]; exact recAt_front ha1
        have e2 : recAt (x :: a) c.1 = some x := by rw [hc]; exact cons_here x a
        have e3 : recAt (y :: b) c.1 = none := by rw [hc]; exact recAt_front (less_no hb1 hl)
        unfold Differs
        rw [e1, e2, e3]
        simp only [ne_eq, not_true_eq_false, false_and, or_false, reduceCtorEq, not_false_eq_true, true_and, Option.getD_some, Option.getD_none]
        exact ⟨fun e => by rw [e], fun e => Prod.ext hc e⟩
      · rw [differs_skip hc (fun q hq => cons_at a hq)]
        exact ⟨fun e => e.elim (fun e => absurd (by rw [e]) hc) id, .inr⟩
    · by_cases hp : x.p = y.p
      · have hsk : c.1 ≠ y.p → (Differs (x :: a) (y :: b) c ↔ Differs a b c) := fun hc => by
          unfold Differs
          rw [cons_at b hc, cons_at a (by rw [hp]; exact hc)]
        have h1 : c.1 = y.p → recAt a c.1 = none ∧ recAt b c.1 = none ∧ recAt (x :: a) c.1 = some x ∧ recAt (y :: b) c.1 = some y := fun hc => by
          rw [hc]
          refine ⟨?_, recAt_front hb1, ?_, cons_here y b⟩
          · rw [← hp]; exact recAt_front ha1
          · rw [← hp]; exact cons_here x a
        by_cases he : x = y
        · rw [chg_same he, chg_mem a b ha2 hb2 c]
          by_cases hc : c.1 = y.p
          · obtain ⟨e1, e2, e3, e4⟩ := h1 hc
            unfold Differs
            rw [e1, e2, e3, e4, he]
            simp
          · exact (hsk hc).symm
        · rw [chg_both hp he, List.mem_cons, chg_mem a b ha2 hb2 c]
          by_cases hc : c.1 = y.p
          · obtain ⟨e1, e2, e3, e4⟩ := h1 hc
            unfold Differs
            rw [e1, e2, e3, e4]
            have : (some x ≠ some y) := fun e => he (Option.some.inj e)
            simp only [ne_eq, not_true_eq_false, false_and, or_false, Option.getD_some, Option.getD_none]
            exact ⟨fun e => ⟨this, by rw [e]⟩, fun e => Prod.ext hc e.2⟩
          · rw [hsk hc]
            exact ⟨fun e => e.elim (fun e => absurd (by rw [e]) hc) id, .inr⟩
      · have hl2 := less_flip hl hp
        rw [chg_more hl hp, List.mem_cons, chg_mem (x :: a) b ha hb2 c]
        by_cases hc : c.1 = y.p
        · have e1 : recAt b c.1 = none := by rw [hc]; exact recAt_front hb1
          have e2 : recAt (y :: b) c.1 = some y := by rw [hc]; exact cons_here y b
          have e3 : recAt (x :: a) c.1 = none := by rw [hc]; exact recAt_front (less_no ha1 hl2)
          unfold Differs
          rw [e1, e2, e3]
          simp only [ne_eq, not_true_eq_false, false_and, or_false, reduceCtorEq, not_false_eq_true, true_and, Option.getD_some, Option.getD_none]
          exact ⟨fun e => by rw [e], fun e => Prod.ext hc e⟩
        · have : Differs (x :: a) (y :: b) c ↔ Differs (x :: a) b c := by unfold Differs; rw [cons_at b hc]
          rw [this]
          exact ⟨fun e => e.elim (fun e => absurd (by rw [e]) hc) id, .inr⟩
termination_by a b => a.length + b.length

theorem differs_path {A B : List R} {c : Chg} (h : Differs A B c) : (∃ x ∈ A, x.p = c.1) ∨ ∃ y ∈ B, y.p = c.1 := by
  obtain ⟨h1, _⟩ := h
  cases ha : recAt A c.1 with
  | some x => exact .inl ⟨x, recAt_mem ha⟩
  | none =>
    cases hb : recAt B c.1 with
    | some y => exact .inr ⟨y, recAt_mem hb⟩
    | none => rw [ha, hb] at h1; exact absurd rfl h1
/-- All changes of lists that lie behind a path lie behind it. -/
theorem chg_after {A B : List R} (ha : Sorted A) (hb : Sorted B) {q : ByteArray} (h1 : ∀ x ∈ A, lessQ q x.p = true) (h2 : ∀ y ∈ B, lessQ q y.p = true) : ∀ c ∈ chgs A B, lessQ q c.1 = true := fun c hc => by
  rcases differs_path ((chg_mem A B ha hb c).1 hc) with ⟨x, hx, e⟩ | ⟨x, hx, e⟩
  · rw [← e]; exact h1 x hx
  · rw [← e]; exact h2 x hx
theorem chg_sorted : ∀ A B : List R, Sorted A → Sorted B → (chgs A B).Pairwise fun c d => lessQ c.1 d.1 = true
  | [], [], _, _ => by rw [chg_nil]; exact List.Pairwise.nil
  | x :: a, [], ha, hb => by
    obtain ⟨ha1, ha2⟩ := List.pairwise_cons.1 ha
    rw [chg_left]
    exact List.pairwise_cons.2 ⟨chg_after ha2 hb ha1 (fun y hy => by cases hy), chg_sorted a [] ha2 hb⟩
  | [], y :: b, ha, hb => by
    obtain ⟨hb1, hb2⟩ := List.pairwise_cons.1 hb
    rw [chg_right]
    exact List.pairwise_cons.2 ⟨chg_after ha hb2 (fun y hy => by cases hy) hb1, chg_sorted [] b ha hb2⟩
  | x :: a, y :: b, ha, hb => by
    obtain ⟨ha1, ha2⟩ := List.pairwise_cons.1 ha
    obtain ⟨hb1, hb2⟩ := List.pairwise_cons.1 hb
    rcases Bool.eq_false_or_eq_true (lessR x y) with hl | hl
    · rw [chg_less hl]
      exact List.pairwise_cons.2 ⟨chg_after ha2 hb ha1 (less_no hb1 hl), chg_sorted a (y :: b) ha2 hb⟩
    · by_cases hp : x.p = y.p
      · by_cases he : x = y
        · rw [chg_same he]; exact chg_sorted a b ha2 hb2
        · rw [chg_both hp he]
          exact List.pairwise_cons.2 ⟨chg_after ha2 hb2 (fun w hw => by show lessQ y.p w.p = true; rw [← hp]; exact ha1 w hw) hb1, chg_sorted a b ha2 hb2⟩
      · have hl2 := less_flip hl hp
        rw [chg_more hl hp]
        exact List.pairwise_cons.2 ⟨chg_after ha hb2 (less_no ha1 hl2) hb1, chg_sorted (x :: a) b ha hb2⟩
termination_by a b => a.length + b.length
theorem chg_len : ∀ A B : List R, (chgs A B).length ≤ A.length + B.length
  | [], [] => by rw [chg_nil]; simp
  | x :: a, [] => by rw [chg_left]; have := chg_len a []; simp at this ⊢; omega
  | [], y :: b => by rw [chg_right]; have := chg_len [] b; simp at this ⊢; omega
  | x :: a, y :: b => by
    rw [chgs]
    have h1 := chg_len a (y :: b)
    have h2 := chg_len (x :: a) b
    have h3 := chg_len a b
    simp only [List.length_cons] at h1 h2 h3 ⊢
    split
    · simp only [List.length_cons]; omega
    · split
      · split
        · omega
        · simp only [List.length_cons]; omega
      · simp only [List.length_cons]; omega
termination_by a b => a.length + b.length
end Go.Proofs.YtciflchaepchiabGreatDoor.Recs
