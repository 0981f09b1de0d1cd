/- Parts of several texts of mine in one file (each begins with its own remark). -/
import Derived.Test.YtciflchaepchiaaDoorDA1
import Derived.Test.YtciflchaepchiaaDoorDA2
import Derived.Test.YtciflchaepchiaaDoorDA3
import Derived.Test.YtciflchaepchiaaDoorDA4
import Derived.Test.YtciflchaepchiaaDoorDB1
import Derived.Test.YtciflchaepchiaaDoorDD1
import Derived.Test.YtciflchaepchiaaDoorDD2
import Derived.Test.YtciflchaepchiaaDoorDD3
import Derived.Test.YtciflchaepchiaaDoorChecked
import Derived.Test.YtciflchaepchiaaDoorShelf
import Derived.Test.YtciflchaepchiaaDoorProg
import Derived.Test.YtciflchaepchiaaDoorRows
import Derived.Stop.LaidErr
import Derived.StillTailTactics
import Derived.Laws.OwnMore
import Derived.BigQuiet
import Derived.BigRegion
import Derived.Deep.QuietTactic
import Derived.Deep.RegionHeld3
import Derived.Deep.Slices
import Derived.OpenShut
import Derived.ShutString
import Derived.ChangeArms
import Derived.WideShapes
import Derived.Lib.LaidTab
import Derived.Deep.Draws
import Derived.Deep.LoopGhost
import Derived.WalkKit
import Derived.WalkSpells
import Derived.WalkSmall
import Derived.Lib.OthersKept
import Derived.Lib.Hide
import Derived.Lib.Strings
import Derived.Lib.Join
import Derived.Laws.BytesArg
import Derived.WalkLawsBesides
import Derived.LaidEql
import Derived.Stop.Asserts
import Derived.Below
import Derived.Stop.LaidTwo
import Derived.ChangeVars
import Derived.Deep.DeepHandedRow
import Derived.Lib.ConvBytes
import Derived.Shelf.Strings.Builder1
/- Layers: the program's check of one: the code of a record behind others, the error of a list. Conditions: the table of kinds, the sentinel (as each states). -/
namespace Go.Proofs.YtciflchaepchiaaDoor.Recs
set_option maxRecDepth 100000
open Go.RowKit Paths Errs

def ordC (L : List R) (q : ByteArray) : Int := match L.getLast? with | none => 0 | some x => if x.p = q then 18 else if lessB x.p q then 0 else 11
theorem ord_nil (q : ByteArray) : ordC [] q = 0 := rfl
theorem ord_last {L : List R} {n : Nat} (hn : L.length = n + 1) (q : ByteArray) : ordC L q = if (L[n]'(by omega)).p = q then 18 else if lessB (L[n]'(by omega)).p q then 0 else 11 := by
  have e : L[L.length - 1]? = some (L[n]'(by omega)) := by
    have h1 : L.length - 1 = n := by omega
    rw [h1, List.getElem?_eq_getElem]
  unfold ordC
  rw [List.getLast?_eq_getElem?, e]

set_option maxHeartbeats 800000 in
theorem orderFault_any (v : Value) (L : List R) (q : ByteArray) (w : World) (h : RecSl w v L) (hl : L.length ≤ 1048576) (hq : q.size ≤ maxLen) (hr : ∀ r ∈ L, r.p.size ≤ maxLen) :
    Calls Tryd.prog 69 #[v, .string q] w fun e w' => e = .returned (.int .i64 (ordC L q)) ∧ Below w.heap.size w w' := by
  obtain ⟨A, cap, rfl, hcap, h⟩ := h
  by_cases h0 : L.length = 0
  · have HE : Hid (ordC L q = 0) := by rw [List.eq_nil_of_length_eq_zero h0]; rfl
    rw [h0]
    go_enter Tryd.func69, Tryd.ntmps69
    go_wp2_with fail
    go_ret
    exact ⟨ret_int HE.out.symm, Below.refl _ _⟩
  · obtain ⟨n, hn⟩ : ∃ n, L.length = n + 1 := ⟨L.length - 1, by omega⟩
    have HO := Lib.hid (ord_last hn q)
    obtain ⟨b, off, rfl, hb, hcell⟩ := h (by omega)
    obtain ⟨_, c1, _⟩ := hcell n (L[n]'(by omega)) (by simp)
    have hs := hr (L[n]'(by omega)) (List.getElem_mem _)
    clear h hcell hr
    generalize L[n]'(by omega) = x at *
    rw [hn] at hl hcap ⊢
    have i1 : (n : Int) < (n : Int) + 1 := by omega
    have i0 : (0 : Int) ≤ (n : Int) := by omega
    have hd0 : ((n : Int) + 1 == 0) = false := by simp; omega
    clear hn h0
    rcases Bool.eq_false_or_eq_true (q.toList == x.p.toList) with he | he
    · have HE : Hid (ordC L q = 18) := by show _ = _; rw [HO.out, if_pos (str_eq_of he).symm]
      go_enter Tryd.func69, Tryd.ntmps69
      go_wp2_with fail
      go_ret
      exact ⟨ret_int HE.out.symm, Below.refl _ _⟩
    · have hne : ¬ x.p = q := fun e => by rw [e] at he; simp at he
      have HE : Hid (ordC L q = if lessB x.p q then 0 else 11) := by show _ = _; rw [HO.out, if_neg hne]
      clear hne
      rcases Bool.eq_false_or_eq_true (lessB x.p q) with hb2 | hb2
      · have HF : Hid (ordC L q = 0) := by show _ = _; rw [HE.out, if_pos hb2]
        go_enter Tryd.func69, Tryd.ntmps69
        go_wp2_with (go_at_call 78; refine (pathLess_impl _ _ _ hs hq).mono ?_; rintro e w1 ⟨rfl, hb1⟩)
        go_ret
        exact ⟨ret_int HF.out.symm, hb1⟩
      · have HF : Hid (ordC L q = 11) := by show _ = _; rw [HE.out, if_neg (by rw [hb2]; decide)]
        go_enter Tryd.func69, Tryd.ntmps69
        go_wp2_with (go_at_call 78; refine (pathLess_impl _ _ _ hs hq).mono ?_; rintro e w1 ⟨rfl, hb1⟩)
        go_ret
        exact ⟨ret_int HF.out.symm, hb1⟩

def parC (L : List R) (q : ByteArray) : Int :=
  if parS q = [] then 0 else if atL L ⟨(parS q).toArray⟩ < 0 then 12 else if (L[(atL L ⟨(parS q).toArray⟩).toNat]?).any (fun x => x.k ≠ 3) then 13 else 0

set_option maxHeartbeats 800000 in
theorem parentFault_any (v : Value) (L : List R) (q : ByteArray) (w : World) (h : RecSl w v L) (hl : L.length ≤ 1048576) (hq : q.size ≤ maxLen) :
    Calls Tryd.prog 70 #[v, .string q] w fun e w' => e = .returned (.int .i64 (parC L q)) ∧ Below w.heap.size w w' := by
  have hsl := h
  obtain ⟨A, cap, rfl, hcap, h⟩ := h
  have H := Lib.hid h
  clear h
  by_cases h0 : parS q = []
  · have HE : Hid (parC L q = 0) := if_pos h0
    go_enter Tryd.func70, Tryd.ntmps70
    go_wp2_with fail
    refine (parentOf_impl _ _ hq).mono ?_
    rintro e w1 ⟨rfl, hb1⟩
    have hemp : (parS q).isEmpty = true := by rw [h0]; rfl
    unfold strV
    go_wp2_with fail
    go_ret
    exact ⟨ret_int HE.out.symm, hb1⟩
  · have HE : Hid (parC L q = if atL L ⟨(parS q).toArray⟩ < 0 then 12 else if (L[(atL L ⟨(parS q).toArray⟩).toNat]?).any (fun x => x.k ≠ 3) then 13 else 0) := if_neg h0
    have hemp : (parS q).isEmpty = false := by simpa using h0
    clear h0
    go_enter Tryd.func70, Tryd.ntmps70
    go_wp2_with fail
    refine (parentOf_impl _ _ hq).mono ?_
    rintro e w1 ⟨rfl, hb1⟩
    unfold strV
    go_wp2_with fail
    refine (indexOfPath_any _ L _ _ (hsl.below hb1) hl).mono ?_
    rintro e w2 ⟨rfl, hb2⟩
    have hbw := hb1.trans (hb2.mono hb1.size)
    rcases atL_cases L ⟨(parS q).toArray⟩ with ⟨ha, _⟩ | ⟨j, hj, ha, _⟩
    · have HF : Hid (parC L q = 12) := by show _ = _; rw [HE.out, if_pos (by rw [ha]; decide)]
      rw [ha]
      go_wp2_with fail
      go_ret
      exact ⟨ret_int HF.out.symm, hbw⟩
    · have HG : Hid (parC L q = if L[j].k ≠ 3 then 13 else 0) := by show _ = _; rw [HE.out, if_neg (by omega), ha, Int.toNat_natCast, List.getElem?_eq_getElem hj]; simp
      obtain ⟨b, off, rfl, hb, hcell⟩ := H.out (by omega)
      obtain ⟨f0, _⟩ := (hcell j L[j] (by simp [hj])).below hbw hb
      rw [ha]
      clear ha hcell
      have j1 : (0 : Int) ≤ (j : Int) := by omega
      have j2 : (j : Int) < (L.length : Int) := by omega
      have j3 : decide ((j : Int) < 0) = false := by simp
      by_cases h3 : L[j].k = 3
      · have HN : Hid (parC L q = 0) := by show _ = _; rw [HG.out, if_neg (by simpa using h3)]
        have j4 : (L[j].k != 3) = false := by simpa using h3
        clear h3
        go_wp2_with fail
        go_ret
        exact ⟨ret_int HN.out.symm, hbw⟩
      · have HN : Hid (parC L q = 13) := by show _ = _; rw [HG.out, if_pos h3]
        have j4 : (L[j].k != 3) = true := by simpa using h3
        clear h3
        go_wp2_with fail
        go_ret
        exact ⟨ret_int HN.out.symm, hbw⟩

def behC (L : List R) (r : R) : Int := if 16 ≤ L.length then 6 else if r.fault ≠ 0 then r.fault else if ordC L r.p ≠ 0 then ordC L r.p else parC L r.p

theorem par_up {l : List R} {i : Nat} {r : R} (hp : pathB r.p.data.toList = true) : parC (l.take i) r.p = codeUp l i r := by
  have e : parS r.p = parentL r.p.data.toList := by unfold parS; rw [hp]; rfl
  unfold parC codeUp
  rw [e]
  by_cases h0 : parentL r.p.data.toList = []
  · rw [if_pos h0, if_pos h0]
  · rw [if_neg h0, if_neg h0]
    show (if atL (l.take i) (parO r.p) < 0 then (12 : Int) else if ((l.take i)[(atL (l.take i) (parO r.p)).toNat]?).any (fun x => x.k ≠ 3) then 13 else 0) = _
    rcases atL_cases (l.take i) (parO r.p) with ⟨ha, _⟩ | ⟨j, hj, ha, _⟩
    · rw [ha, if_pos (by decide), if_pos (by decide)]
    · have hneg : ¬ ((j : Int) < 0) := by omega
      rw [ha, if_neg hneg, if_neg hneg, Int.toNat_natCast, List.getElem?_eq_getElem hj]
      rw [List.length_take] at hj
      rw [List.getElem?_eq_getElem (by omega : j < l.length), List.getElem_take]

theorem beh_code {l : List R} {i : Nat} (hi : i < l.length) (hc : ∀ j (h : j < l.length), j < i → codeAt l j l[j] = 0) : behC (l.take i) l[i] = codeAt l i l[i] := by
  have h16 : i ≤ 16 := by
    rcases Nat.lt_or_ge 16 i with h | h
    · exact absurd (hc 16 (by omega) h) (by rw [code_many]; decide)
    · exact h
  have hlen : (l.take i).length = i := by rw [List.length_take]; omega
  unfold behC
  rw [hlen]
  by_cases h1 : i = 16
  · subst h1
    rw [if_pos (by omega), code_many]
  rw [if_neg (by omega)]
  by_cases hf : l[i].fault = 0
  case neg => rw [if_pos hf, code_rec h1 hf]
  rw [if_neg (by simpa using hf)]
  have hp := (fault_path hf).1
  cases i with
  | zero =>
    rw [code_up h1 hf rfl rfl, if_neg (by simp [ord_nil]), par_up hp]
  | succ n =>
    have hn : n < l.length := by omega
    have hp2 := (fault_path (codeAt_zero (hc n hn (by omega))).2).1
    have ho := ord_last (L := l.take (n + 1)) (n := n) hlen l[n + 1].p
    rw [List.getElem_take, lessB_yes hp2 hp] at ho
    rw [ho]
    by_cases he : l[n].p = l[n + 1].p
    · rw [if_pos he, code_same h1 hf (by rw [beforeL_pos hi]; simp [he])]
      rfl
    · rw [if_neg he]
      have hs : (beforeL l (n + 1)).any (fun x => x.p = l[n + 1].p) = false := by rw [beforeL_pos hi]; simp [he]
      rcases Bool.eq_false_or_eq_true (lessP (cutAt 47 l[n].p.data.toList) (cutAt 47 l[n + 1].p.data.toList)) with hl | hl
      · rw [code_up h1 hf hs (by rw [beforeL_pos hi]; simp [hl]), if_pos hl, if_neg (by decide), par_up hp]
      · rw [code_order h1 hf hs (by rw [beforeL_pos hi]; simp [hl])]
        simp [hl]

set_option maxHeartbeats 800000 in
theorem faultBehind_any (v : Value) (L : List R) (r : R) (w : World) (h : RecSl w v L) (hl : L.length ≤ 1048576) (hq : r.p.size ≤ maxLen) (hr : ∀ x ∈ L, x.p.size ≤ maxLen) (ht : Tab w) :
    Calls Tryd.prog 53 #[v, .agg #[.int .i64 r.k, .string r.p, .string r.b, .int .i64 r.m, .bool r.o]] w fun e w' => e = .returned (.int .i64 (behC L r)) ∧ Below w.heap.size w w' := by
  have hb0 : Below w.heap.size w (w.alloc (.cells #[.int .i64 r.k, .string r.p, .string r.b, .int .i64 r.m, .bool r.o] 27)) := (Below.refl _ _).alloc (Nat.le_refl _) _
  have hsl := h.below hb0
  have ht0 := ht.below hb0 (Nat.le_refl _)
  obtain ⟨A, cap, rfl, hcap, _⟩ := h
  by_cases h16 : 16 ≤ L.length
  · have HE : Hid (behC L r = 6) := if_pos h16
    have hd : decide ((16 : Int) ≤ (L.length : Int)) = true := by simp; omega
    go_enter Tryd.func53, Tryd.ntmps53
    go_wp2_with fail
    go_ret
    exact ⟨ret_int HE.out.symm, hb0⟩
  have hd : decide ((16 : Int) ≤ (L.length : Int)) = false := by simp; omega
  have HB : Hid (behC L r = if r.fault ≠ 0 then r.fault else if ordC L r.p ≠ 0 then ordC L r.p else parC L r.p) := if_neg h16
  clear h16
  go_enter Tryd.func53, Tryd.ntmps53
  go_wp2_with fail
  refine (recordFault_impl _ _ _ _ _ _ hq ht0).mono ?_
  rintro e w1 ⟨rfl, hb1⟩
  have hb01 := hb0.trans (hb1.mono hb0.size)
  obtain ⟨hc1, hf1⟩ := bcell hb1
  have hz1 : w.heap.size < w1.heap.size := by have := hb1.size; simp at this; omega
  by_cases hf : r.fault = 0
  case neg =>
    have HE : Hid (behC L r = faultI r.k r.p.data.toList r.b.size r.m r.o) := by show _ = _; rw [HB.out, if_pos hf]; rfl
    have hd1 : (faultI r.k r.p.data.toList r.b.size r.m r.o != 0) = true := by have h := hf; unfold R.fault at h; simpa using h
    clear hf
    go_wp2_with fail
    go_ret
    exact ⟨ret_int HE.out.symm, hb01⟩
  have HC : Hid (behC L r = if ordC L r.p ≠ 0 then ordC L r.p else parC L r.p) := by show _ = _; rw [HB.out, if_neg (by simpa using hf)]
  have hd1 : (faultI r.k r.p.data.toList r.b.size r.m r.o != 0) = false := by have h := hf; unfold R.fault at h; simpa using h
  clear hf
  go_wp2_with fail
  refine (orderFault_any _ L _ _ (hsl.below hb1) hl hq hr).mono ?_
  rintro e w2 ⟨rfl, hb2⟩
  have hb02 := hb01.trans (hb2.mono hb01.size)
  obtain ⟨hc2, hf2⟩ := bcell hb2
  have hz2 : w.heap.size < w2.heap.size := by have := hb2.size; omega
  by_cases ho : ordC L r.p = 0
  case neg =>
    have HE : Hid (behC L r = ordC L r.p) := by show _ = _; rw [HC.out, if_pos ho]
    have hd2 : (ordC L r.p != 0) = true := by simpa using ho
    clear ho
    go_wp2_with fail
    go_ret
    exact ⟨ret_int HE.out.symm, hb02⟩
  have HE : Hid (behC L r = parC L r.p) := by show _ = _; rw [HC.out, if_neg (by simpa using ho)]
  have hd2 : (ordC L r.p != 0) = false := by simpa using ho
  clear ho
  go_wp2_with fail
  refine (parentFault_any _ L _ _ ((hsl.below hb1).below hb2) hl hq).mono ?_
  rintro e w3 ⟨rfl, hb3⟩
  go_wp2_with fail
  go_ret
  exact ⟨ret_int HE.out.symm, hb02.trans (hb3.mono hb02.size)⟩
end Go.Proofs.YtciflchaepchiaaDoor.Recs

/- Layers: the error of a list, the code of errors. Conditions: the table of kinds, the sentinels (as each states). -/
namespace Go.Proofs.YtciflchaepchiaaDoor.Recs
set_option maxRecDepth 100000
open Go.RowKit Paths Errs

/-- What checkLayer answers; x: where the sentinel of long arguments lies. -/
def checkV (l : List R) (x : Addr) : Value := if 4096 < l.length then errV x else if (layerFaultL l).2 ≠ 0 then recV (layerFaultL l).1 (layerFaultL l).2 else .nilIface
theorem check_long {l : List R} {x : Addr} (h : 4096 < l.length) : checkV l x = errV x := if_pos h
theorem check_bad {l : List R} {x : Addr} {i c : Int} (h : ¬ 4096 < l.length) (hf : layerFaultL l = (i, c)) (hc : c ≠ 0) : checkV l x = recV i c := by
  unfold checkV; rw [if_neg h, hf, if_pos hc]
theorem check_ok {l : List R} {x : Addr} (h : ¬ 4096 < l.length) (hf : layerFaultL l = (0, 0)) : checkV l x = .nilIface := by
  unfold checkV; rw [if_neg h, hf, if_neg (by simp)]
theorem ret_eq {a b : Value} (h : a = b) : Ending.returned a = .returned b := by rw [h]

set_option maxHeartbeats 800000 in
theorem checkLayer_any (v : Value) (l : List R) (x : Addr) (w : World) (h : RecSl w v l) (hl : l.length ≤ 1048576) (hr : ∀ r ∈ l, r.p.size ≤ maxLen) (ht : Tab w) (hx : w.cell? ⟨0, 0, none⟩ = some (errV x)) :
    Calls Tryd.prog 38 #[v] w fun e w' => e = .returned (checkV l x) ∧ Below w.heap.size w w' := by
  have hsl := h
  obtain ⟨A, cap, rfl, hcap, h⟩ := h
  by_cases h4 : 4096 < l.length
  · have HE := Lib.hid (check_long (x := x) h4)
    have hd : decide ((4096 : Int) < (l.length : Int)) = true := by simp; omega
    unfold errV at hx HE
    go_enter Tryd.func38, Tryd.ntmps38
    go_wp2_with fail
    go_ret
    exact ⟨ret_eq HE.out.symm, Below.refl _ _⟩
  have hd : decide ((4096 : Int) < (l.length : Int)) = false := by simp; omega
  have HSl := Lib.hid hsl
  have H := Lib.hid h
  have HT := Lib.hid ht
  have H4 := Lib.hid h4
  clear h hsl ht hx h4
  go_enter Tryd.func38, Tryd.ntmps38
  go_wp2
  go_loopw [12] (fun i wr => ∃ k : Nat, k ≤ l.length ∧ i = .int .i64 k ∧ Hid (layerFaultL l = faultFrom l k) ∧ Hid (∀ j (h : j < l.length), j < k → codeAt l j l[j] = 0) ∧ Below w.heap.size w wr) (fun i _ => l.length - (intOf i).toNat)
  case atStart => exact ⟨0, by omega, rfl, rfl, fun j h hj => by omega, Below.refl _ _⟩
  case round =>
    obtain ⟨k, hk, rfl, HK, HC, hbw⟩ := hrel
    by_cases hlt : k < l.length
    · obtain ⟨b, off, rfl, hb, hcell⟩ := H.out (by omega)
      obtain ⟨c0, c1, c2, c3, c4⟩ := (hcell k l[k] (by simp [hlt])).below hbw hb
      have hi1 : (k : Int) < (l.length : Int) := by omega
      have hi0 : (0 : Int) ≤ (k : Int) := by omega
      clear hcell
      go_wp2_with fail
      have a0 : (wr.alloc (.cells #[.int .i64 l[k].k, .string l[k].p, .string l[k].b, .int .i64 l[k].m, .bool l[k].o] 27)).cell? ⟨wr.heap.size, 0, none⟩ = some (.int .i64 l[k].k) := by go_simp
      have a1 : (wr.alloc (.cells #[.int .i64 l[k].k, .string l[k].p, .string l[k].b, .int .i64 l[k].m, .bool l[k].o] 27)).cell? ⟨wr.heap.size, 1, none⟩ = some (.string l[k].p) := by go_simp
      have a2 : (wr.alloc (.cells #[.int .i64 l[k].k, .string l[k].p, .string l[k].b, .int .i64 l[k].m, .bool l[k].o] 27)).cell? ⟨wr.heap.size, 2, none⟩ = some (.string l[k].b) := by go_simp
      have a3 : (wr.alloc (.cells #[.int .i64 l[k].k, .string l[k].p, .string l[k].b, .int .i64 l[k].m, .bool l[k].o] 27)).cell? ⟨wr.heap.size, 3, none⟩ = some (.int .i64 l[k].m) := by go_simp
      have a4 : (wr.alloc (.cells #[.int .i64 l[k].k, .string l[k].p, .string l[k].b, .int .i64 l[k].m, .bool l[k].o] 27)).cell? ⟨wr.heap.size, 4, none⟩ = some (.bool l[k].o) := by go_simp
      have hbA : Below w.heap.size w (wr.alloc (.cells #[.int .i64 l[k].k, .string l[k].p, .string l[k].b, .int .i64 l[k].m, .bool l[k].o] 27)) := hbw.alloc hbw.size _
      generalize wr.alloc (.cells #[.int .i64 l[k].k, .string l[k].p, .string l[k].b, .int .i64 l[k].m, .bool l[k].o] 27) = W at *
      have hi2 : (k : Int) ≤ (cap : Int) := by omega
      have hi3 : k ≤ cap := by omega
      have hi4 : ¬ ((k : Int) < 0) := by omega
      have hi5 : ¬ ((cap : Int) < (k : Int)) := by omega
      go_still_tail 4, (by kernel_rfl)
      change wpList _ _ _ _ _ W.drew
      have hbA' : Below w.heap.size w W.drew := hbA.drew
      clear hbA c0 c1 c2 c3 c4
      generalize W.drew = W2 at *
      have hslr := (HSl.out.below hbA').take (k := k) (by omega)
      have hq := hr l[k] (List.getElem_mem hlt)
      have htr := HT.out.below hbA' (Nat.le_refl _)
      go_wp2_with fail
      refine (faultBehind_any _ (l.take k) l[k] _ (by exact hslr) (by rw [List.length_take]; omega) hq (fun r hm => hr r (List.mem_of_mem_take hm)) htr).mono ?_
      rintro e w1 ⟨rfl, hb1⟩
      rw [beh_code hlt HC.out]
      have hbw1 := hbA'.trans (hb1.mono hbA'.size)
      by_cases hc : codeAt l k l[k] = 0
      · have HF := Lib.hid (HK.out.trans (faultFrom_good hlt hc))
        have HA := all_next HC.out hlt hc
        rw [hc]
        go_wp2_with fail
        exact ⟨⟨k + 1, by omega, by go_num, HF, HA, hbw1⟩, by simp [intOf]; omega⟩
      · have HE := Lib.hid (check_bad (x := x) H4.out (HK.out.trans (faultFrom_bad hlt hc)) hc)
        have hd2 : (codeAt l k l[k] != 0) = true := by simpa using hc
        unfold recV at HE
        clear hc
        go_wp2_with fail
        go_ret
        exact ⟨ret_eq HE.out.symm, hbw1⟩
    · obtain rfl : k = l.length := by omega
      have HE := Lib.hid (check_ok (x := x) H4.out (HK.out.trans (faultFrom_end (Nat.le_refl _))))
      go_wp2
      go_ret
      exact ⟨ret_eq HE.out.symm, hbw⟩

end Go.Proofs.YtciflchaepchiaaDoor.Recs

/- Layers: LayerFault and LayerOK of the model. -/
namespace Go.Proofs.YtciflchaepchiaaDoor.Recs
set_option maxRecDepth 100000
open Go.RowKit Paths

theorem l03OK_any (v : Value) (l : List R) (w : World) (h : RecSl w v l) (hl : l.length ≤ 1048576) :
    Calls Tryd.prog 35 #[v] w fun e w' => e = .returned (.bool (layerOK l)) ∧ Below w.heap.size w w' := by
  have HC := l03Fault_any v l w h hl
  obtain ⟨A, cap, rfl, hcap, _⟩ := h
  go_enter Tryd.func35, Tryd.ntmps35
  go_wp2_with fail
  refine HC.mono ?_
  rintro e w1 ⟨rfl, hb1⟩
  go_wp2_with fail
  go_ret
  exact ⟨rfl, hb1⟩

end Go.Proofs.YtciflchaepchiaaDoor.Recs

/- What the rows' lists give: the table of kinds, the two sentinels. -/
namespace Go.Proofs.YtciflchaepchiaaDoor.Recs
set_option maxRecDepth 100000
open Go.RowKit Paths Errs

theorem gLong : Tryd.prog.globalNamed "loop.example/g00798/impl.errTooLong" = some 0 := by kernel_rfl
theorem gLongType : (Tryd.prog.globals[(0 : Nat)]?).map (·.type) = some 56 := by kernel_rfl
theorem gBad : Tryd.prog.globalNamed "loop.example/g00798/impl.errInvalid" = some 1 := by kernel_rfl
theorem gBadType : (Tryd.prog.globals[(1 : Nat)]?).map (·.type) = some 56 := by kernel_rfl

theorem star : "*" ++ "errors.errorString" = "*errors.errorString" := by decide
theorem rowErr (u : TypeId) (h : Tryd.prog.typeName? 3 u = some "*errors.errorString") : u = 128 :=
  typeName_ptr_named (nm := "errors.errorString") (by rw [star]; kernel_rfl) (by kernel_rfl) (by decide) u (by rw [star]; exact h)

section
variable {H : Type} {enc : TypeId × Value → H} {P : Program} {w : World} {spare : Nat → Bool}
theorem vars2 {a b : String} {gs : List (DataW H)} {ps : List MemPlace} (h : DataW.TrodVars enc P w spare [a, b] gs ps) : ∃ x y, gs = [x, y] := by
  cases gs with
  | nil => exact h.elim
  | cons x t =>
    obtain ⟨_, _, _, _, _, q, _, _, _, _, h2, _⟩ := h
    cases t with
    | nil => exact h2.elim
    | cons y t =>
      obtain ⟨_, _, _, _, _, q, _, _, _, _, h3, _⟩ := h2
      cases t with
      | nil => exact ⟨x, y, rfl⟩
      | cons z t => exact h3.elim
theorem vars3 {a b c : String} {gs : List (DataW H)} {ps : List MemPlace} (h : DataW.TrodVars enc P w spare [a, b, c] gs ps) : ∃ x y z, gs = [x, y, z] := by
  cases gs with
  | nil => exact h.elim
  | cons x t =>
    obtain ⟨_, _, _, _, _, q, _, _, _, _, h2, _⟩ := h
    obtain ⟨y, z, rfl⟩ := vars2 h2
    exact ⟨x, y, z, rfl⟩
end

theorem three_of {W : World} (hm : laidMet Tryd.prog [("loop.example/g00798/impl.kindRules", Rows.laid_loop_example_g00798_impl_kindRules), ("loop.example/g00798/impl.errTooLong", Rows.laid_loop_example_g00798_impl_errTooLong), ("loop.example/g00798/impl.errInvalid", Rows.laid_loop_example_g00798_impl_errInvalid)] W) : ∃ x y, Three W x y := by
  obtain ⟨x, y, s0, s1, c0, c1, t0, t1, hv0, hv1, hc0, hs0, hz0, hc1, hs1, hz1, hne, hb0, hb1⟩ := laid_sentinels2 hm.tail gLong gLongType gBad gBadType Tryd.underlying56 rowErr Tryd.underlying128 Tryd.underlying151 rfl rfl Tryd.underlying9 (by kernel_rfl) (by kernel_rfl)
  refine ⟨x, y, ?_, ?_, ?_, hne, ⟨_, _, hb0⟩, ⟨_, _, hb1⟩⟩
  · obtain ⟨ps, ⟨g', t', cs, fuel, p, q, hg', ht', hvar, hd, _, _⟩, _⟩ := hm
    obtain rfl := Option.some.inj (gTab.symm.trans hg')
    obtain rfl := Option.some.inj (gTabType.symm.trans ht')
    exact tab_of_cells hg' hvar (rules_of_trod hd)
  · rw [World.var?_cell gLong hv0 0]
    rfl
  · rw [World.var?_cell gBad hv1 0]
    rfl
theorem laid3 {W : World} (h : laidMetH Tryd.prog [("loop.example/g00798/impl.kindRules", Rows.laid_loop_example_g00798_impl_kindRules), ("loop.example/g00798/impl.errTooLong", Rows.laid_loop_example_g00798_impl_errTooLong), ("loop.example/g00798/impl.errInvalid", Rows.laid_loop_example_g00798_impl_errInvalid)] W) : ∃ x y, Three W x y :=
  three_of (show laidMet Tryd.prog _ W from h)
end Go.Proofs.YtciflchaepchiaaDoor.Recs

/- The code of the errors of a call's arguments. Conditions: the table of kinds, the two sentinels. -/
namespace Go.Proofs.YtciflchaepchiaaDoor.Recs
set_option maxRecDepth 100000
open Go.RowKit Paths Errs

def argFrom : List EK → Int → Int
  | [], c => c
  | .fine :: t, c => argFrom t c
  | .long :: _, _ => 2
  | .bad _ _ :: t, _ => argFrom t 1
theorem arg_end {L : List EK} {k : Nat} {c : Int} (h : L.length ≤ k) : argFrom (L.drop k) c = c := by rw [List.drop_eq_nil_of_le h]; rfl
theorem arg_fine {L : List EK} {k : Nat} {c : Int} (h : k < L.length) (he : L[k] = .fine) : argFrom (L.drop k) c = argFrom (L.drop (k + 1)) c := by rw [List.drop_eq_getElem_cons h, he]; rfl
theorem arg_long {L : List EK} {k : Nat} {c : Int} (h : k < L.length) (he : L[k] = .long) : argFrom (L.drop k) c = 2 := by rw [List.drop_eq_getElem_cons h, he]; rfl
theorem arg_bad {L : List EK} {k : Nat} {c i d : Int} (h : k < L.length) (he : L[k] = .bad i d) : argFrom (L.drop k) c = argFrom (L.drop (k + 1)) 1 := by rw [List.drop_eq_getElem_cons h, he]; rfl

set_option maxHeartbeats 1600000 in
theorem argumentCode_any (g : Nat) (L : List EK) (x y : Addr) (w : World) (hT : Three w x y) (hg : g < w.heap.size) (hn : L.length ≤ 1000) (hc : ∀ k (h : k < L.length), w.cell? ⟨g, k, none⟩ = some (L[k].val x)) :
    Calls Tryd.prog 37 #[.slice (some ⟨g, 0, none⟩) L.length L.length] w fun e w' => e = .returned (.int .i64 (argFrom L 0)) ∧ Below w.heap.size w w' := by
  have HC := Lib.hid hc
  have HT := Lib.hid hT
  clear hc hT
  go_enter Tryd.func37, Tryd.ntmps37
  go_wp2
  go_loopw [3, 8] (fun c i wr => ∃ (k : Nat) (d : Int), k ≤ L.length ∧ i = .int .i64 k ∧ c = .int .i64 d ∧ Hid (argFrom L 0 = argFrom (L.drop k) d) ∧ Below w.heap.size w wr) (fun _ i _ => L.length - (intOf i).toNat)
  case atStart => exact ⟨0, 0, by omega, rfl, rfl, rfl, Below.refl _ _⟩
  case round =>
    obtain ⟨k, d, hk, rfl, rfl, HK, hbw⟩ := hrel
    by_cases hlt : k < L.length
    · have hcell : wr.cell? ⟨g, k, none⟩ = some (L[k].val x) := (hbw.cell (p := ⟨g, k, none⟩) hg).trans (HC.out k hlt)
      have hTr := HT.out.below hbw (Nat.le_refl _)
      have hx := hTr.long
      have hy := hTr.bad
      have hi1 : (k : Int) < (L.length : Int) := by omega
      have hi0 : (0 : Int) ≤ (k : Int) := by omega
      cases hE : L[k] with
      | fine =>
        have HF := Lib.hid (HK.out.trans (arg_fine hlt hE))
        rw [hE] at hcell
        unfold EK.val at hcell
        have H1 := is_nil x wr
        have H2 := is_nil y wr
        unfold errV at hx hy H1 H2
        go_wp2_with fail
        refine H1.mono ?_
        rintro e w1 ⟨rfl, rfl⟩
        go_wp2_with fail
        refine H2.mono ?_
        rintro e w2 ⟨rfl, rfl⟩
        go_wp2_with fail
        exact ⟨⟨k + 1, d, by omega, by go_num, rfl, HF, hbw⟩, by simp [intOf]; omega⟩
      | long =>
        have HF := Lib.hid (HK.out.trans (arg_long hlt hE))
        rw [hE] at hcell
        unfold EK.val at hcell
        have H1 := is_same x wr
        unfold errV at hx hy H1 hcell
        go_wp2_with fail
        refine H1.mono ?_
        rintro e w1 ⟨rfl, rfl⟩
        go_wp2_with fail
        go_ret
        exact ⟨ret_int HF.out.symm, hbw⟩
      | bad i c =>
        have HF := Lib.hid (HK.out.trans (arg_bad hlt hE))
        rw [hE] at hcell
        unfold EK.val at hcell
        obtain ⟨cx, tx, rx⟩ := hTr.rowx
        obtain ⟨cy, ty, ry⟩ := hTr.rowy
        have H1 := is_rec_other i c y x _ _ _ _ wr hy (Ne.symm hTr.ne) ry rx
        have hxl := World.block_lt_of_cell? wr _ hx
        have hyl := World.block_lt_of_cell? wr _ hy
        have hye := hy
        unfold recV at hcell H1
        unfold errV at hx hy H1
        go_wp2_with fail
        refine H1.mono ?_
        rintro e w1 ⟨rfl, hb1⟩
        have hy1 : w1.cell? ⟨1, 0, none⟩ = some (errV y) := (hb1.cell (p := ⟨1, 0, none⟩) hyl).trans hye
        have H2 := is_rec_same i c y w1 hy1
        unfold recV at H2
        unfold errV at hy1 H2
        go_wp2_with fail
        refine H2.mono ?_
        rintro e w2 ⟨rfl, hb2⟩
        go_wp2_with fail
        exact ⟨⟨k + 1, 1, by omega, by go_num, rfl, HF, (hbw.trans (hb1.mono hbw.size)).trans (hb2.mono (hbw.trans (hb1.mono hbw.size)).size)⟩, by simp [intOf]; omega⟩
    · have HE := Lib.hid (HK.out.trans (arg_end (by omega)))
      go_wp2
      go_ret
      exact ⟨ret_int HE.out.symm, hbw⟩

/-- What checkLayer answers. -/
def checkK (l : List R) : EK := if 4096 < l.length then .long else if (layerFaultL l).2 ≠ 0 then .bad (layerFaultL l).1 (layerFaultL l).2 else .fine
theorem checkK_val (l : List R) (x : Addr) : (checkK l).val x = checkV l x := by
  unfold checkK checkV
  split
  · rfl
  · split <;> rfl
def codeL (l : List R) : Int := if 4096 < l.length then 2 else if layerOK l then 0 else 1
theorem arg_l (l : List R) : argFrom [checkK l] 0 = codeL l := by
  by_cases h1 : 4096 < l.length <;> by_cases h3 : (layerFaultL l).2 = 0 <;> simp [checkK, codeL, argFrom, layerOK, h1, h3]
end Go.Proofs.YtciflchaepchiaaDoor.Recs

/- Layers: FindRecord, of the program and of its model. Conditions (of the program's): the table of kinds, the two sentinels. -/
namespace Go.Proofs.YtciflchaepchiaaDoor.Recs
set_option maxRecDepth 100000
open Go.RowKit Paths Errs

theorem arg1_any (a : EK) (x y : Addr) (w : World) (hT : Three w x y) :
    Calls Tryd.prog 37 #[.slice (some ⟨w.heap.size, 0, none⟩) 1 1] (w.alloc (.cells #[a.val x] 56)) fun e w' => e = .returned (.int .i64 (argFrom [a] 0)) ∧ Below w.heap.size w w' := by
  have hb0 : Below w.heap.size w (w.alloc (.cells #[a.val x] 56)) := (Below.refl _ _).alloc (Nat.le_refl _) _
  have := argumentCode_any w.heap.size [a] x y (w.alloc (.cells #[a.val x] 56)) (hT.below hb0 (Nat.le_refl _)) (by simp) (by simp) (fun k hk => by
    have hk2 : k < 1 := hk
    match k, hk2 with
    | 0, _ => go_simp)
  refine this.mono ?_
  rintro e w1 ⟨rfl, hb1⟩
  exact ⟨rfl, hb0.trans (hb1.mono hb0.size)⟩

end Go.Proofs.YtciflchaepchiaaDoor.Recs

/- Layers: Canonical and IsCanonical, of the program and of its model. Conditions (of the program's): the table of kinds, the two sentinels. -/
namespace Go.Proofs.YtciflchaepchiaaDoor.Recs
set_option maxRecDepth 100000
open Go.RowKit Paths Errs

theorem codeL_ok {l : List R} (h : codeL l = 0) : layerOK l = true := by
  unfold codeL at h
  split at h
  · cases h
  · split at h
    · assumption
    · cases h
end Go.Proofs.YtciflchaepchiaaDoor.Recs

/- A text with its sum, two bytes of a number, LayerSum, a record's encoding: of the program and of its model. Condition (of EncodeRecord): the table of kinds. -/
namespace Go.Proofs.YtciflchaepchiaaDoor.Recs
set_option maxRecDepth 100000
open Go.RowKit Paths

theorem ints1 (w : World) (a : Int) : IntSl (w.alloc (.cells #[.int .i64 a] 3)) (.slice (some ⟨w.heap.size, 0, none⟩) 1 1) [a] := by
  refine ⟨_, _, rfl, Nat.le_refl _, fun _ => ⟨w.heap.size, 0, rfl, by simp, fun i z hi => ?_⟩⟩
  match i, hi with
  | 0, hi => cases hi; go_simp
  | i + 1, hi => simp at hi
theorem ints2 (w : World) (a b : Int) : IntSl (w.alloc (.cells #[.int .i64 a, .int .i64 b] 3)) (.slice (some ⟨w.heap.size, 0, none⟩) 2 2) [a, b] := by
  refine ⟨_, _, rfl, Nat.le_refl _, fun _ => ⟨w.heap.size, 0, rfl, by simp, fun i z hi => ?_⟩⟩
  match i, hi with
  | 0, hi => cases hi; go_simp
  | 1, hi => cases hi; go_simp
  | i + 2, hi => simp at hi
set_option maxHeartbeats 800000 in
theorem withSum_any (s : ByteArray) (w : World) (hs : s.size ≤ 1048576) :
    Calls Tryd.prog 40 #[.string s] w fun e w' => ∃ B : ByteArray, e = .returned (.string B) ∧ B.data.toList = withSumL s.data.toList ∧ Below w.heap.size w w' := by
  have hlt := sum_lt s.data.toList
  obtain ⟨S, hS⟩ : ∃ S, sumL s.data.toList = S := ⟨_, rfl⟩
  have HS := Lib.hid hS
  have HSM := sumOf_any s w (by unfold maxLen; omega)
  rw [hS] at HSM hlt
  clear hS
  go_enter Tryd.func40, Tryd.ntmps40
  go_wp2_with fail
  refine HSM.mono ?_
  rintro e w1 ⟨rfl, hb1⟩
  have HI := ints2 w1 ((S : Int) / 256) S
  have c1 : Below w.heap.size w (w1.alloc (.cells #[.int .i64 ((S : Int) / 256), .int .i64 S] 3)) := hb1.alloc hb1.size _
  go_wp2_with fail
  refine (bytesOf_any _ _ _ HI (by simp)).mono ?_
  rintro e w2 ⟨B, rfl, hB, hBs, hb2⟩
  have HB := Lib.hid hB
  have q1 : (s.size : Int) ≤ 8388608 := by omega
  have q2 : (B.size : Int) ≤ 8388608 := by simp at hBs; omega
  clear hB hBs
  go_wp2_with fail
  go_ret
  exact ⟨s ++ B, rfl, by rw [glue, HB.out]; unfold withSumL; rw [HS.out]; rfl, c1.trans (hb2.mono c1.size)⟩

end Go.Proofs.YtciflchaepchiaaDoor.Recs
