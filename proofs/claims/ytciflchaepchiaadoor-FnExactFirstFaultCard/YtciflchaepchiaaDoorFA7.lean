/- Parts of several texts of mine in one file (each begins with its own remark). -/
import Derived.Test.YtciflchaepchiaaDoorFA1
import Derived.Test.YtciflchaepchiaaDoorFA2
import Derived.Test.YtciflchaepchiaaDoorFA3
import Derived.Test.YtciflchaepchiaaDoorFA4
import Derived.Test.YtciflchaepchiaaDoorFA5
import Derived.Test.YtciflchaepchiaaDoorFA6
import Derived.Test.YtciflchaepchiaaDoorChecked
import Derived.Test.YtciflchaepchiaaDoorShelf
import Derived.Test.YtciflchaepchiaaDoorProg
import Derived.Test.YtciflchaepchiaaDoorRows
import Derived.Stop.LaidErr
import Derived.StillTailTactics
import Derived.Laws.OwnMore
import Derived.BigQuiet
import Derived.BigRegion
import Derived.Deep.QuietTactic
import Derived.Deep.RegionHeld3
import Derived.Deep.Slices
import Derived.OpenShut
import Derived.ShutString
import Derived.ChangeArms
import Derived.WideShapes
import Derived.Lib.LaidTab
import Derived.Deep.Draws
import Derived.Deep.LoopGhost
import Derived.WalkKit
import Derived.WalkSpells
import Derived.WalkSmall
import Derived.Lib.OthersKept
import Derived.Lib.Hide
import Derived.Lib.Strings
import Derived.Lib.Join
import Derived.Laws.BytesArg
import Derived.WalkLawsBesides
import Derived.LaidEql
import Derived.Stop.Asserts
import Derived.Below
import Derived.Stop.LaidTwo
import Derived.ChangeVars
import Derived.Deep.DeepHandedRow
import Derived.Lib.ConvBytes
import Derived.Shelf.Strings.Builder1
import Derived.Deep.Cut
/- Layers: the program's check of one: the code of a record behind others, the error of a list. Conditions: the table of kinds, the sentinel (as each states). -/
namespace Go.Proofs.YtciflchaepchiaaDoor.Recs
set_option maxRecDepth 100000
open Go.RowKit Paths Errs

def ordC (L : List R) (q : ByteArray) : Int := match L.getLast? with | none => 0 | some x => if x.p = q then 18 else if lessB x.p q then 0 else 11
theorem ord_nil (q : ByteArray) : ordC [] q = 0 := rfl
theorem ord_last {L : List R} {n : Nat} (hn : L.length = n + 1) (q : ByteArray) : ordC L q = if (L[n]'(by omega)).p = q then 18 else if lessB (L[n]'(by omega)).p q then 0 else 11 := by
  have e : L[L.length - 1]? = some (L[n]'(by omega)) := by
    have h1 : L.length - 1 = n := by omega
    rw [h1, List.getElem?_eq_getElem]
  unfold ordC
  rw [List.getLast?_eq_getElem?, e]

set_option maxHeartbeats 800000 in
theorem orderFault_any (v : Value) (L : List R) (q : ByteArray) (w : World) (h : RecSl w v L) (hl : L.length ≤ 1048576) (hq : q.size ≤ maxLen) (hr : ∀ r ∈ L, r.p.size ≤ maxLen) :
    Calls Tryd.prog 69 #[v, .string q] w fun e w' => e = .returned (.int .i64 (ordC L q)) ∧ Below w.heap.size w w' := by
  obtain ⟨A, cap, rfl, hcap, h⟩ := h
  by_cases h0 : L.length = 0
  · have HE : Hid (ordC L q = 0) := by rw [List.eq_nil_of_length_eq_zero h0]; rfl
    rw [h0]
    go_enter Tryd.func69, Tryd.ntmps69
    go_wp2_with fail
    go_ret
    exact ⟨ret_int HE.out.symm, Below.refl _ _⟩
  · obtain ⟨n, hn⟩ : ∃ n, L.length = n + 1 := ⟨L.length - 1, by omega⟩
    have HO := Lib.hid (ord_last hn q)
    obtain ⟨b, off, rfl, hb, hcell⟩ := h (by omega)
    obtain ⟨_, c1, _⟩ := hcell n (L[n]'(by omega)) (by simp)
    have hs := hr (L[n]'(by omega)) (List.getElem_mem _)
    clear h hcell hr
    generalize L[n]'(by omega) = x at *
    rw [hn] at hl hcap ⊢
    have i1 : (n : Int) < (n : Int) + 1 := by omega
    have i0 : (0 : Int) ≤ (n : Int) := by omega
    have hd0 : ((n : Int) + 1 == 0) = false := by simp; omega
    clear hn h0
    rcases Bool.eq_false_or_eq_true (q.toList == x.p.toList) with he | he
    · have HE : Hid (ordC L q = 18) := by show _ = _; rw [HO.out, if_pos (str_eq_of he).symm]
      go_enter Tryd.func69, Tryd.ntmps69
      go_wp2_with fail
      go_ret
      exact ⟨ret_int HE.out.symm, Below.refl _ _⟩
    · have hne : ¬ x.p = q := fun e => by rw [e] at he; simp at he
      have HE : Hid (ordC L q = if lessB x.p q then 0 else 11) := by show _ = _; rw [HO.out, if_neg hne]
      clear hne
      rcases Bool.eq_false_or_eq_true (lessB x.p q) with hb2 | hb2
      · have HF : Hid (ordC L q = 0) := by show _ = _; rw [HE.out, if_pos hb2]
        go_enter Tryd.func69, Tryd.ntmps69
        go_wp2_with (go_at_call 78; refine (pathLess_impl _ _ _ hs hq).mono ?_; rintro e w1 ⟨rfl, hb1⟩)
        go_ret
        exact ⟨ret_int HF.out.symm, hb1⟩
      · have HF : Hid (ordC L q = 11) := by show _ = _; rw [HE.out, if_neg (by rw [hb2]; decide)]
        go_enter Tryd.func69, Tryd.ntmps69
        go_wp2_with (go_at_call 78; refine (pathLess_impl _ _ _ hs hq).mono ?_; rintro e w1 ⟨rfl, hb1⟩)
        go_ret
        exact ⟨ret_int HF.out.symm, hb1⟩

def parC (L : List R) (q : ByteArray) : Int :=
  if parS q = [] then 0 else if atL L ⟨(parS q).toArray⟩ < 0 then 12 else if (L[(atL L ⟨(parS q).toArray⟩).toNat]?).any (fun x => x.k ≠ 3) then 13 else 0

set_option maxHeartbeats 800000 in
theorem parentFault_any (v : Value) (L : List R) (q : ByteArray) (w : World) (h : RecSl w v L) (hl : L.length ≤ 1048576) (hq : q.size ≤ maxLen) :
    Calls Tryd.prog 70 #[v, .string q] w fun e w' => e = .returned (.int .i64 (parC L q)) ∧ Below w.heap.size w w' := by
  have hsl := h
  obtain ⟨A, cap, rfl, hcap, h⟩ := h
  have H := Lib.hid h
  clear h
  by_cases h0 : parS q = []
  · have HE : Hid (parC L q = 0) := if_pos h0
    go_enter Tryd.func70, Tryd.ntmps70
    go_wp2_with fail
    refine (parentOf_impl _ _ hq).mono ?_
    rintro e w1 ⟨rfl, hb1⟩
    have hemp : (parS q).isEmpty = true := by rw [h0]; rfl
    unfold strV
    go_wp2_with fail
    go_ret
    exact ⟨ret_int HE.out.symm, hb1⟩
  · have HE : Hid (parC L q = if atL L ⟨(parS q).toArray⟩ < 0 then 12 else if (L[(atL L ⟨(parS q).toArray⟩).toNat]?).any (fun x => x.k ≠ 3) then 13 else 0) := if_neg h0
    have hemp : (parS q).isEmpty = false := by simpa using h0
    clear h0
    go_enter Tryd.func70, Tryd.ntmps70
    go_wp2_with fail
    refine (parentOf_impl _ _ hq).mono ?_
    rintro e w1 ⟨rfl, hb1⟩
    unfold strV
    go_wp2_with fail
    refine (indexOfPath_any _ L _ _ (hsl.below hb1) hl).mono ?_
    rintro e w2 ⟨rfl, hb2⟩
    have hbw := hb1.trans (hb2.mono hb1.size)
    rcases atL_cases L ⟨(parS q).toArray⟩ with ⟨ha, _⟩ | ⟨j, hj, ha, _⟩
    · have HF : Hid (parC L q = 12) := by show _ = _; rw [HE.out, if_pos (by rw [ha]; decide)]
      rw [ha]
      go_wp2_with fail
      go_ret
      exact ⟨ret_int HF.out.symm, hbw⟩
    · have HG : Hid (parC L q = if L[j].k ≠ 3 then 13 else 0) := by show _ = _; rw [HE.out, if_neg (by omega), ha, Int.toNat_natCast, List.getElem?_eq_getElem hj]; simp
      obtain ⟨b, off, rfl, hb, hcell⟩ := H.out (by omega)
      obtain ⟨f0, _⟩ := (hcell j L[j] (by simp [hj])).below hbw hb
      rw [ha]
      clear ha hcell
      have j1 : (0 : Int) ≤ (j : Int) := by omega
      have j2 : (j : Int) < (L.length : Int) := by omega
      have j3 : decide ((j : Int) < 0) = false := by simp
      by_cases h3 : L[j].k = 3
      · have HN : Hid (parC L q = 0) := by show _ = _; rw [HG.out, if_neg (by simpa using h3)]
        have j4 : (L[j].k != 3) = false := by simpa using h3
        clear h3
        go_wp2_with fail
        go_ret
        exact ⟨ret_int HN.out.symm, hbw⟩
      · have HN : Hid (parC L q = 13) := by show _ = _; rw [HG.out, if_pos h3]
        have j4 : (L[j].k != 3) = true := by simpa using h3
        clear h3
        go_wp2_with fail
        go_ret
        exact ⟨ret_int HN.out.symm, hbw⟩

def behC (L : List R) (r : R) : Int := if 16 ≤ L.length then 6 else if r.fault ≠ 0 then r.fault else if ordC L r.p ≠ 0 then ordC L r.p else parC L r.p

theorem par_up {l : List R} {i : Nat} {r : R} (hp : pathB r.p.data.toList = true) : parC (l.take i) r.p = codeUp l i r := by
  have e : parS r.p = parentL r.p.data.toList := by unfold parS; rw [hp]; rfl
  unfold parC codeUp
  rw [e]
  by_cases h0 : parentL r.p.data.toList = []
  · rw [if_pos h0, if_pos h0]
  · rw [if_neg h0, if_neg h0]
    show (if atL (l.take i) (parO r.p) < 0 then (12 : Int) else if ((l.take i)[(atL (l.take i) (parO r.p)).toNat]?).any (fun x => x.k ≠ 3) then 13 else 0) = _
    rcases atL_cases (l.take i) (parO r.p) with ⟨ha, _⟩ | ⟨j, hj, ha, _⟩
    · rw [ha, if_pos (by decide), if_pos (by decide)]
    · have hneg : ¬ ((j : Int) < 0) := by omega
      rw [ha, if_neg hneg, if_neg hneg, Int.toNat_natCast, List.getElem?_eq_getElem hj]
      rw [List.length_take] at hj
      rw [List.getElem?_eq_getElem (by omega : j < l.length), List.getElem_take]

theorem beh_code {l : List R} {i : Nat} (hi : i < l.length) (hc : ∀ j (h : j < l.length), j < i → codeAt l j l[j] = 0) : behC (l.take i) l[i] = codeAt l i l[i] := by
  have h16 : i ≤ 16 := by
    rcases Nat.lt_or_ge 16 i with h | h
    · exact absurd (hc 16 (by omega) h) (by rw [code_many]; decide)
    · exact h
  have hlen : (l.take i).length = i := by rw [List.length_take]; omega
  unfold behC
  rw [hlen]
  by_cases h1 : i = 16
  · subst h1
    rw [if_pos (by omega), code_many]
  rw [if_neg (by omega)]
  by_cases hf : l[i].fault = 0
  case neg => rw [if_pos hf, code_rec h1 hf]
  rw [if_neg (by simpa using hf)]
  have hp := (fault_path hf).1
  cases i with
  | zero =>
    rw [code_up h1 hf rfl rfl, if_neg (by simp [ord_nil]), par_up hp]
  | succ n =>
    have hn : n < l.length := by omega
    have hp2 := (fault_path (codeAt_zero (hc n hn (by omega))).2).1
    have ho := ord_last (L := l.take (n + 1)) (n := n) hlen l[n + 1].p
    rw [List.getElem_take, lessB_yes hp2 hp] at ho
    rw [ho]
    by_cases he : l[n].p = l[n + 1].p
    · rw [if_pos he, code_same h1 hf (by rw [beforeL_pos hi]; simp [he])]
      rfl
    · rw [if_neg he]
      have hs : (beforeL l (n + 1)).any (fun x => x.p = l[n + 1].p) = false := by rw [beforeL_pos hi]; simp [he]
      rcases Bool.eq_false_or_eq_true (lessP (cutAt 47 l[n].p.data.toList) (cutAt 47 l[n + 1].p.data.toList)) with hl | hl
      · rw [code_up h1 hf hs (by rw [beforeL_pos hi]; simp [hl]), if_pos hl, if_neg (by decide), par_up hp]
      · rw [code_order h1 hf hs (by rw [beforeL_pos hi]; simp [hl])]
        simp [hl]

set_option maxHeartbeats 800000 in
theorem faultBehind_any (v : Value) (L : List R) (r : R) (w : World) (h : RecSl w v L) (hl : L.length ≤ 1048576) (hq : r.p.size ≤ maxLen) (hr : ∀ x ∈ L, x.p.size ≤ maxLen) (ht : Tab w) :
    Calls Tryd.prog 53 #[v, .agg #[.int .i64 r.k, .string r.p, .string r.b, .int .i64 r.m, .bool r.o]] w fun e w' => e = .returned (.int .i64 (behC L r)) ∧ Below w.heap.size w w' := by
  have hb0 : Below w.heap.size w (w.alloc (.cells #[.int .i64 r.k, .string r.p, .string r.b, .int .i64 r.m, .bool r.o] 27)) := (Below.refl _ _).alloc (Nat.le_refl _) _
  have hsl := h.below hb0
  have ht0 := ht.below hb0 (Nat.le_refl _)
  obtain ⟨A, cap, rfl, hcap, _⟩ := h
  by_cases h16 : 16 ≤ L.length
  · have HE : Hid (behC L r = 6) := if_pos h16
    have hd : decide ((16 : Int) ≤ (L.length : Int)) = true := by simp; omega
    go_enter Tryd.func53, Tryd.ntmps53
    go_wp2_with fail
    go_ret
    exact ⟨ret_int HE.out.symm, hb0⟩
  have hd : decide ((16 : Int) ≤ (L.length : Int)) = false := by simp; omega
  have HB : Hid (behC L r = if r.fault ≠ 0 then r.fault else if ordC L r.p ≠ 0 then ordC L r.p else parC L r.p) := if_neg h16
  clear h16
  go_enter Tryd.func53, Tryd.ntmps53
  go_wp2_with fail
  refine (recordFault_impl _ _ _ _ _ _ hq ht0).mono ?_
  rintro e w1 ⟨rfl, hb1⟩
  have hb01 := hb0.trans (hb1.mono hb0.size)
  obtain ⟨hc1, hf1⟩ := bcell hb1
  have hz1 : w.heap.size < w1.heap.size := by have := hb1.size; simp at this; omega
  by_cases hf : r.fault = 0
  case neg =>
    have HE : Hid (behC L r = faultI r.k r.p.data.toList r.b.size r.m r.o) := by show _ = _; rw [HB.out, if_pos hf]; rfl
    have hd1 : (faultI r.k r.p.data.toList r.b.size r.m r.o != 0) = true := by have h := hf; unfold R.fault at h; simpa using h
    clear hf
    go_wp2_with fail
    go_ret
    exact ⟨ret_int HE.out.symm, hb01⟩
  have HC : Hid (behC L r = if ordC L r.p ≠ 0 then ordC L r.p else parC L r.p) := by show _ = _; rw [HB.out, if_neg (by simpa using hf)]
  have hd1 : (faultI r.k r.p.data.toList r.b.size r.m r.o != 0) = false := by have h := hf; unfold R.fault at h; simpa using h
  clear hf
  go_wp2_with fail
  refine (orderFault_any _ L _ _ (hsl.below hb1) hl hq hr).mono ?_
  rintro e w2 ⟨rfl, hb2⟩
  have hb02 := hb01.trans (hb2.mono hb01.size)
  obtain ⟨hc2, hf2⟩ := bcell hb2
  have hz2 : w.heap.size < w2.heap.size := by have := hb2.size; omega
  by_cases ho : ordC L r.p = 0
  case neg =>
    have HE : Hid (behC L r = ordC L r.p) := by show _ = _; rw [HC.out, if_pos ho]
    have hd2 : (ordC L r.p != 0) = true := by simpa using ho
    clear ho
    go_wp2_with fail
    go_ret
    exact ⟨ret_int HE.out.symm, hb02⟩
  have HE : Hid (behC L r = parC L r.p) := by show _ = _; rw [HC.out, if_neg (by simpa using ho)]
  have hd2 : (ordC L r.p != 0) = false := by simpa using ho
  clear ho
  go_wp2_with fail
  refine (parentFault_any _ L _ _ ((hsl.below hb1).below hb2) hl hq).mono ?_
  rintro e w3 ⟨rfl, hb3⟩
  go_wp2_with fail
  go_ret
  exact ⟨ret_int HE.out.symm, hb02.trans (hb3.mono hb02.size)⟩
end Go.Proofs.YtciflchaepchiaaDoor.Recs

/- Layers: comparison of two lists of records, of the program and of its model. -/
namespace Go.Proofs.YtciflchaepchiaaDoor.Recs
set_option maxRecDepth 100000
open Go.RowKit Paths

instance decR : DecidableEq R := fun x y =>
  if h : x.k = y.k ∧ x.m = y.m ∧ x.p = y.p ∧ x.b = y.b ∧ x.o = y.o then isTrue (by cases x; cases y; simp_all) else isFalse (fun e => h (by subst e; simp))
/-- Two records are alike, or one field is the first that is not. -/
theorem five (x y : R) : (x.k == y.k) = false ∨ ((x.k == y.k) = true ∧ (x.p.toList == y.p.toList) = false) ∨ ((x.k == y.k) = true ∧ (x.p.toList == y.p.toList) = true ∧ (x.b.toList == y.b.toList) = false) ∨
    ((x.k == y.k) = true ∧ (x.p.toList == y.p.toList) = true ∧ (x.b.toList == y.b.toList) = true ∧ (x.m == y.m) = false) ∨ ((x.k == y.k) = true ∧ (x.p.toList == y.p.toList) = true ∧ (x.b.toList == y.b.toList) = true ∧ (x.m == y.m) = true ∧ (x.o == y.o) = false) ∨
    ((x.k == y.k) = true ∧ (x.p.toList == y.p.toList) = true ∧ (x.b.toList == y.b.toList) = true ∧ (x.m == y.m) = true ∧ (x.o == y.o) = true) := by
  cases (x.k == y.k) <;> cases (x.p.toList == y.p.toList) <;> cases (x.b.toList == y.b.toList) <;> cases (x.m == y.m) <;> cases (x.o == y.o) <;> simp
end Go.Proofs.YtciflchaepchiaaDoor.Recs

/- What the rows' lists give: the table of kinds, the two sentinels. -/
namespace Go.Proofs.YtciflchaepchiaaDoor.Recs
set_option maxRecDepth 100000
open Go.RowKit Paths Errs

section
variable {H : Type} {enc : TypeId × Value → H} {P : Program} {w : World} {spare : Nat → Bool}
end

/-- The table, and the first sentinel. -/
structure Two (w : World) : Prop where
  tab : Tab w
  long : ∃ x, w.cell? ⟨0, 0, none⟩ = some (errV x)
theorem Two.below {w w' : World} {B : Nat} (h : Two w) (hb : Below B w w') (hB : w.heap.size ≤ B) : Two w' := by
  obtain ⟨x, hx⟩ := h.long
  exact ⟨h.tab.below hb hB, x, (hb.cell (p := ⟨0, 0, none⟩) (Nat.lt_of_lt_of_le (World.block_lt_of_cell? w _ hx) hB)).trans hx⟩

/-- The table, and the two sentinels: two pointers into rows of which nothing is frozen. -/
structure Three (w : World) (x y : Addr) : Prop where
  tab : Tab w
  long : w.cell? ⟨0, 0, none⟩ = some (errV x)
  bad : w.cell? ⟨1, 0, none⟩ = some (errV y)
  ne : x ≠ y
  rowx : ∃ c t, w.heap[x.block]? = some (.cells c t (0, 0))
  rowy : ∃ c t, w.heap[y.block]? = some (.cells c t (0, 0))
theorem Three.below {w w' : World} {B : Nat} {x y : Addr} (h : Three w x y) (hb : Below B w w') (hB : w.heap.size ≤ B) : Three w' x y := by
  obtain ⟨cx, tx, hx⟩ := h.rowx
  obtain ⟨cy, ty, hy⟩ := h.rowy
  exact ⟨h.tab.below hb hB, (hb.cell (p := ⟨0, 0, none⟩) (Nat.lt_of_lt_of_le (World.block_lt_of_cell? w _ h.long) hB)).trans h.long,
    (hb.cell (p := ⟨1, 0, none⟩) (Nat.lt_of_lt_of_le (World.block_lt_of_cell? w _ h.bad) hB)).trans h.bad, h.ne,
    ⟨cx, tx, (hb.block _ (Nat.lt_of_lt_of_le (Array.getElem?_eq_some_iff.1 hx).1 hB)).trans hx⟩, ⟨cy, ty, (hb.block _ (Nat.lt_of_lt_of_le (Array.getElem?_eq_some_iff.1 hy).1 hB)).trans hy⟩⟩

end Go.Proofs.YtciflchaepchiaaDoor.Recs

/- The code of the errors of a call's arguments. Conditions: the table of kinds, the two sentinels. -/
namespace Go.Proofs.YtciflchaepchiaaDoor.Recs
set_option maxRecDepth 100000
open Go.RowKit Paths Errs

/-- An error that a check hands back: none, the sentinel of long arguments, or the one that names a record. -/
inductive EK where
  | fine
  | long
  | bad (i c : Int)
def EK.val (x : Addr) : EK → Value
  | .fine => .nilIface
  | .long => errV x
  | .bad i c => recV i c
end Go.Proofs.YtciflchaepchiaaDoor.Recs

/- Layers: Canonical and IsCanonical, of the program and of its model. Conditions (of the program's): the table of kinds, the two sentinels. -/
namespace Go.Proofs.YtciflchaepchiaaDoor.Recs
set_option maxRecDepth 100000
open Go.RowKit Paths Errs

theorem own_le {w : World} {base base' : Nat} {e : TypeId} {size : Nat} {v : Value} {n : Nat} {xs : List Value} (h : w.ownsRow base e size v n xs) (hb : base' ≤ base) : w.ownsRow base' e size v n xs := by
  obtain ⟨h1, h2⟩ := h
  refine ⟨h1, ?_⟩
  rcases h2 with h2 | ⟨g, cap', cur, a, b, c⟩
  · exact .inl h2
  · exact .inr ⟨g, cap', cur, a, Nat.le_trans hb b, c⟩

end Go.Proofs.YtciflchaepchiaaDoor.Recs

/- A text with its sum, two bytes of a number, LayerSum, a record's encoding: of the program and of its model. Condition (of EncodeRecord): the table of kinds. -/
namespace Go.Proofs.YtciflchaepchiaaDoor.Recs
set_option maxRecDepth 100000
open Go.RowKit Paths

theorem ints2 (w : World) (a b : Int) : IntSl (w.alloc (.cells #[.int .i64 a, .int .i64 b] 3)) (.slice (some ⟨w.heap.size, 0, none⟩) 2 2) [a, b] := by
  refine ⟨_, _, rfl, Nat.le_refl _, fun _ => ⟨w.heap.size, 0, rfl, by simp, fun i z hi => ?_⟩⟩
  match i, hi with
  | 0, hi => cases hi; go_simp
  | 1, hi => cases hi; go_simp
  | i + 2, hi => simp at hi
theorem glue (a b : ByteArray) : (a ++ b).data.toList = a.data.toList ++ b.data.toList := by simp
set_option maxHeartbeats 800000 in
theorem withSum_any (s : ByteArray) (w : World) (hs : s.size ≤ 1048576) :
    Calls Tryd.prog 40 #[.string s] w fun e w' => ∃ B : ByteArray, e = .returned (.string B) ∧ B.data.toList = withSumL s.data.toList ∧ Below w.heap.size w w' := by
  have hlt := sum_lt s.data.toList
  obtain ⟨S, hS⟩ : ∃ S, sumL s.data.toList = S := ⟨_, rfl⟩
  have HS := Lib.hid hS
  have HSM := sumOf_any s w (by unfold maxLen; omega)
  rw [hS] at HSM hlt
  clear hS
  go_enter Tryd.func40, Tryd.ntmps40
  go_wp2_with fail
  refine HSM.mono ?_
  rintro e w1 ⟨rfl, hb1⟩
  have HI := ints2 w1 ((S : Int) / 256) S
  have c1 : Below w.heap.size w (w1.alloc (.cells #[.int .i64 ((S : Int) / 256), .int .i64 S] 3)) := hb1.alloc hb1.size _
  go_wp2_with fail
  refine (bytesOf_any _ _ _ HI (by simp)).mono ?_
  rintro e w2 ⟨B, rfl, hB, hBs, hb2⟩
  have HB := Lib.hid hB
  have q1 : (s.size : Int) ≤ 8388608 := by omega
  have q2 : (B.size : Int) ≤ 8388608 := by simp at hBs; omega
  clear hB hBs
  go_wp2_with fail
  go_ret
  exact ⟨s ++ B, rfl, by rw [glue, HB.out]; unfold withSumL; rw [HS.out]; rfl, c1.trans (hb2.mono c1.size)⟩

theorem conv_two (a b : Int) (w : World) : (convert 63 9 (.slice (some ⟨w.heap.size, 0, none⟩) 2 2)).run Tryd.prog (w.alloc (.cells #[.int .u8 a, .int .u8 b] 5)) = .ok (.string ⟨[UInt8.ofNat a.toNat, UInt8.ofNat b.toNat].toArray⟩) (w.alloc (.cells #[.int .u8 a, .int .u8 b] 5)) := by
  have := run_convert_bytes_arg (P := Tryd.prog) (w.alloc (.cells #[.int .u8 a, .int .u8 b] 5)) 63 5 Tryd.underlying63 Tryd.underlying5 w.heap.size 0 2 2 [a, b] rfl
    (by intro i hi
        match i, hi with
        | 0, _ => simp
        | 1, _ => simp) 9 Tryd.underlying9
  exact this
set_option maxHeartbeats 800000 in
theorem l09Two_any (n : Int) (w : World) (h0 : 0 ≤ n) (h1 : n ≤ 1000000) :
    Calls Tryd.prog 44 #[.int .i64 n] w fun e w' => ∃ B : ByteArray, e = .returned (.string B) ∧ B.data.toList = twoB n ∧ B.size = 2 ∧ Below w.heap.size w w' := by
  have kc := conv_two (n / 256 % 256) (n % 256) w
  have c1 : Below w.heap.size w (w.alloc (.cells #[.int .u8 (n / 256 % 256), .int .u8 (n % 256)] 5)) := (Below.refl _ _).alloc (Nat.le_refl _) _
  go_enter Tryd.func44, Tryd.ntmps44
  go_wp2_with fail
  go_ret
  exact ⟨_, rfl, rfl, rfl, c1⟩

end Go.Proofs.YtciflchaepchiaaDoor.Recs

/- The binary encoding, plain: what was encoded is read again; a text cut short, or longer, is no layer. -/
namespace Go.Proofs.YtciflchaepchiaaDoor.Recs
open Go.RowKit Paths

theorem fault_enc {r : R} (h : r.fault = 0) : 1 ≤ r.k ∧ r.k ≤ 4 ∧ 0 ≤ r.m ∧ r.m ≤ 511 ∧ (r.o = true → r.k = 3) ∧ r.p.size ≤ 35 ∧ r.b.size ≤ 20 := by
  have h1 := fault_path h
  have h2 := pathB_len h1.1
  rw [← Lib.size_eq] at h2
  have h3 := h
  unfold R.fault faultI at h3
  split at h3
  · cases h3
  split at h3
  · cases h3
  split at h3
  · cases h3
  split at h3
  · cases h3
  split at h3
  · cases h3
  rename_i _ _ _ hf hm
  have hm0 : ¬ r.m < 0 := fun hx => hm (.inl hx)
  have hm1 : ¬ 511 < r.m := fun hx => hm (.inr (.inl hx))
  refine ⟨h1.2.1, h1.2.2.1, by omega, by omega, fun ho => ?_, h2, h1.2.2.2⟩
  by_cases hk : r.k = 3
  · exact hk
  · exact absurd (.inr ⟨ho, hk⟩) hf
end Go.Proofs.YtciflchaepchiaaDoor.Recs

/- A record's encoding: of the program and of its model. Condition (of EncodeRecord): the table of kinds. -/
namespace Go.Proofs.YtciflchaepchiaaDoor.Recs
set_option maxRecDepth 100000
open Go.RowKit Paths

theorem bel_t {W w w' : World} (h : Below W.heap.size W w) (hb : Below w.heap.size w w') : Below W.heap.size W w' := h.trans (hb.mono h.size)

end Go.Proofs.YtciflchaepchiaaDoor.Recs

/- EncodeRecord and EncodeLayer, of the program and of the model. Conditions (of the program's): the table of kinds, the two sentinels. -/
namespace Go.Proofs.YtciflchaepchiaaDoor.Recs
set_option maxRecDepth 100000
open Go.RowKit Paths Errs

theorem str_of_list {a b : ByteArray} (h : a.data.toList = b.data.toList) : a = b := by
  apply ByteArray.ext
  exact Array.toList_inj.1 h
theorem size_of_list {a : ByteArray} {l : List UInt8} (h : a.data.toList = l) : a.size = l.length := by rw [Lib.size_eq, h]

end Go.Proofs.YtciflchaepchiaaDoor.Recs

/- A text read step by step, plain: what is taken, what is left, whether it was too short; the record that so is read. -/
namespace Go.Proofs.YtciflchaepchiaaDoor.Recs
open Go.RowKit Paths

def tkL (n : Nat) (l : List UInt8) : List UInt8 := if l.length < n then [] else l.take n
def rsL (n : Nat) (l : List UInt8) : List UInt8 := if l.length < n then l else l.drop n
def shL (n : Nat) (l : List UInt8) (sh : Bool) : Bool := if l.length < n then true else sh
/-- The number that bytes are, the higher first. -/
def nuL (l : List UInt8) : Nat := l.foldl (fun n b => n * 256 + b.toNat) 0
theorem nu_step {l : List UInt8} {k : Nat} (hk : k < l.length) : nuL (l.take (k + 1)) = nuL (l.take k) * 256 + l[k].toNat := by
  unfold nuL
  rw [List.take_add_one, List.getElem?_eq_getElem hk, Option.toList_some, List.foldl_append]
  rfl
theorem nu_small (l : List UInt8) (h : l.length ≤ 1) : nuL l < 256 := by
  match l, h with
  | [], _ => decide
  | [b], _ => simp [nuL]; exact b.toNat_lt
theorem tk_ok {n : Nat} {l : List UInt8} (h : n ≤ l.length) : tkL n l = l.take n := if_neg (by omega)
theorem rs_ok {n : Nat} {l : List UInt8} (h : n ≤ l.length) : rsL n l = l.drop n := if_neg (by omega)
theorem sh_ok {n : Nat} {l : List UInt8} {sh : Bool} (h : n ≤ l.length) : shL n l sh = sh := if_neg (by omega)
theorem sh_no {n : Nat} {l : List UInt8} {sh : Bool} (h : l.length < n) : shL n l sh = true := if_pos h
theorem sh_true (n : Nat) (l : List UInt8) : shL n l true = true := by unfold shL; split <;> rfl
theorem nu_one {l : List UInt8} (h : 1 ≤ l.length) : nuL (l.take 1) = byAt l 0 := by
  match l, h with
  | a :: l, _ => simp [nuL, byAt]
theorem nu_two {l : List UInt8} (h : 2 ≤ l.length) : nuL (l.take 2) = 256 * byAt l 0 + byAt l 1 := by
  match l, h with
  | a :: b :: l, _ => simp [nuL, byAt]; omega
/-- The stages of the reading. -/
def q1 (t : List UInt8) : List UInt8 := rsL 1 t
def q2 (t : List UInt8) : List UInt8 := rsL 1 (q1 t)
def qn (t : List UInt8) : Nat := nuL (tkL 1 (q1 t))
def q3 (t : List UInt8) : List UInt8 := rsL (qn t) (q2 t)
def q4 (t : List UInt8) : List UInt8 := rsL 2 (q3 t)
def q5 (t : List UInt8) : List UInt8 := rsL 1 (q4 t)
def qc (t : List UInt8) : Nat := nuL (tkL 1 (q4 t))
def q6 (t : List UInt8) : List UInt8 := rsL (qc t) (q5 t)
def qs (t : List UInt8) : Bool := shL (qc t) (q5 t) (shL 1 (q4 t) (shL 2 (q3 t) (shL (qn t) (q2 t) (shL 1 (q1 t) (shL 1 t false)))))
theorem read_fit {t : List UInt8} (h : fitT t = true) : qs t = false ∧ nuL (tkL 1 t) = byAt t 0 ∧ tkL (qn t) (q2 t) = (t.drop 2).take (byAt t 1) ∧ nuL (tkL 2 (q3 t)) = 256 * byAt t (byAt t 1 + 2) + byAt t (byAt t 1 + 3) ∧ tkL (qc t) (q5 t) = (t.drop (byAt t 1 + 5)).take (byAt t (byAt t 1 + 4)) ∧ t.length - (q6 t).length = sizT t ∧ (q6 t).length ≤ t.length := by
  obtain ⟨h1, h2, h3⟩ := fit_sizes h
  have e1 : q1 t = t.drop 1 := rs_ok (by omega)
  have e2 : q2 t = t.drop 2 := by unfold q2; rw [e1, rs_ok (by rw [List.length_drop]; omega), List.drop_drop]
  have en : qn t = byAt t 1 := by unfold qn; rw [e1, tk_ok (by rw [List.length_drop]; omega), nu_one (by rw [List.length_drop]; omega), byAt_drop]
  have e3 : q3 t = t.drop (byAt t 1 + 2) := by unfold q3; rw [e2, en, rs_ok (by rw [List.length_drop]; omega), List.drop_drop]; congr 1; omega
  have e4 : q4 t = t.drop (byAt t 1 + 4) := by unfold q4; rw [e3, rs_ok (by rw [List.length_drop]; omega), List.drop_drop]
  have e5 : q5 t = t.drop (byAt t 1 + 5) := by unfold q5; rw [e4, rs_ok (by rw [List.length_drop]; omega), List.drop_drop]
  have ec : qc t = byAt t (byAt t 1 + 4) := by unfold qc; rw [e4, tk_ok (by rw [List.length_drop]; omega), nu_one (by rw [List.length_drop]; omega), byAt_drop]
  have hs : sizT t = byAt t 1 + 5 + byAt t (byAt t 1 + 4) := rfl
  have e6 : q6 t = t.drop (sizT t) := by unfold q6; rw [e5, ec, rs_ok (by rw [List.length_drop]; omega), List.drop_drop, hs]
  refine ⟨?_, ?_, ?_, ?_, ?_, ?_, ?_⟩
  · unfold qs
    rw [e5, ec, e4, e3, e2, en, e1, sh_ok (n := 1) (l := t) (by omega), sh_ok (by rw [List.length_drop]; omega), sh_ok (by rw [List.length_drop]; omega), sh_ok (by rw [List.length_drop]; omega), sh_ok (by rw [List.length_drop]; omega), sh_ok (by rw [List.length_drop]; omega)]
  · rw [tk_ok (by omega), nu_one (by omega)]
  · rw [e2, en, tk_ok (by rw [List.length_drop]; omega)]
  · rw [e3, tk_ok (by rw [List.length_drop]; omega), nu_two (by rw [List.length_drop]; omega), byAt_drop, byAt_drop]
  · rw [e5, ec, tk_ok (by rw [List.length_drop]; omega)]
  · rw [e6, List.length_drop]; omega
  · rw [e6, List.length_drop]; omega
theorem read_short {t : List UInt8} (h : fitT t = false) : qs t = true := by
  unfold qs
  by_cases h1 : 2 ≤ t.length
  · have e1 : q1 t = t.drop 1 := rs_ok (by omega)
    have e2 : q2 t = t.drop 2 := by unfold q2; rw [e1, rs_ok (by rw [List.length_drop]; omega), List.drop_drop]
    have en : qn t = byAt t 1 := by unfold qn; rw [e1, tk_ok (by rw [List.length_drop]; omega), nu_one (by rw [List.length_drop]; omega), byAt_drop]
    by_cases h2 : byAt t 1 + 5 ≤ t.length
    · have e3 : q3 t = t.drop (byAt t 1 + 2) := by unfold q3; rw [e2, en, rs_ok (by rw [List.length_drop]; omega), List.drop_drop]; congr 1; omega
      have e4 : q4 t = t.drop (byAt t 1 + 4) := by unfold q4; rw [e3, rs_ok (by rw [List.length_drop]; omega), List.drop_drop]
      have e5 : q5 t = t.drop (byAt t 1 + 5) := by unfold q5; rw [e4, rs_ok (by rw [List.length_drop]; omega), List.drop_drop]
      have ec : qc t = byAt t (byAt t 1 + 4) := by unfold qc; rw [e4, tk_ok (by rw [List.length_drop]; omega), nu_one (by rw [List.length_drop]; omega), byAt_drop]
      have hs : sizT t = byAt t 1 + 5 + byAt t (byAt t 1 + 4) := rfl
      have h3 : ¬ sizT t ≤ t.length := fun hx => by rw [fit_of h1 h2 hx] at h; cases h
      rw [e5, ec]
      exact sh_no (by rw [List.length_drop]; omega)
    · by_cases hA : (q2 t).length < qn t
      · rw [sh_no (n := qn t) hA, sh_true, sh_true, sh_true]
      · have e3 : q3 t = t.drop (byAt t 1 + 2) := by
          unfold q3
          rw [rs_ok (by omega), e2, en, List.drop_drop]
          congr 1
          omega
        by_cases hB : (q3 t).length < 2
        · rw [sh_no (n := 2) hB, sh_true, sh_true]
        · have e4 : q4 t = t.drop (byAt t 1 + 4) := by unfold q4; rw [rs_ok (by omega), e3, List.drop_drop]
          rw [sh_no (n := 1) (l := q4 t) (by rw [e4, List.length_drop]; omega), sh_true]
  · have hA : shL 1 (q1 t) (shL 1 t false) = true := by
      by_cases h0 : t.length < 1
      · rw [sh_no h0, sh_true]
      · exact sh_no (by unfold q1; rw [rs_ok (by omega), List.length_drop]; omega)
    rw [hA, sh_true, sh_true, sh_true, sh_true]
end Go.Proofs.YtciflchaepchiaaDoor.Recs
