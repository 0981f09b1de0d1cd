/- Parts of several texts of mine in one file (each begins with its own remark). -/
import Derived.Test.YtibekkfbpmloiabGreatDoorHA1
import Derived.Test.YtibekkfbpmloiabGreatDoorHA10
import Derived.Test.YtibekkfbpmloiabGreatDoorHA11
import Derived.Test.YtibekkfbpmloiabGreatDoorHA2
import Derived.Test.YtibekkfbpmloiabGreatDoorHA3
import Derived.Test.YtibekkfbpmloiabGreatDoorHA4
import Derived.Test.YtibekkfbpmloiabGreatDoorHA6
import Derived.Test.YtibekkfbpmloiabGreatDoorHA9
import Derived.Test.YtibekkfbpmloiabGreatDoorChecked
import Derived.Test.YtibekkfbpmloiabGreatDoorShelf
import Derived.Test.YtibekkfbpmloiabGreatDoorProg
import Derived.Test.YtibekkfbpmloiabGreatDoorRows
import Derived.Stop.LaidErr
import Derived.StillTailTactics
import Derived.Laws.OwnMore
import Derived.BigQuiet
import Derived.BigRegion
import Derived.Deep.QuietTactic
import Derived.Deep.RegionHeld3
import Derived.Deep.Slices
import Derived.OpenShut
import Derived.ShutString
import Derived.ChangeArms
import Derived.WideShapes
import Derived.Lib.LaidTab
import Derived.Deep.Draws
import Derived.Deep.LoopGhost
import Derived.WalkKit
import Derived.WalkSpells
import Derived.WalkSmall
import Derived.Lib.OthersKept
import Derived.Lib.Hide
import Derived.Lib.Strings
import Derived.Lib.Join
import Derived.Laws.BytesArg
import Derived.WalkLawsBesides
import Derived.LaidEql
import Derived.Stop.Asserts
import Derived.Below
import Derived.Stop.LaidTwo
import Derived.ChangeVars
import Derived.Deep.DeepHandedRow
/- Layers: the error of a list, the code of errors. Conditions: the table of kinds, the sentinels (as each states). -/
namespace Go.Proofs.YtibekkfbpmloiabGreatDoor.Recs
set_option maxRecDepth 100000
open Go.RowKit Paths Errs

/-- What checkLayer answers; x: where the sentinel of long arguments lies. -/
def checkV (l : List R) (x : Addr) : Value := if 4096 < l.length then errV x else if (layerFaultL l).2 ≠ 0 then recV (layerFaultL l).1 (layerFaultL l).2 else .nilIface
theorem check_long {l : List R} {x : Addr} (h : 4096 < l.length) : checkV l x = errV x := if_pos h
theorem check_bad {l : List R} {x : Addr} {i c : Int} (h : ¬ 4096 < l.length) (hf : layerFaultL l = (i, c)) (hc : c ≠ 0) : checkV l x = recV i c := by
  unfold checkV; rw [if_neg h, hf, if_pos hc]
theorem check_ok {l : List R} {x : Addr} (h : ¬ 4096 < l.length) (hf : layerFaultL l = (0, 0)) : checkV l x = .nilIface := by
  unfold checkV; rw [if_neg h, hf, if_neg (by simp)]
theorem ret_eq {a b : Value} (h : a = b) : Ending.returned a = .returned b := by rw [h]

set_option maxHeartbeats 800000 in
theorem checkLayer_any (v : Value) (l : List R) (x : Addr) (w : World) (h : RecSl w v l) (hl : l.length ≤ 1048576) (hr : ∀ r ∈ l, r.p.size ≤ maxLen) (ht : Tab w) (hx : w.cell? ⟨0, 0, none⟩ = some (errV x)) :
    Calls Tryz.prog 77 #[v] w fun e w' => e = .returned (checkV l x) ∧ Below w.heap.size w w' := by
  have hsl := h
  obtain ⟨A, cap, rfl, hcap, h⟩ := h
  by_cases h4 : 4096 < l.length
  · have HE := Lib.hid (check_long (x := x) h4)
    have hd : decide ((4096 : Int) < (l.length : Int)) = true := by simp; omega
    unfold errV at hx HE
    go_enter Tryz.func77, Tryz.ntmps77
    go_wp2_with fail
    go_ret
    exact ⟨ret_eq HE.out.symm, Below.refl _ _⟩
  have hd : decide ((4096 : Int) < (l.length : Int)) = false := by simp; omega
  have HSl := Lib.hid hsl
  have H := Lib.hid h
  have HT := Lib.hid ht
  have H4 := Lib.hid h4
  clear h hsl ht hx h4
  go_enter Tryz.func77, Tryz.ntmps77
  go_wp2
  go_loopw [12] (fun i wr => ∃ k : Nat, k ≤ l.length ∧ i = .int .i64 k ∧ Hid (layerFaultL l = faultFrom l k) ∧ Hid (∀ j (h : j < l.length), j < k → codeAt l j l[j] = 0) ∧ Below w.heap.size w wr) (fun i _ => l.length - (intOf i).toNat)
  case atStart => exact ⟨0, by omega, rfl, rfl, fun j h hj => by omega, Below.refl _ _⟩
  case round =>
    obtain ⟨k, hk, rfl, HK, HC, hbw⟩ := hrel
    by_cases hlt : k < l.length
    · obtain ⟨b, off, rfl, hb, hcell⟩ := H.out (by omega)
      obtain ⟨c0, c1, c2, c3, c4⟩ := (hcell k l[k] (by simp [hlt])).below hbw hb
      have hi1 : (k : Int) < (l.length : Int) := by omega
      have hi0 : (0 : Int) ≤ (k : Int) := by omega
      clear hcell
      go_wp2_with fail
      have a0 : (wr.alloc (.cells #[.int .i64 l[k].k, .string l[k].p, .string l[k].b, .int .i64 l[k].m, .bool l[k].o] 53)).cell? ⟨wr.heap.size, 0, none⟩ = some (.int .i64 l[k].k) := by go_simp
      have a1 : (wr.alloc (.cells #[.int .i64 l[k].k, .string l[k].p, .string l[k].b, .int .i64 l[k].m, .bool l[k].o] 53)).cell? ⟨wr.heap.size, 1, none⟩ = some (.string l[k].p) := by go_simp
      have a2 : (wr.alloc (.cells #[.int .i64 l[k].k, .string l[k].p, .string l[k].b, .int .i64 l[k].m, .bool l[k].o] 53)).cell? ⟨wr.heap.size, 2, none⟩ = some (.string l[k].b) := by go_simp
      have a3 : (wr.alloc (.cells #[.int .i64 l[k].k, .string l[k].p, .string l[k].b, .int .i64 l[k].m, .bool l[k].o] 53)).cell? ⟨wr.heap.size, 3, none⟩ = some (.int .i64 l[k].m) := by go_simp
      have a4 : (wr.alloc (.cells #[.int .i64 l[k].k, .string l[k].p, .string l[k].b, .int .i64 l[k].m, .bool l[k].o] 53)).cell? ⟨wr.heap.size, 4, none⟩ = some (.bool l[k].o) := by go_simp
      have hbA : Below w.heap.size w (wr.alloc (.cells #[.int .i64 l[k].k, .string l[k].p, .string l[k].b, .int .i64 l[k].m, .bool l[k].o] 53)) := hbw.alloc hbw.size _
      generalize wr.alloc (.cells #[.int .i64 l[k].k, .string l[k].p, .string l[k].b, .int .i64 l[k].m, .bool l[k].o] 53) = W at *
      have hi2 : (k : Int) ≤ (cap : Int) := by omega
      have hi3 : k ≤ cap := by omega
      have hi4 : ¬ ((k : Int) < 0) := by omega
      have hi5 : ¬ ((cap : Int) < (k : Int)) := by omega
      go_still_tail 4, (by kernel_rfl)
      change wpList _ _ _ _ _ W.drew
      have hbA' : Below w.heap.size w W.drew := hbA.drew
      clear hbA c0 c1 c2 c3 c4
      generalize W.drew = W2 at *
      have hslr := (HSl.out.below hbA').take (k := k) (by omega)
      have hq := hr l[k] (List.getElem_mem hlt)
      have htr := HT.out.below hbA' (Nat.le_refl _)
      go_wp2_with fail
      refine (faultBehind_any _ (l.take k) l[k] _ (by exact hslr) (by rw [List.length_take]; omega) hq (fun r hm => hr r (List.mem_of_mem_take hm)) htr).mono ?_
      rintro e w1 ⟨rfl, hb1⟩
      rw [beh_code hlt HC.out]
      have hbw1 := hbA'.trans (hb1.mono hbA'.size)
      by_cases hc : codeAt l k l[k] = 0
      · have HF := Lib.hid (HK.out.trans (faultFrom_good hlt hc))
        have HA := all_next HC.out hlt hc
        rw [hc]
        go_wp2_with fail
        exact ⟨⟨k + 1, by omega, by go_num, HF, HA, hbw1⟩, by simp [intOf]; omega⟩
      · have HE := Lib.hid (check_bad (x := x) H4.out (HK.out.trans (faultFrom_bad hlt hc)) hc)
        have hd2 : (codeAt l k l[k] != 0) = true := by simpa using hc
        unfold recV at HE
        clear hc
        go_wp2_with fail
        go_ret
        exact ⟨ret_eq HE.out.symm, hbw1⟩
    · obtain rfl : k = l.length := by omega
      have HE := Lib.hid (check_ok (x := x) H4.out (HK.out.trans (faultFrom_end (Nat.le_refl _))))
      go_wp2
      go_ret
      exact ⟨ret_eq HE.out.symm, hbw⟩

theorem layerOK_impl (v : Value) (l : List R) (x : Addr) (w : World) (h : RecSl w v l) (hl : l.length ≤ 1048576) (hr : ∀ r ∈ l, r.p.size ≤ maxLen) (ht : Tab w) (hx : w.cell? ⟨0, 0, none⟩ = some (errV x)) :
    Calls Tryz.prog 23 #[v] w fun e w' => e = .returned (.bool (decide (l.length ≤ 4096) && layerOK l)) ∧ Below w.heap.size w w' := by
  have HC := checkLayer_any v l x w h hl hr ht hx
  obtain ⟨A, cap, rfl, hcap, _⟩ := h
  unfold checkV at HC
  by_cases h4 : 4096 < l.length
  · rw [if_pos h4] at HC
    have HE : Hid ((decide (l.length ≤ 4096) && layerOK l) = false) := by show _ = _; rw [decide_eq_false (by omega)]; rfl
    unfold errV at HC
    go_enter Tryz.func23, Tryz.ntmps23
    go_wp2_with fail
    refine HC.mono ?_
    rintro e w1 ⟨rfl, hb1⟩
    go_wp2_with fail
    go_ret
    exact ⟨ret_bool HE.out.symm, hb1⟩
  rw [if_neg h4] at HC
  by_cases hf : (layerFaultL l).2 = 0
  · rw [if_neg (by simpa using hf)] at HC
    have HE : Hid ((decide (l.length ≤ 4096) && layerOK l) = true) := by show _ = _; rw [decide_eq_true (by omega)]; simpa [layerOK] using hf
    clear hf
    go_enter Tryz.func23, Tryz.ntmps23
    go_wp2_with fail
    refine HC.mono ?_
    rintro e w1 ⟨rfl, hb1⟩
    go_wp2_with fail
    go_ret
    exact ⟨ret_bool HE.out.symm, hb1⟩
  · rw [if_pos hf] at HC
    have HE : Hid ((decide (l.length ≤ 4096) && layerOK l) = false) := by show _ = _; rw [decide_eq_true (by omega)]; simpa [layerOK] using hf
    clear hf
    unfold recV at HC
    go_enter Tryz.func23, Tryz.ntmps23
    go_wp2_with fail
    refine HC.mono ?_
    rintro e w1 ⟨rfl, hb1⟩
    go_wp2_with fail
    go_ret
    exact ⟨ret_bool HE.out.symm, hb1⟩
end Go.Proofs.YtibekkfbpmloiabGreatDoor.Recs

/- Layers: LayerFault and LayerOK of the model. -/
namespace Go.Proofs.YtibekkfbpmloiabGreatDoor.Recs
set_option maxRecDepth 100000
open Go.RowKit Paths

theorem l03OK_any (v : Value) (l : List R) (w : World) (h : RecSl w v l) (hl : l.length ≤ 1048576) :
    Calls Tryz.prog 65 #[v] w fun e w' => e = .returned (.bool (layerOK l)) ∧ Below w.heap.size w w' := by
  have HC := l03Fault_any v l w h hl
  obtain ⟨A, cap, rfl, hcap, _⟩ := h
  go_enter Tryz.func65, Tryz.ntmps65
  go_wp2_with fail
  refine HC.mono ?_
  rintro e w1 ⟨rfl, hb1⟩
  go_wp2_with fail
  go_ret
  exact ⟨rfl, hb1⟩

end Go.Proofs.YtibekkfbpmloiabGreatDoor.Recs

/- Layers: comparison of two lists of records, of the program and of its model. -/
namespace Go.Proofs.YtibekkfbpmloiabGreatDoor.Recs
set_option maxRecDepth 100000
open Go.RowKit Paths

instance decR : DecidableEq R := fun x y =>
  if h : x.k = y.k ∧ x.m = y.m ∧ x.p = y.p ∧ x.b = y.b ∧ x.o = y.o then isTrue (by cases x; cases y; simp_all) else isFalse (fun e => h (by subst e; simp))
/-- Two records are alike, or one field is the first that is not. -/
theorem five (x y : R) : (x.k == y.k) = false ∨ ((x.k == y.k) = true ∧ (x.p.toList == y.p.toList) = false) ∨ ((x.k == y.k) = true ∧ (x.p.toList == y.p.toList) = true ∧ (x.b.toList == y.b.toList) = false) ∨
    ((x.k == y.k) = true ∧ (x.p.toList == y.p.toList) = true ∧ (x.b.toList == y.b.toList) = true ∧ (x.m == y.m) = false) ∨ ((x.k == y.k) = true ∧ (x.p.toList == y.p.toList) = true ∧ (x.b.toList == y.b.toList) = true ∧ (x.m == y.m) = true ∧ (x.o == y.o) = false) ∨
    ((x.k == y.k) = true ∧ (x.p.toList == y.p.toList) = true ∧ (x.b.toList == y.b.toList) = true ∧ (x.m == y.m) = true ∧ (x.o == y.o) = true) := by
  cases (x.k == y.k) <;> cases (x.p.toList == y.p.toList) <;> cases (x.b.toList == y.b.toList) <;> cases (x.m == y.m) <;> cases (x.o == y.o) <;> simp
end Go.Proofs.YtibekkfbpmloiabGreatDoor.Recs

/- The program's table of kinds: what the row's condition says of it. -/
namespace Go.Proofs.YtibekkfbpmloiabGreatDoor.Recs
set_option maxRecDepth 100000
open Go.RowKit Paths Go.WideShapes Go.ChangeShapes

section
variable {H : Type} {enc : TypeId × Value → H} {w : World} {base : Nat} {spare : Nat → Bool} {held : Bool}
theorem cRule : Tryz.prog.cellsOf 234 = 4 := by kernel_rfl
theorem cRules : Tryz.prog.cellsOf 235 = 20 := by kernel_rfl

def ruleD (a b c d : Bool) : DataW H := .agg [.lit (.bool a), .lit (.bool b), .lit (.bool c), .lit (.bool d)]
theorem rule_of_trod {fuel : Nat} {cs : List Value} {a b c d : Bool} {q : List MemPlace} (h : DataW.trod enc Tryz.prog w base spare held fuel 234 cs = some (ruleD a b c d, q)) : cs = [.bool a, .bool b, .bool c, .bool d] := by
  obtain ⟨xs, n, _, hx, hl, hxl, hg⟩ := DataW.trod_struct Tryz.underlying234 h
  rw [cRule] at hl
  have g0 : DataW.trod enc Tryz.prog w base spare held n 4 ((cs.drop 0).take 1) = xs[0]? := by have g := hg 0 _ rfl; change DataW.trod enc Tryz.prog w base spare held n 4 ((cs.drop 0).take (Tryz.prog.cellsOf 4)) = xs[0]? at g; rw [cB] at g; exact g
  have g1 : DataW.trod enc Tryz.prog w base spare held n 4 ((cs.drop 1).take 1) = xs[1]? := by have g := hg 1 _ rfl; change DataW.trod enc Tryz.prog w base spare held n 4 ((cs.drop 1).take (Tryz.prog.cellsOf 4)) = xs[1]? at g; rw [cB] at g; exact g
  have g2 : DataW.trod enc Tryz.prog w base spare held n 4 ((cs.drop 2).take 1) = xs[2]? := by have g := hg 2 _ rfl; change DataW.trod enc Tryz.prog w base spare held n 4 ((cs.drop 2).take (Tryz.prog.cellsOf 4)) = xs[2]? at g; rw [cB] at g; exact g
  have g3 : DataW.trod enc Tryz.prog w base spare held n 4 ((cs.drop 3).take 1) = xs[3]? := by have g := hg 3 _ rfl; change DataW.trod enc Tryz.prog w base spare held n 4 ((cs.drop 3).take (Tryz.prog.cellsOf 4)) = xs[3]? at g; rw [cB] at g; exact g
  match cs, hl, xs, hxl with
  | [c0, c1, c2, c3], _, [y0, y1, y2, y3], _ =>
    obtain ⟨o0, e0, f0⟩ := DataW.trod_bool Tryz.underlying4 (show DataW.trod enc Tryz.prog w base spare held n 4 [c0] = some y0 from g0)
    obtain ⟨o1, e1, f1⟩ := DataW.trod_bool Tryz.underlying4 (show DataW.trod enc Tryz.prog w base spare held n 4 [c1] = some y1 from g1)
    obtain ⟨o2, e2, f2⟩ := DataW.trod_bool Tryz.underlying4 (show DataW.trod enc Tryz.prog w base spare held n 4 [c2] = some y2 from g2)
    obtain ⟨o3, e3, f3⟩ := DataW.trod_bool Tryz.underlying4 (show DataW.trod enc Tryz.prog w base spare held n 4 [c3] = some y3 from g3)
    simp only [List.cons.injEq, and_true] at e0 e1 e2 e3
    subst e0 e1 e2 e3 f0 f1 f2 f3
    simp [ruleD] at hx
    obtain ⟨⟨rfl, rfl, rfl, rfl⟩, _⟩ := hx
    rfl
theorem rules_of_trod {fuel : Nat} {cs : List Value} {q : List MemPlace} (h : DataW.trod enc Tryz.prog w base spare held fuel 235 cs = some (.agg [ruleD false false false false, ruleD true false true false, ruleD true true false false, ruleD false false true true, ruleD false false false false], q)) : cs = cells.toList := by
  obtain ⟨xs, n, _, hx, hl, hxl, hg⟩ := DataW.trod_array Tryz.underlying235 h
  rw [cRules] at hl
  rw [cRule] at hg
  have g0 := hg 0 (by decide)
  have g1 := hg 1 (by decide)
  have g2 := hg 2 (by decide)
  have g3 := hg 3 (by decide)
  have g4 := hg 4 (by decide)
  match cs, hl, xs, hxl with
  | [c0, c1, c2, c3, c4, c5, c6, c7, c8, c9, c10, c11, c12, c13, c14, c15, c16, c17, c18, c19], _, [⟨y0, z0⟩, ⟨y1, z1⟩, ⟨y2, z2⟩, ⟨y3, z3⟩, ⟨y4, z4⟩], _ =>
    simp only [Prod.mk.injEq, List.map_cons, List.map_nil, DataW.agg.injEq, List.cons.injEq, and_true] at hx
    obtain ⟨⟨h0, h1, h2, h3, h4⟩, _⟩ := hx
    obtain rfl := h0
    have r0 := rule_of_trod (show DataW.trod enc Tryz.prog w base spare held n 234 [c0, c1, c2, c3] = some (ruleD false false false false, z0) from g0)
    simp only [List.cons.injEq, and_true] at r0
    obtain ⟨rfl, rfl, rfl, rfl⟩ := r0
    obtain rfl := h1
    have r1 := rule_of_trod (show DataW.trod enc Tryz.prog w base spare held n 234 [c4, c5, c6, c7] = some (ruleD true false true false, z1) from g1)
    simp only [List.cons.injEq, and_true] at r1
    obtain ⟨rfl, rfl, rfl, rfl⟩ := r1
    obtain rfl := h2
    have r2 := rule_of_trod (show DataW.trod enc Tryz.prog w base spare held n 234 [c8, c9, c10, c11] = some (ruleD true true false false, z2) from g2)
    simp only [List.cons.injEq, and_true] at r2
    obtain ⟨rfl, rfl, rfl, rfl⟩ := r2
    obtain rfl := h3
    have r3 := rule_of_trod (show DataW.trod enc Tryz.prog w base spare held n 234 [c12, c13, c14, c15] = some (ruleD false false true true, z3) from g3)
    simp only [List.cons.injEq, and_true] at r3
    obtain ⟨rfl, rfl, rfl, rfl⟩ := r3
    obtain rfl := h4
    have r4 := rule_of_trod (show DataW.trod enc Tryz.prog w base spare held n 234 [c16, c17, c18, c19] = some (ruleD false false false false, z4) from g4)
    simp only [List.cons.injEq, and_true] at r4
    obtain ⟨rfl, rfl, rfl, rfl⟩ := r4
    rfl
end

theorem tab_of_cells {n : String} {W : World} {cs : Array Value} (hg : Tryz.prog.globalNamed n = some 2) (hv : W.var? Tryz.prog n = some cs) (hc : cs.toList = cells.toList) : Tab W := by
  have e : cs = cells := by
    apply Array.ext'
    rw [hc]
  subst e
  simp only [World.var?, hg, Option.bind_some] at hv
  split at hv
  · rename_i c t fr hb
    cases hv
    exact ⟨t, fr, hb⟩
  · cases hv

theorem gTab : Tryz.prog.globalNamed "loop.example/g00798/impl.kindRules" = some 2 := by kernel_rfl
theorem gTabType : (Tryz.prog.globals[(2 : Nat)]?).map (·.type) = some 235 := by kernel_rfl
/-- What a row's list gives: the table holds what its own initialiser lays. -/
theorem table {W : World} (h : laidMetH Tryz.prog [("loop.example/g00798/impl.kindRules", Rows.laid_loop_example_g00798_impl_kindRules)] W) : Tab W := by
  obtain ⟨ps, ⟨g', t', cs, fuel, p, q, hg', ht', hvar, hd, _, _⟩, _⟩ := (show laidMet Tryz.prog [("loop.example/g00798/impl.kindRules", Rows.laid_loop_example_g00798_impl_kindRules)] W from h)
  obtain rfl := Option.some.inj (gTab.symm.trans hg')
  obtain rfl := Option.some.inj (gTabType.symm.trans ht')
  exact tab_of_cells hg' hvar (rules_of_trod hd)
end Go.Proofs.YtibekkfbpmloiabGreatDoor.Recs

/- What the rows' lists give: the table of kinds, the two sentinels. -/
namespace Go.Proofs.YtibekkfbpmloiabGreatDoor.Recs
set_option maxRecDepth 100000
open Go.RowKit Paths Errs

theorem gLong : Tryz.prog.globalNamed "loop.example/g00798/impl.errTooLong" = some 0 := by kernel_rfl
theorem gLongType : (Tryz.prog.globals[(0 : Nat)]?).map (·.type) = some 83 := by kernel_rfl
theorem gBad : Tryz.prog.globalNamed "loop.example/g00798/impl.errInvalid" = some 1 := by kernel_rfl
theorem gBadType : (Tryz.prog.globals[(1 : Nat)]?).map (·.type) = some 83 := by kernel_rfl

theorem star : "*" ++ "errors.errorString" = "*errors.errorString" := by decide
theorem rowErr (u : TypeId) (h : Tryz.prog.typeName? 3 u = some "*errors.errorString") : u = 277 :=
  typeName_ptr_named (nm := "errors.errorString") (by rw [star]; kernel_rfl) (by kernel_rfl) (by decide) u (by rw [star]; exact h)

section
variable {H : Type} {enc : TypeId × Value → H} {P : Program} {w : World} {spare : Nat → Bool}
theorem vars2 {a b : String} {gs : List (DataW H)} {ps : List MemPlace} (h : DataW.TrodVars enc P w spare [a, b] gs ps) : ∃ x y, gs = [x, y] := by
  cases gs with
  | nil => exact h.elim
  | cons x t =>
    obtain ⟨_, _, _, _, _, q, _, _, _, _, h2, _⟩ := h
    cases t with
    | nil => exact h2.elim
    | cons y t =>
      obtain ⟨_, _, _, _, _, q, _, _, _, _, h3, _⟩ := h2
      cases t with
      | nil => exact ⟨x, y, rfl⟩
      | cons z t => exact h3.elim
theorem vars3 {a b c : String} {gs : List (DataW H)} {ps : List MemPlace} (h : DataW.TrodVars enc P w spare [a, b, c] gs ps) : ∃ x y z, gs = [x, y, z] := by
  cases gs with
  | nil => exact h.elim
  | cons x t =>
    obtain ⟨_, _, _, _, _, q, _, _, _, _, h2, _⟩ := h
    obtain ⟨y, z, rfl⟩ := vars2 h2
    exact ⟨x, y, z, rfl⟩
end

/-- The table, and the first sentinel. -/
structure Two (w : World) : Prop where
  tab : Tab w
  long : ∃ x, w.cell? ⟨0, 0, none⟩ = some (errV x)
theorem Two.below {w w' : World} {B : Nat} (h : Two w) (hb : Below B w w') (hB : w.heap.size ≤ B) : Two w' := by
  obtain ⟨x, hx⟩ := h.long
  exact ⟨h.tab.below hb hB, x, (hb.cell (p := ⟨0, 0, none⟩) (Nat.lt_of_lt_of_le (World.block_lt_of_cell? w _ hx) hB)).trans hx⟩

/-- The table, and the two sentinels: two pointers into rows of which nothing is frozen. -/
structure Three (w : World) (x y : Addr) : Prop where
  tab : Tab w
  long : w.cell? ⟨0, 0, none⟩ = some (errV x)
  bad : w.cell? ⟨1, 0, none⟩ = some (errV y)
  ne : x ≠ y
  rowx : ∃ c t, w.heap[x.block]? = some (.cells c t (0, 0))
  rowy : ∃ c t, w.heap[y.block]? = some (.cells c t (0, 0))
theorem Three.below {w w' : World} {B : Nat} {x y : Addr} (h : Three w x y) (hb : Below B w w') (hB : w.heap.size ≤ B) : Three w' x y := by
  obtain ⟨cx, tx, hx⟩ := h.rowx
  obtain ⟨cy, ty, hy⟩ := h.rowy
  exact ⟨h.tab.below hb hB, (hb.cell (p := ⟨0, 0, none⟩) (Nat.lt_of_lt_of_le (World.block_lt_of_cell? w _ h.long) hB)).trans h.long,
    (hb.cell (p := ⟨1, 0, none⟩) (Nat.lt_of_lt_of_le (World.block_lt_of_cell? w _ h.bad) hB)).trans h.bad, h.ne,
    ⟨cx, tx, (hb.block _ (Nat.lt_of_lt_of_le (Array.getElem?_eq_some_iff.1 hx).1 hB)).trans hx⟩, ⟨cy, ty, (hb.block _ (Nat.lt_of_lt_of_le (Array.getElem?_eq_some_iff.1 hy).1 hB)).trans hy⟩⟩

theorem three_of {W : World} (hm : laidMet Tryz.prog [("loop.example/g00798/impl.kindRules", Rows.laid_loop_example_g00798_impl_kindRules), ("loop.example/g00798/impl.errTooLong", Rows.laid_loop_example_g00798_impl_errTooLong), ("loop.example/g00798/impl.errInvalid", Rows.laid_loop_example_g00798_impl_errInvalid)] W) : ∃ x y, Three W x y := by
  obtain ⟨x, y, s0, s1, c0, c1, t0, t1, hv0, hv1, hc0, hs0, hz0, hc1, hs1, hz1, hne, hb0, hb1⟩ := laid_sentinels2 hm.tail gLong gLongType gBad gBadType Tryz.underlying83 rowErr Tryz.underlying277 Tryz.underlying300 rfl rfl Tryz.underlying9 (by kernel_rfl) (by kernel_rfl)
  refine ⟨x, y, ?_, ?_, ?_, hne, ⟨_, _, hb0⟩, ⟨_, _, hb1⟩⟩
  · obtain ⟨ps, ⟨g', t', cs, fuel, p, q, hg', ht', hvar, hd, _, _⟩, _⟩ := hm
    obtain rfl := Option.some.inj (gTab.symm.trans hg')
    obtain rfl := Option.some.inj (gTabType.symm.trans ht')
    exact tab_of_cells hg' hvar (rules_of_trod hd)
  · rw [World.var?_cell gLong hv0 0]
    rfl
  · rw [World.var?_cell gBad hv1 0]
    rfl
theorem laid3 {W : World} (h : laidMetH Tryz.prog [("loop.example/g00798/impl.kindRules", Rows.laid_loop_example_g00798_impl_kindRules), ("loop.example/g00798/impl.errTooLong", Rows.laid_loop_example_g00798_impl_errTooLong), ("loop.example/g00798/impl.errInvalid", Rows.laid_loop_example_g00798_impl_errInvalid)] W) : ∃ x y, Three W x y :=
  three_of (show laidMet Tryz.prog _ W from h)
end Go.Proofs.YtibekkfbpmloiabGreatDoor.Recs

/- The code of the errors of a call's arguments. Conditions: the table of kinds, the two sentinels. -/
namespace Go.Proofs.YtibekkfbpmloiabGreatDoor.Recs
set_option maxRecDepth 100000
open Go.RowKit Paths Errs

/-- An error that a check hands back: none, the sentinel of long arguments, or the one that names a record. -/
inductive EK where
  | fine
  | long
  | bad (i c : Int)
def EK.val (x : Addr) : EK → Value
  | .fine => .nilIface
  | .long => errV x
  | .bad i c => recV i c
def argFrom : List EK → Int → Int
  | [], c => c
  | .fine :: t, c => argFrom t c
  | .long :: _, _ => 2
  | .bad _ _ :: t, _ => argFrom t 1
theorem arg_end {L : List EK} {k : Nat} {c : Int} (h : L.length ≤ k) : argFrom (L.drop k) c = c := by rw [List.drop_eq_nil_of_le h]; rfl
theorem arg_fine {L : List EK} {k : Nat} {c : Int} (h : k < L.length) (he : L[k] = .fine) : argFrom (L.drop k) c = argFrom (L.drop (k + 1)) c := by rw [List.drop_eq_getElem_cons h, he]; rfl
theorem arg_long {L : List EK} {k : Nat} {c : Int} (h : k < L.length) (he : L[k] = .long) : argFrom (L.drop k) c = 2 := by rw [List.drop_eq_getElem_cons h, he]; rfl
theorem arg_bad {L : List EK} {k : Nat} {c i d : Int} (h : k < L.length) (he : L[k] = .bad i d) : argFrom (L.drop k) c = argFrom (L.drop (k + 1)) 1 := by rw [List.drop_eq_getElem_cons h, he]; rfl

set_option maxHeartbeats 1600000 in
theorem argumentCode_any (g : Nat) (L : List EK) (x y : Addr) (w : World) (hT : Three w x y) (hg : g < w.heap.size) (hn : L.length ≤ 1000) (hc : ∀ k (h : k < L.length), w.cell? ⟨g, k, none⟩ = some (L[k].val x)) :
    Calls Tryz.prog 69 #[.slice (some ⟨g, 0, none⟩) L.length L.length] w fun e w' => e = .returned (.int .i64 (argFrom L 0)) ∧ Below w.heap.size w w' := by
  have HC := Lib.hid hc
  have HT := Lib.hid hT
  clear hc hT
  go_enter Tryz.func69, Tryz.ntmps69
  go_wp2
  go_loopw [3, 8] (fun c i wr => ∃ (k : Nat) (d : Int), k ≤ L.length ∧ i = .int .i64 k ∧ c = .int .i64 d ∧ Hid (argFrom L 0 = argFrom (L.drop k) d) ∧ Below w.heap.size w wr) (fun _ i _ => L.length - (intOf i).toNat)
  case atStart => exact ⟨0, 0, by omega, rfl, rfl, rfl, Below.refl _ _⟩
  case round =>
    obtain ⟨k, d, hk, rfl, rfl, HK, hbw⟩ := hrel
    by_cases hlt : k < L.length
    · have hcell : wr.cell? ⟨g, k, none⟩ = some (L[k].val x) := (hbw.cell (p := ⟨g, k, none⟩) hg).trans (HC.out k hlt)
      have hTr := HT.out.below hbw (Nat.le_refl _)
      have hx := hTr.long
      have hy := hTr.bad
      have hi1 : (k : Int) < (L.length : Int) := by omega
      have hi0 : (0 : Int) ≤ (k : Int) := by omega
      cases hE : L[k] with
      | fine =>
        have HF := Lib.hid (HK.out.trans (arg_fine hlt hE))
        rw [hE] at hcell
        unfold EK.val at hcell
        have H1 := is_nil x wr
        have H2 := is_nil y wr
        unfold errV at hx hy H1 H2
        go_wp2_with fail
        refine H1.mono ?_
        rintro e w1 ⟨rfl, rfl⟩
        go_wp2_with fail
        refine H2.mono ?_
        rintro e w2 ⟨rfl, rfl⟩
        go_wp2_with fail
        exact ⟨⟨k + 1, d, by omega, by go_num, rfl, HF, hbw⟩, by simp [intOf]; omega⟩
      | long =>
        have HF := Lib.hid (HK.out.trans (arg_long hlt hE))
        rw [hE] at hcell
        unfold EK.val at hcell
        have H1 := is_same x wr
        unfold errV at hx hy H1 hcell
        go_wp2_with fail
        refine H1.mono ?_
        rintro e w1 ⟨rfl, rfl⟩
        go_wp2_with fail
        go_ret
        exact ⟨ret_int HF.out.symm, hbw⟩
      | bad i c =>
        have HF := Lib.hid (HK.out.trans (arg_bad hlt hE))
        rw [hE] at hcell
        unfold EK.val at hcell
        obtain ⟨cx, tx, rx⟩ := hTr.rowx
        obtain ⟨cy, ty, ry⟩ := hTr.rowy
        have H1 := is_rec_other i c y x _ _ _ _ wr hy (Ne.symm hTr.ne) ry rx
        have hxl := World.block_lt_of_cell? wr _ hx
        have hyl := World.block_lt_of_cell? wr _ hy
        have hye := hy
        unfold recV at hcell H1
        unfold errV at hx hy H1
        go_wp2_with fail
        refine H1.mono ?_
        rintro e w1 ⟨rfl, hb1⟩
        have hy1 : w1.cell? ⟨1, 0, none⟩ = some (errV y) := (hb1.cell (p := ⟨1, 0, none⟩) hyl).trans hye
        have H2 := is_rec_same i c y w1 hy1
        unfold recV at H2
        unfold errV at hy1 H2
        go_wp2_with fail
        refine H2.mono ?_
        rintro e w2 ⟨rfl, hb2⟩
        go_wp2_with fail
        exact ⟨⟨k + 1, 1, by omega, by go_num, rfl, HF, (hbw.trans (hb1.mono hbw.size)).trans (hb2.mono (hbw.trans (hb1.mono hbw.size)).size)⟩, by simp [intOf]; omega⟩
    · have HE := Lib.hid (HK.out.trans (arg_end (by omega)))
      go_wp2
      go_ret
      exact ⟨ret_int HE.out.symm, hbw⟩

def textK (s : ByteArray) : EK := if 65536 < s.size then .long else .fine
theorem checkText_any (s : ByteArray) (x : Addr) (w : World) (hx : w.cell? ⟨0, 0, none⟩ = some (errV x)) :
    Calls Tryz.prog 102 #[.string s] w fun e w' => e = .returned ((textK s).val x) ∧ w = w' := by
  unfold errV at hx
  by_cases h : 65536 < s.size
  · have hd : decide ((65536 : Int) < (s.size : Int)) = true := by simp; omega
    have HE : Hid ((textK s).val x = .iface 277 (.pointer (some x))) := by show _ = _; unfold textK; rw [if_pos h]; rfl
    go_enter Tryz.func102, Tryz.ntmps102
    go_wp2_with fail
    refine (longText_any s _).mono ?_
    rintro e w1 ⟨rfl, rfl⟩
    go_wp2_with fail
    go_ret
    exact ⟨ret_eq HE.out.symm, rfl⟩
  · have hd : decide ((65536 : Int) < (s.size : Int)) = false := by simp; omega
    have HE : Hid ((textK s).val x = .nilIface) := by show _ = _; unfold textK; rw [if_neg h]; rfl
    go_enter Tryz.func102, Tryz.ntmps102
    go_wp2_with fail
    refine (longText_any s _).mono ?_
    rintro e w1 ⟨rfl, rfl⟩
    go_wp2_with fail
    go_ret
    exact ⟨ret_eq HE.out.symm, rfl⟩

/-- What checkLayer answers. -/
def checkK (l : List R) : EK := if 4096 < l.length then .long else if (layerFaultL l).2 ≠ 0 then .bad (layerFaultL l).1 (layerFaultL l).2 else .fine
theorem checkK_val (l : List R) (x : Addr) : (checkK l).val x = checkV l x := by
  unfold checkK checkV
  split
  · rfl
  · split <;> rfl
/-- The code of a call with a layer and a text. -/
def codeLT (l : List R) (s : ByteArray) : Int := if 4096 < l.length ∨ 65536 < s.size then 2 else if layerOK l then 0 else 1
theorem arg_lt (l : List R) (s : ByteArray) : argFrom [checkK l, textK s] 0 = codeLT l s := by
  by_cases h1 : 4096 < l.length <;> by_cases h2 : 65536 < s.size <;> by_cases h3 : (layerFaultL l).2 = 0 <;> simp [checkK, textK, codeLT, argFrom, layerOK, h1, h2, h3]
end Go.Proofs.YtibekkfbpmloiabGreatDoor.Recs
