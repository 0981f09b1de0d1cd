/- Parts of several texts of mine in one file (each begins with its own remark). -/
import Derived.Test.YtciflchaepchiaaDoorDA2
import Derived.Test.YtciflchaepchiaaDoorDA3
import Derived.Test.YtciflchaepchiaaDoorDA4
import Derived.Test.YtciflchaepchiaaDoorChecked
import Derived.Test.YtciflchaepchiaaDoorShelf
import Derived.Test.YtciflchaepchiaaDoorProg
import Derived.Test.YtciflchaepchiaaDoorRows
import Derived.BigQuiet
import Derived.Deep.QuietTactic
import Derived.Deep.RegionHeld3
import Derived.StillTailTactics
import Derived.Deep.Draws
import Derived.Deep.LoopGhost
import Derived.WalkKit
import Derived.WalkSpells
import Derived.WalkSmall
import Derived.Lib.OthersKept
import Derived.Lib.Hide
import Derived.Lib.Strings
import Derived.Deep.Slices
import Derived.OpenShut
import Derived.ShutString
import Derived.ChangeArms
import Derived.WideShapes
import Derived.Lib.LaidTab
import Derived.Lib.Join
import Derived.Deep.Cut
import Derived.Laws.BytesArg
import Derived.Lib.ConvBytes
import Derived.WalkLawsBesides
import Derived.Below
import Derived.Shelf.Strings.Builder1
import Derived.Stop.LaidErr
import Derived.Laws.OwnMore
import Derived.BigRegion
import Derived.LaidEql
import Derived.Stop.Asserts
import Derived.Stop.LaidTwo
import Derived.ChangeVars
import Derived.Deep.DeepHandedRow
/- Records: RecordOK, and what makes a record, of the program and of its model. Condition (of the program's): its table of kinds holds what its own initialiser lays. -/
namespace Go.Proofs.YtciflchaepchiaaDoor.Recs
open Go.RowKit Paths

/-! ### Making a record -/
def zI (c k : Int) : Int := if c = 0 then k else 0
def zS (c : Int) (s : ByteArray) : ByteArray := if c = 0 then s else ⟨#[]⟩
def zB (c : Int) (o : Bool) : Bool := if c = 0 then o else false
theorem zI_no {c : Int} (h : c ≠ 0) (k : Int) : zI c k = 0 := if_neg h
theorem zS_no {c : Int} (h : c ≠ 0) (s : ByteArray) : zS c s = ⟨#[]⟩ := if_neg h
theorem zB_no {c : Int} (h : c ≠ 0) (o : Bool) : zB c o = false := if_neg h
theorem zI_yes {c : Int} (h : c = 0) (k : Int) : zI c k = k := if_pos h
theorem zS_yes {c : Int} (h : c = 0) (s : ByteArray) : zS c s = s := if_pos h
theorem zB_yes {c : Int} (h : c = 0) (o : Bool) : zB c o = o := if_pos h
def makeC (k m : Int) (p b : ByteArray) (o : Bool) : Int := if 65536 < p.size ∨ 65536 < b.size then 2 else faultI k p.data.toList b.size m o
def madeV (c k m : Int) (p b : ByteArray) (o : Bool) : Value := .tuple #[.agg #[.int .i64 (zI c k), .string (zS c p), .string (zS c b), .int .i64 (zI c m), .bool (zB c o)], .int .i64 c]
theorem madeV_no {c k m : Int} {p b : ByteArray} {o : Bool} (h : c ≠ 0) : madeV c k m p b o = .tuple #[.agg #[.int .i64 0, .string ⟨#[]⟩, .string ⟨#[]⟩, .int .i64 0, .bool false], .int .i64 c] := by
  unfold madeV; rw [zI_no h, zI_no h, zS_no h, zS_no h, zB_no h]
theorem madeV_yes {k m : Int} {p b : ByteArray} {o : Bool} : madeV 0 k m p b o = .tuple #[.agg #[.int .i64 k, .string p, .string b, .int .i64 m, .bool o], .int .i64 0] := by
  unfold madeV; rw [zI_yes rfl, zI_yes rfl, zS_yes rfl, zS_yes rfl, zB_yes rfl]
set_option maxHeartbeats 400000 in
theorem makeRecord_any (k m : Int) (p b : ByteArray) (o : Bool) (w : World) (hp : p.size ≤ maxLen) (ht : Tab w) :
    Calls Tryd.prog 34 #[.agg #[.int .i64 k, .string p, .string b, .int .i64 m, .bool o]] w fun e w' => e = .returned (madeV (makeC k m p b o) k m p b o) ∧ Below w.heap.size w w' := by
  by_cases h1 : 65536 < p.size
  · have HR := Lib.hid (show makeC k m p b o = 2 from if_pos (.inl h1))
    have hd : decide ((65536 : Int) < (p.size : Int)) = true := by simp; omega
    go_enter Tryd.func34, Tryd.ntmps34
    go_wp2_with (go_at_call 32; refine (longText_any _ _).mono ?_; rintro e w1 ⟨rfl, rfl⟩)
    refine bodyPost_ret (v := .tuple #[.agg #[.int .i64 0, .string ⟨#[]⟩, .string ⟨#[]⟩, .int .i64 0, .bool false], .int .i64 2]) (by simp [results, Tryd.results34, go_sem]) rfl ⟨?_, ((Below.refl _ _).alloc (Nat.le_refl _) _).alloc (by simp) _⟩
    rw [HR.out, madeV_no (by decide)]
  have hd1 : decide ((65536 : Int) < (p.size : Int)) = false := by simp; omega
  by_cases h2 : 65536 < b.size
  · have HR := Lib.hid (show makeC k m p b o = 2 from if_pos (.inr h2))
    have hd : decide ((65536 : Int) < (b.size : Int)) = true := by simp; omega
    go_enter Tryd.func34, Tryd.ntmps34
    go_wp2_with (go_at_call 32; refine (longText_any _ _).mono ?_; rintro e w1 ⟨rfl, rfl⟩)
    refine bodyPost_ret (v := .tuple #[.agg #[.int .i64 0, .string ⟨#[]⟩, .string ⟨#[]⟩, .int .i64 0, .bool false], .int .i64 2]) (by simp [results, Tryd.results34, go_sem]) rfl ⟨?_, ((Below.refl _ _).alloc (Nat.le_refl _) _).alloc (by simp) _⟩
    rw [HR.out, madeV_no (by decide)]
  have hd2 : decide ((65536 : Int) < (b.size : Int)) = false := by simp; omega
  have HR := Lib.hid (show makeC k m p b o = faultI k p.data.toList b.size m o from if_neg (by omega))
  by_cases h3 : faultI k p.data.toList b.size m o = 0
  · have H3 := Lib.hid h3
    have hd3 : (faultI k p.data.toList b.size m o == 0) = true := by simpa using h3
    have hd4 : (faultI k p.data.toList b.size m o != 0) = false := by simpa using h3
    clear h3
    go_enter Tryd.func34, Tryd.ntmps34
    go_wp2_with (go_at_call 32; refine (longText_any _ _).mono ?_; rintro e w1 ⟨rfl, rfl⟩)
    refine (recordFault_impl k m p b o _ hp (ht.below (((Below.refl _ _).alloc (Nat.le_refl _) _).alloc (by simp) _) (Nat.le_refl _))).mono ?_
    rintro e w1 ⟨rfl, hb1⟩
    obtain ⟨hc, hf⟩ := bcell hb1
    have hz : w.heap.size + 1 < w1.heap.size := by have := hb1.size; simp at this; omega
    go_wp2_with fail
    refine bodyPost_ret (v := .tuple #[.agg #[.int .i64 k, .string p, .string b, .int .i64 m, .bool o], .int .i64 0]) (by simp [results, Tryd.results34, go_sem, hc]) rfl ⟨?_, ?_⟩
    · rw [HR.out, H3.out, madeV_yes]
    · repeat (refine Below.setCell ?_ (by simp) _)
      exact (((Below.refl _ _).alloc (Nat.le_refl _) _).alloc (by simp) _).trans (hb1.mono (by simp <;> omega))
  · have hd3 : (faultI k p.data.toList b.size m o == 0) = false := by simpa using h3
    have hd4 : (faultI k p.data.toList b.size m o != 0) = true := by simpa using h3
    have H3 := Lib.hid h3
    clear h3
    go_enter Tryd.func34, Tryd.ntmps34
    go_wp2_with (go_at_call 32; refine (longText_any _ _).mono ?_; rintro e w1 ⟨rfl, rfl⟩)
    refine (recordFault_impl k m p b o _ hp (ht.below (((Below.refl _ _).alloc (Nat.le_refl _) _).alloc (by simp) _) (Nat.le_refl _))).mono ?_
    rintro e w1 ⟨rfl, hb1⟩
    obtain ⟨hc, hf⟩ := bcell hb1
    have hz : w.heap.size + 1 < w1.heap.size := by have := hb1.size; simp at this; omega
    go_wp2_with fail
    refine bodyPost_ret (v := .tuple #[.agg #[.int .i64 0, .string ⟨#[]⟩, .string ⟨#[]⟩, .int .i64 0, .bool false], .int .i64 (faultI k p.data.toList b.size m o)]) (by simp [results, Tryd.results34, go_sem, hc]) rfl ⟨?_, ?_⟩
    · rw [HR.out, madeV_no H3.out]
    · repeat (refine Below.setCell ?_ (by simp) _)
      exact (((Below.refl _ _).alloc (Nat.le_refl _) _).alloc (by simp) _).trans (hb1.mono (by simp <;> omega))

end Go.Proofs.YtciflchaepchiaaDoor.Recs

/- Records: MakeFile, MakeDir, MakeWhite, MakeLink, of the program and of its model. Condition (of the program's): its table of kinds holds what its own initialiser lays. -/
namespace Go.Proofs.YtciflchaepchiaaDoor.Recs
open Go.RowKit Paths

theorem makeC_short {k m : Int} {p b : ByteArray} {o : Bool} (h1 : ¬ 65536 < p.size) (h2 : ¬ 65536 < b.size) : makeC k m p b o = faultI k p.data.toList b.size m o := if_neg (by omega)
end Go.Proofs.YtciflchaepchiaaDoor.Recs

/- The binary encoding as plain lists of bytes: the sum, a record's bytes, a layer's bytes; the record at the head of a text; the reading of a whole layer. -/
namespace Go.Proofs.YtciflchaepchiaaDoor.Recs
open Go.RowKit Paths

/-- The byte at a place; 0 behind the end. -/
def byAt (t : List UInt8) (i : Nat) : Nat := (t[i]?.getD 0).toNat
theorem byAt_lt (t : List UInt8) (i : Nat) : byAt t i < 256 := by unfold byAt; have := (t[i]?.getD 0).toNat_lt; omega
theorem byAt_get {t : List UInt8} {i : Nat} (h : i < t.length) : byAt t i = t[i].toNat := by unfold byAt; rw [List.getElem?_eq_getElem h]; rfl
theorem byAt_drop (t : List UInt8) (k i : Nat) : byAt (t.drop k) i = byAt t (k + i) := by unfold byAt; rw [List.getElem?_drop]
/-- The record whose fields stand at the head of a text. -/
def recT (t : List UInt8) : R :=
  ⟨if byAt t 0 = 5 then 3 else byAt t 0, 256 * byAt t (byAt t 1 + 2) + byAt t (byAt t 1 + 3), ⟨((t.drop 2).take (byAt t 1)).toArray⟩, ⟨((t.drop (byAt t 1 + 5)).take (byAt t (byAt t 1 + 4))).toArray⟩, decide (byAt t 0 = 5)⟩
/-- How many bytes it takes. -/
def sizT (t : List UInt8) : Nat := byAt t 1 + 5 + byAt t (byAt t 1 + 4)
/-- It ends within the text. -/
def fitT (t : List UInt8) : Bool := decide (2 ≤ t.length) && decide (byAt t 1 + 5 ≤ t.length) && decide (sizT t ≤ t.length)
theorem siz_lt (t : List UInt8) : sizT t < 516 ∧ 5 ≤ sizT t := by
  have h1 := byAt_lt t 1
  have h2 := byAt_lt t (byAt t 1 + 4)
  unfold sizT
  omega
theorem fit_sizes {t : List UInt8} (h : fitT t = true) : 2 ≤ t.length ∧ byAt t 1 + 5 ≤ t.length ∧ sizT t ≤ t.length := by
  unfold fitT at h
  rw [Bool.and_eq_true, Bool.and_eq_true, decide_eq_true_eq, decide_eq_true_eq, decide_eq_true_eq] at h
  exact ⟨h.1.1, h.1.2, h.2⟩
theorem fit_of {t : List UInt8} (h1 : 2 ≤ t.length) (h2 : byAt t 1 + 5 ≤ t.length) (h3 : sizT t ≤ t.length) : fitT t = true := by
  unfold fitT
  rw [Bool.and_eq_true, Bool.and_eq_true, decide_eq_true_eq, decide_eq_true_eq, decide_eq_true_eq]
  exact ⟨⟨h1, h2⟩, h3⟩
theorem fit_no {t : List UInt8} (h : t.length < 2 ∨ t.length < byAt t 1 + 5 ∨ t.length < sizT t) : fitT t = false := by
  rcases Bool.eq_false_or_eq_true (fitT t) with hf | hf
  · obtain ⟨a, b, c⟩ := fit_sizes hf
    omega
  · exact hf

def recC (t : ByteArray) : Int := if 65536 < t.size then 2 else if fitT t.data.toList = false ∨ sizT t.data.toList ≠ t.size then 3 else (recT t.data.toList).fault

end Go.Proofs.YtciflchaepchiaaDoor.Recs

/- A text read step by step, plain: what is taken, what is left, whether it was too short; the record that so is read. -/
namespace Go.Proofs.YtciflchaepchiaaDoor.Recs
open Go.RowKit Paths

def tkL (n : Nat) (l : List UInt8) : List UInt8 := if l.length < n then [] else l.take n
def rsL (n : Nat) (l : List UInt8) : List UInt8 := if l.length < n then l else l.drop n
def shL (n : Nat) (l : List UInt8) (sh : Bool) : Bool := if l.length < n then true else sh
/-- The number that bytes are, the higher first. -/
def nuL (l : List UInt8) : Nat := l.foldl (fun n b => n * 256 + b.toNat) 0
theorem nu_step {l : List UInt8} {k : Nat} (hk : k < l.length) : nuL (l.take (k + 1)) = nuL (l.take k) * 256 + l[k].toNat := by
  unfold nuL
  rw [List.take_add_one, List.getElem?_eq_getElem hk, Option.toList_some, List.foldl_append]
  rfl
theorem nu_small (l : List UInt8) (h : l.length ≤ 1) : nuL l < 256 := by
  match l, h with
  | [], _ => decide
  | [b], _ => simp [nuL]; exact b.toNat_lt
theorem tk_ok {n : Nat} {l : List UInt8} (h : n ≤ l.length) : tkL n l = l.take n := if_neg (by omega)
theorem rs_ok {n : Nat} {l : List UInt8} (h : n ≤ l.length) : rsL n l = l.drop n := if_neg (by omega)
theorem sh_ok {n : Nat} {l : List UInt8} {sh : Bool} (h : n ≤ l.length) : shL n l sh = sh := if_neg (by omega)
theorem sh_no {n : Nat} {l : List UInt8} {sh : Bool} (h : l.length < n) : shL n l sh = true := if_pos h
theorem sh_true (n : Nat) (l : List UInt8) : shL n l true = true := by unfold shL; split <;> rfl
theorem nu_one {l : List UInt8} (h : 1 ≤ l.length) : nuL (l.take 1) = byAt l 0 := by
  match l, h with
  | a :: l, _ => simp [nuL, byAt]
theorem nu_two {l : List UInt8} (h : 2 ≤ l.length) : nuL (l.take 2) = 256 * byAt l 0 + byAt l 1 := by
  match l, h with
  | a :: b :: l, _ => simp [nuL, byAt]; omega
/-- The stages of the reading. -/
def q1 (t : List UInt8) : List UInt8 := rsL 1 t
def q2 (t : List UInt8) : List UInt8 := rsL 1 (q1 t)
def qn (t : List UInt8) : Nat := nuL (tkL 1 (q1 t))
def q3 (t : List UInt8) : List UInt8 := rsL (qn t) (q2 t)
def q4 (t : List UInt8) : List UInt8 := rsL 2 (q3 t)
def q5 (t : List UInt8) : List UInt8 := rsL 1 (q4 t)
def qc (t : List UInt8) : Nat := nuL (tkL 1 (q4 t))
def q6 (t : List UInt8) : List UInt8 := rsL (qc t) (q5 t)
def qs (t : List UInt8) : Bool := shL (qc t) (q5 t) (shL 1 (q4 t) (shL 2 (q3 t) (shL (qn t) (q2 t) (shL 1 (q1 t) (shL 1 t false)))))
theorem read_fit {t : List UInt8} (h : fitT t = true) : qs t = false ∧ nuL (tkL 1 t) = byAt t 0 ∧ tkL (qn t) (q2 t) = (t.drop 2).take (byAt t 1) ∧ nuL (tkL 2 (q3 t)) = 256 * byAt t (byAt t 1 + 2) + byAt t (byAt t 1 + 3) ∧ tkL (qc t) (q5 t) = (t.drop (byAt t 1 + 5)).take (byAt t (byAt t 1 + 4)) ∧ t.length - (q6 t).length = sizT t ∧ (q6 t).length ≤ t.length := by
  obtain ⟨h1, h2, h3⟩ := fit_sizes h
  have e1 : q1 t = t.drop 1 := rs_ok (by omega)
  have e2 : q2 t = t.drop 2 := by unfold q2; rw [e1, rs_ok (by rw [List.length_drop]; omega), List.drop_drop]
  have en : qn t = byAt t 1 := by unfold qn; rw [e1, tk_ok (by rw [List.length_drop]; omega), nu_one (by rw [List.length_drop]; omega), byAt_drop]
  have e3 : q3 t = t.drop (byAt t 1 + 2) := by unfold q3; rw [e2, en, rs_ok (by rw [List.length_drop]; omega), List.drop_drop]; congr 1; omega
  have e4 : q4 t = t.drop (byAt t 1 + 4) := by unfold q4; rw [e3, rs_ok (by rw [List.length_drop]; omega), List.drop_drop]
  have e5 : q5 t = t.drop (byAt t 1 + 5) := by unfold q5; rw [e4, rs_ok (by rw [List.length_drop]; omega), List.drop_drop]
  have ec : qc t = byAt t (byAt t 1 + 4) := by unfold qc; rw [e4, tk_ok (by rw [List.length_drop]; omega), nu_one (by rw [List.length_drop]; omega), byAt_drop]
  have hs : sizT t = byAt t 1 + 5 + byAt t (byAt t 1 + 4) := rfl
  have e6 : q6 t = t.drop (sizT t) := by unfold q6; rw [e5, ec, rs_ok (by rw [List.length_drop]; omega), List.drop_drop, hs]
  refine ⟨?_, ?_, ?_, ?_, ?_, ?_, ?_⟩
  · unfold qs
    rw [e5, ec, e4, e3, e2, en, e1, sh_ok (n := 1) (l := t) (by omega), sh_ok (by rw [List.length_drop]; omega), sh_ok (by rw [List.length_drop]; omega), sh_ok (by rw [List.length_drop]; omega), sh_ok (by rw [List.length_drop]; omega), sh_ok (by rw [List.length_drop]; omega)]
  · rw [tk_ok (by omega), nu_one (by omega)]
  · rw [e2, en, tk_ok (by rw [List.length_drop]; omega)]
  · rw [e3, tk_ok (by rw [List.length_drop]; omega), nu_two (by rw [List.length_drop]; omega), byAt_drop, byAt_drop]
  · rw [e5, ec, tk_ok (by rw [List.length_drop]; omega)]
  · rw [e6, List.length_drop]; omega
  · rw [e6, List.length_drop]; omega
theorem read_short {t : List UInt8} (h : fitT t = false) : qs t = true := by
  unfold qs
  by_cases h1 : 2 ≤ t.length
  · have e1 : q1 t = t.drop 1 := rs_ok (by omega)
    have e2 : q2 t = t.drop 2 := by unfold q2; rw [e1, rs_ok (by rw [List.length_drop]; omega), List.drop_drop]
    have en : qn t = byAt t 1 := by unfold qn; rw [e1, tk_ok (by rw [List.length_drop]; omega), nu_one (by rw [List.length_drop]; omega), byAt_drop]
    by_cases h2 : byAt t 1 + 5 ≤ t.length
    · have e3 : q3 t = t.drop (byAt t 1 + 2) := by unfold q3; rw [e2, en, rs_ok (by rw [List.length_drop]; omega), List.drop_drop]; congr 1; omega
      have e4 : q4 t = t.drop (byAt t 1 + 4) := by unfold q4; rw [e3, rs_ok (by rw [List.length_drop]; omega), List.drop_drop]
      have e5 : q5 t = t.drop (byAt t 1 + 5) := by unfold q5; rw [e4, rs_ok (by rw [List.length_drop]; omega), List.drop_drop]
      have ec : qc t = byAt t (byAt t 1 + 4) := by unfold qc; rw [e4, tk_ok (by rw [List.length_drop]; omega), nu_one (by rw [List.length_drop]; omega), byAt_drop]
      have hs : sizT t = byAt t 1 + 5 + byAt t (byAt t 1 + 4) := rfl
      have h3 : ¬ sizT t ≤ t.length := fun hx => by rw [fit_of h1 h2 hx] at h; cases h
      rw [e5, ec]
      exact sh_no (by rw [List.length_drop]; omega)
    · by_cases hA : (q2 t).length < qn t
      · rw [sh_no (n := qn t) hA, sh_true, sh_true, sh_true]
      · have e3 : q3 t = t.drop (byAt t 1 + 2) := by
          unfold q3
          rw [rs_ok (by omega), e2, en, List.drop_drop]
          congr 1
          omega
        by_cases hB : (q3 t).length < 2
        · rw [sh_no (n := 2) hB, sh_true, sh_true]
        · have e4 : q4 t = t.drop (byAt t 1 + 4) := by unfold q4; rw [rs_ok (by omega), e3, List.drop_drop]
          rw [sh_no (n := 1) (l := q4 t) (by rw [e4, List.length_drop]; omega), sh_true]
  · have hA : shL 1 (q1 t) (shL 1 t false) = true := by
      by_cases h0 : t.length < 1
      · rw [sh_no h0, sh_true]
      · exact sh_no (by unfold q1; rw [rs_ok (by omega), List.length_drop]; omega)
    rw [hA, sh_true, sh_true, sh_true, sh_true]
end Go.Proofs.YtciflchaepchiaaDoor.Recs

/- A reading of a text: the next bytes, the next number. No condition. -/
namespace Go.Proofs.YtciflchaepchiaaDoor.Recs
set_option maxRecDepth 100000
open Go.RowKit Paths

/-- A reading in block g: what is left, and whether more was asked for than was left. -/
def Rd (w : World) (g : Nat) (s : ByteArray) (sh : Bool) : Prop := w.heap[g]? = some (.cells #[.string s, .bool sh] 67 (0, 0))
theorem Rd.lt {w : World} {g : Nat} {s : ByteArray} {sh : Bool} (h : Rd w g s sh) : g < w.heap.size := (Array.getElem?_eq_some_iff.1 h).1
theorem Rd.below {w w' : World} {g : Nat} {s : ByteArray} {sh : Bool} (h : Rd w g s sh) (hb : Below w.heap.size w w') : Rd w' g s sh := (hb.block _ h.lt).trans h
theorem grown_of_below {w w' : World} {r : Option Nat} (h : Below w.heap.size w w') : w.grownBy w' r := ⟨h.os, h.tape, h.output, h.size, fun j hj _ => h.block j hj⟩
theorem grown_set {w : World} {g o : Nat} {v : Value} : w.grownBy (w.setCell ⟨g, o, none⟩ v) (some g) := ⟨rfl, rfl, rfl, by simp, fun j _ hj => heap_setCell_other w ⟨g, o, none⟩ j _ (fun e => hj (by simp [e]))⟩

theorem ext_take (s : ByteArray) (a b : Nat) : (s.extract a b).data.toList = (s.data.toList.drop a).take (b - a) := by
  rw [Lib.extract_data]
theorem ext_drop (s : ByteArray) (a : Nat) : (s.extract a s.size).data.toList = s.data.toList.drop a := by
  rw [ext_take, List.take_of_length_le]
  rw [List.length_drop, ← Lib.size_eq]
  exact Nat.le_refl _

theorem clone_any (s : ByteArray) (w : World) (hs : s.size ≤ 1048576) : Calls Tryd.prog 63 #[.string s] w fun e w' => e = .returned (.string s) ∧ Below w.heap.size w w' := by
  go_enter Tryd.func63, Tryd.ntmps63
  go_wp2_with fail
  refine (Tryd.stringslite_Clone s w (by omega)).mono ?_
  rintro e w1 ⟨rfl, hb1⟩
  go_wp2_with fail
  go_ret
  exact ⟨rfl, hb1⟩

set_option maxHeartbeats 800000 in
theorem text_any (g n : Nat) (s : ByteArray) (sh : Bool) (w : World) (h : Rd w g s sh) (hn : n ≤ 1000) :
    Calls Tryd.prog 49 #[.pointer (some ⟨g, 0, none⟩), .int .i64 n] w fun e w' => ∃ T Q : ByteArray, e = .returned (.string T) ∧ T.data.toList = tkL n s.data.toList ∧ Q.data.toList = rsL n s.data.toList ∧ Q.size ≤ s.size ∧ Rd w' g Q (shL n s.data.toList sh) ∧ w.grownBy w' (some g) := by
  have c0 : w.cell? ⟨g, 0, none⟩ = some (.string s) := cell_of_row w g 0 _ _ _ h
  have c1 : w.cell? ⟨g, 1, none⟩ = some (.bool sh) := cell_of_row w g 1 _ _ _ h
  have f0 : w.frozen? ⟨g, 0, none⟩ = false := frozen_of_row w g 0 _ _ h
  have f1 : w.frozen? ⟨g, 1, none⟩ = false := frozen_of_row w g 1 _ _ h
  have HR := Lib.hid h
  have hlt := h.lt
  have hsz : s.data.toList.length = s.size := (Lib.size_eq s).symm
  clear h
  by_cases hc : s.size < n
  · have hd : decide (s.size < n) = true := decide_eq_true hc
    have H1 : Hid (tkL n s.data.toList = [] ∧ rsL n s.data.toList = s.data.toList ∧ shL n s.data.toList sh = true) := by
      unfold tkL rsL shL
      rw [if_pos (by omega), if_pos (by omega), if_pos (by omega)]
      exact ⟨rfl, rfl, rfl⟩
    clear hsz hc
    go_enter Tryd.func49, Tryd.ntmps49
    go_wp2_with fail
    go_ret
    exact ⟨⟨#[]⟩, s, rfl, H1.out.1.symm, H1.out.2.1.symm, Nat.le_refl _, by rw [H1.out.2.2]; exact heap_setCell_same w g 1 _ _ (.bool true) HR.out, grown_set⟩
  · have hd : decide (s.size < n) = false := decide_eq_false hc
    have hi : (n : Int) ≤ (s.size : Int) := by omega
    have hi0 : (0 : Int) ≤ (n : Int) := by omega
    have H1 : Hid (tkL n s.data.toList = s.data.toList.take n ∧ rsL n s.data.toList = s.data.toList.drop n ∧ shL n s.data.toList sh = sh) := by
      unfold tkL rsL shL
      rw [if_neg (by omega), if_neg (by omega), if_neg (by omega)]
      exact ⟨rfl, rfl, rfl⟩
    clear hsz
    go_enter Tryd.func49, Tryd.ntmps49
    go_wp2_with fail
    refine (clone_any _ w (by simp; omega)).mono ?_
    rintro e w1 ⟨rfl, hb1⟩
    have HR1 := HR.out.below hb1
    have d0 : w1.cell? ⟨g, 0, none⟩ = some (.string s) := cell_of_row w1 g 0 _ _ _ HR1
    have e0 : w1.frozen? ⟨g, 0, none⟩ = false := frozen_of_row w1 g 0 _ _ HR1
    have HR2 := Lib.hid HR1
    have HG : Hid (w.grownBy w1 (some g)) := grown_of_below hb1
    clear HR1 hb1
    go_wp2_with fail
    go_ret
    exact ⟨s.extract 0 n, s.extract n s.size, rfl, by rw [H1.out.1, ext_take]; simp, by rw [H1.out.2.1, ext_drop], by simp, by rw [H1.out.2.2]; exact heap_setCell_same w1 g 0 _ _ (.string (s.extract n s.size)) HR2.out, grown_trans HG.out grown_set⟩

set_option maxHeartbeats 1600000 in
theorem number_any (g n : Nat) (s : ByteArray) (sh : Bool) (w : World) (h : Rd w g s sh) (hn : n ≤ 2) :
    Calls Tryd.prog 48 #[.pointer (some ⟨g, 0, none⟩), .int .i64 n] w fun e w' => e = .returned (.int .i64 (nuL (tkL n s.data.toList) : Int)) ∧ ∃ Q : ByteArray, Q.data.toList = rsL n s.data.toList ∧ Q.size ≤ s.size ∧ Rd w' g Q (shL n s.data.toList sh) ∧ w.grownBy w' (some g) := by
  have HT := text_any g n s sh w h (by omega)
  have htl : (tkL n s.data.toList).length ≤ 2 := by
    unfold tkL
    split
    · simp
    · rw [List.length_take]; omega
  have hgl := h.lt
  clear h
  go_enter Tryd.func48, Tryd.ntmps48
  go_wp2_with fail
  refine HT.mono ?_
  rintro e w1 ⟨T, Q, rfl, hT, hQ, hQs, hrd, hg⟩
  have kc := fun (w : World) => Lib.run_convert_string_bytes (P := Tryd.prog) w 9 63 5 T Tryd.underlying9 Tryd.underlying63 Tryd.underlying5
  have hB0 : Below w1.heap.size w1 (Lib.bytesWorld w1 5 T) := bytes_below w1 5 T
  have HC : Hid (∀ j (h : j < T.size), (Lib.bytesWorld w1 5 T).cell? ⟨w1.heap.size, j, none⟩ = some (.int .u8 T[j].toNat)) := fun j h => bytes_cell w1 5 T h
  have HFIN : Hid (Rd (Lib.bytesWorld w1 5 T) g Q (shL n s.data.toList sh) ∧ w.grownBy (Lib.bytesWorld w1 5 T) (some g)) := ⟨hrd.below hB0, grown_trans hg (grown_of_below hB0)⟩
  have hTs : T.size ≤ 2 := by rw [size_of_list hT]; exact htl
  generalize hcap : grownCap w1 T.size 0 5 = cap at *
  have HTL := Lib.hid hT
  have HQ := Lib.hid hQ
  clear hcap hrd hg hB0 hT hQ
  go_wp2_with fail
  generalize Lib.bytesWorld w1 5 T = W at *
  go_loop [5, 13] (fun n i => ∃ k : Nat, k ≤ T.size ∧ i = .int .i64 k ∧ n = .int .i64 (nuL (T.data.toList.take k) : Int)) (fun _ i => T.size - (intOf i).toNat)
  case atStart => exact ⟨0, by omega, rfl, rfl⟩
  case round =>
    obtain ⟨k, hk, rfl, rfl⟩ := hrel
    by_cases hlt : k < T.size
    · have hnu := nu_small (T.data.toList.take k) (by rw [List.length_take]; omega)
      have HN := Lib.hid (nu_step (l := T.data.toList) (k := k) (by rw [← Lib.size_eq]; exact hlt))
      have cc := HC.out k hlt
      have hb := T[k].toNat_lt
      have HK : Hid ((T.data.toList[k]'(by rw [← Lib.size_eq]; exact hlt)).toNat = T[k].toNat) := rfl
      generalize T[k].toNat = q at *
      generalize nuL (T.data.toList.take k) = S at *
      have hi1 : (k : Int) < (T.size : Int) := by omega
      have hi0 : (0 : Int) ≤ (k : Int) := by omega
      have hq0 : (0 : Int) ≤ (q : Int) := by omega
      have hq1 : (q : Int) < 256 := by omega
      have hs0 : (0 : Int) ≤ (S : Int) := by omega
      have hs1 : (S : Int) < 256 := by omega
      have HJ : Hid (bits .or .i64 ((S : Int) * 256) (q : Int) = (S : Int) * 256 + (q : Int)) := bits_join .i64 16 (by decide) (fun n h0 h1 => IntWalk.i64_in _ (by omega)) 8 _ _ (by omega) (by omega) (by omega) hq0 (by omega) (by omega)
      go_wp2_with fail
      refine ⟨⟨k + 1, by omega, by go_num, ?_⟩, by simp [intOf]; omega⟩
      rw [HJ.out, HN.out, HK.out]
      go_num
    · have HE : Hid (T.data.toList.take k = tkL n s.data.toList) := by show _ = _; rw [List.take_of_length_le (by rw [← Lib.size_eq]; omega), HTL.out]
      go_wp2_with fail
      go_ret
      exact ⟨ret_int (congrArg (fun l => (nuL l : Int)) HE.out), Q, HQ.out, hQs, HFIN.out.1, HFIN.out.2⟩
end Go.Proofs.YtciflchaepchiaaDoor.Recs
