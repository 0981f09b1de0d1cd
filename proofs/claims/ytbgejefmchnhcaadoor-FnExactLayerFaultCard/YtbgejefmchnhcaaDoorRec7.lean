/- Records as the laws take them: opening one, its size, its copy, its comparison. -/
import Derived.Test.YtbgejefmchnhcaaDoorRec6
import Derived.OpenShut
import Derived.ShutString
import Derived.ChangeArms
import Derived.WideShapes
import Derived.Lib.LaidTab
namespace Go.Proofs.YtbgejefmchnhcaaDoor.Recs
set_option maxRecDepth 100000
open Go.RowKit Paths Go.WideShapes Go.ChangeShapes

section
variable {H : Type} {enc : TypeId × Value → H} {w : World} {base : Nat} {spare : Nat → Bool} {held : Bool}
theorem cI : Tryd.prog.cellsOf 3 = 1 := by kernel_rfl
theorem cS : Tryd.prog.cellsOf 9 = 1 := by kernel_rfl
theorem cB : Tryd.prog.cellsOf 4 = 1 := by kernel_rfl
theorem cR : Tryd.prog.cellsOf 44 = 5 := by kernel_rfl

/-- What the five cells of a record are. -/
theorem rec_of_trod {fuel : Nat} {cs : List Value} {x : DataW H × List MemPlace} (h : DataW.trod enc Tryd.prog w base spare held fuel 44 cs = some x) :
    ∃ (k m : Int) (p b : ByteArray) (o : Bool), cs = [.int .i64 k, .string p, .string b, .int .i64 m, .bool o] ∧ p.size ≤ maxLen ∧ b.size ≤ maxLen ∧ (Lit.int .i64 k).wf = true ∧ (Lit.int .i64 m).wf = true ∧
      x = (.agg [.lit (.int .i64 k), .lit (.string p.data.toList), .lit (.string b.data.toList), .lit (.int .i64 m), .lit (.bool o)], []) := by
  obtain ⟨xs, n, _, hx, hl, hxl, hg⟩ := DataW.trod_struct Tryd.underlying44 h
  rw [cR] at hl
  have g0 : DataW.trod enc Tryd.prog w base spare held n 3 ((cs.drop 0).take 1) = xs[0]? := by have g := hg 0 _ rfl; change DataW.trod enc Tryd.prog w base spare held n 3 ((cs.drop 0).take (Tryd.prog.cellsOf 3)) = xs[0]? at g; rw [cI] at g; exact g
  have g1 : DataW.trod enc Tryd.prog w base spare held n 9 ((cs.drop 1).take 1) = xs[1]? := by have g := hg 1 _ rfl; change DataW.trod enc Tryd.prog w base spare held n 9 ((cs.drop 1).take (Tryd.prog.cellsOf 9)) = xs[1]? at g; rw [cS] at g; exact g
  have g2 : DataW.trod enc Tryd.prog w base spare held n 9 ((cs.drop 2).take 1) = xs[2]? := by have g := hg 2 _ rfl; change DataW.trod enc Tryd.prog w base spare held n 9 ((cs.drop 2).take (Tryd.prog.cellsOf 9)) = xs[2]? at g; rw [cS] at g; exact g
  have g3 : DataW.trod enc Tryd.prog w base spare held n 3 ((cs.drop 3).take 1) = xs[3]? := by have g := hg 3 _ rfl; change DataW.trod enc Tryd.prog w base spare held n 3 ((cs.drop 3).take (Tryd.prog.cellsOf 3)) = xs[3]? at g; rw [cI] at g; exact g
  have g4 : DataW.trod enc Tryd.prog w base spare held n 4 ((cs.drop 4).take 1) = xs[4]? := by have g := hg 4 _ rfl; change DataW.trod enc Tryd.prog w base spare held n 4 ((cs.drop 4).take (Tryd.prog.cellsOf 4)) = xs[4]? at g; rw [cB] at g; exact g
  match cs, hl, xs, hxl with
  | [c0, c1, c2, c3, c4], _, [y0, y1, y2, y3, y4], _ =>
    obtain ⟨k, e0, f0, w0⟩ := DataW.trod_int Tryd.underlying3 (show DataW.trod enc Tryd.prog w base spare held n 3 [c0] = some y0 from g0)
    obtain ⟨p, e1, f1, w1⟩ := DataW.trod_string Tryd.underlying9 (show DataW.trod enc Tryd.prog w base spare held n 9 [c1] = some y1 from g1)
    obtain ⟨b, e2, f2, w2⟩ := DataW.trod_string Tryd.underlying9 (show DataW.trod enc Tryd.prog w base spare held n 9 [c2] = some y2 from g2)
    obtain ⟨m, e3, f3, w3⟩ := DataW.trod_int Tryd.underlying3 (show DataW.trod enc Tryd.prog w base spare held n 3 [c3] = some y3 from g3)
    obtain ⟨o, e4, f4⟩ := DataW.trod_bool Tryd.underlying4 (show DataW.trod enc Tryd.prog w base spare held n 4 [c4] = some y4 from g4)
    simp only [List.cons.injEq, and_true] at e0 e1 e2 e3 e4
    subst e0 e1 e2 e3 e4 f0 f1 f2 f3 f4
    exact ⟨k, m, p, b, o, rfl, w1, w2, w0, w3, by rw [hx]; rfl⟩

/-- A record handed in by value. -/
theorem open_rec {r : Reach} {b0 : Nat} {v : Value} {d : DataW H} {q : List MemPlace} (hv : Value.okWide Tryd.prog w r b0 44 v) (h : DataW.Trod enc Tryd.prog w base spare held 44 v d q) :
    ∃ (k m : Int) (p b : ByteArray) (o : Bool), v = .agg #[.int .i64 k, .string p, .string b, .int .i64 m, .bool o] ∧ p.size ≤ maxLen ∧ b.size ≤ maxLen := by
  obtain ⟨cs, rfl, _⟩ := okWide_struct Tryd.underlying44 hv
  obtain ⟨fuel, hf⟩ := h
  obtain ⟨k, m, p, b, o, e, hp, hb, _⟩ := rec_of_trod hf
  refine ⟨k, m, p, b, o, ?_, hp, hb⟩
  obtain ⟨l⟩ := cs
  simp only [Value.cells] at e
  exact congrArg (fun l => Value.agg ⟨l⟩) e
end

theorem toRecord_any (k m : Int) (p b : ByteArray) (o : Bool) (w : World) :
    Calls Tryd.prog 32 #[.agg #[.int .i64 k, .string p, .string b, .int .i64 m, .bool o]] w fun e w' => e = .returned (.agg #[.int .i64 k, .string p, .string b, .int .i64 m, .bool o]) ∧ Below w.heap.size w w' := by
  go_enter Tryd.func32, Tryd.ntmps32
  go_wp2_with fail
  refine bodyPost_ret (v := .agg #[.int .i64 k, .string p, .string b, .int .i64 m, .bool o]) (by simp [results, Tryd.results32, go_sem]) rfl ⟨rfl, ?_⟩
  exact (((Below.refl _ _).alloc (Nat.le_refl _) _).alloc (by simp) _).alloc (by simp; omega) _

theorem eqRecord_any (k m : Int) (p b : ByteArray) (o : Bool) (w : World) :
    Calls Tryd.prog 19 #[.agg #[.int .i64 k, .string p, .string b, .int .i64 m, .bool o], .agg #[.int .i64 k, .string p, .string b, .int .i64 m, .bool o]] w fun e w' => e = .returned (.bool true) ∧ Below w.heap.size w w' := by
  go_enter Tryd.func19, Tryd.ntmps19
  go_wp2_with fail
  go_ret
  exact ⟨rfl, ((Below.refl _ _).alloc (Nat.le_refl _) _).alloc (by simp) _⟩

theorem szRecord_any (k m : Int) (p b : ByteArray) (o : Bool) (w : World) (hp : p.size ≤ maxLen) (hb : b.size ≤ maxLen) :
    Calls Tryd.prog 30 #[.agg #[.int .i64 k, .string p, .string b, .int .i64 m, .bool o], .int .i64 1048576] w fun e w' => ∃ n : Int, e = .returned (.int .i64 n) ∧ Below w.heap.size w w' := by
  unfold maxLen at hp hb
  go_enter Tryd.func30, Tryd.ntmps30
  go_wp2_with fail
  all_goals (go_ret; exact ⟨_, rfl, (Below.refl _ _).alloc (Nat.le_refl _) _⟩)
end Go.Proofs.YtbgejefmchnhcaaDoor.Recs
