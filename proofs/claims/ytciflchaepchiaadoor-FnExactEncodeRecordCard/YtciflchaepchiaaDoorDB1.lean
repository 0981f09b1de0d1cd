/- Parts of several texts of mine in one file (each begins with its own remark). -/
import Derived.Test.YtciflchaepchiaaDoorDA1
import Derived.Test.YtciflchaepchiaaDoorDA2
import Derived.Test.YtciflchaepchiaaDoorDA3
import Derived.Test.YtciflchaepchiaaDoorDA4
import Derived.Test.YtciflchaepchiaaDoorChecked
import Derived.Test.YtciflchaepchiaaDoorShelf
import Derived.Test.YtciflchaepchiaaDoorProg
import Derived.Test.YtciflchaepchiaaDoorRows
import Derived.BigQuiet
import Derived.Deep.QuietTactic
import Derived.Deep.RegionHeld3
import Derived.StillTailTactics
import Derived.Deep.Draws
import Derived.Deep.LoopGhost
import Derived.WalkKit
import Derived.WalkSpells
import Derived.WalkSmall
import Derived.Lib.OthersKept
import Derived.Lib.Hide
import Derived.Lib.Strings
import Derived.OpenShut
import Derived.ShutString
import Derived.ChangeArms
import Derived.WideShapes
import Derived.Lib.LaidTab
import Derived.Deep.Slices
import Derived.Lib.Join
import Derived.Shelf.Strings.Builder1
import Derived.Laws.BytesArg
import Derived.Lib.ConvBytes
import Derived.WalkLawsBesides
import Derived.Below
import Derived.Stop.LaidErr
import Derived.Laws.OwnMore
import Derived.BigRegion
import Derived.LaidEql
import Derived.Stop.Asserts
import Derived.Stop.LaidTwo
import Derived.ChangeVars
import Derived.Deep.DeepHandedRow
/- Records: RecordOK, and what makes a record, of the program and of its model. Condition (of the program's): its table of kinds holds what its own initialiser lays. -/
namespace Go.Proofs.YtciflchaepchiaaDoor.Recs
open Go.RowKit Paths

theorem recordOK_impl (k m : Int) (p b : ByteArray) (o : Bool) (w : World) (hp : p.size ≤ maxLen) (ht : Tab w) :
    Calls Tryd.prog 28 #[.agg #[.int .i64 k, .string p, .string b, .int .i64 m, .bool o]] w fun e w' => e = .returned (.bool (faultI k p.data.toList b.size m o == 0)) ∧ Below w.heap.size w w' := by
  go_enter Tryd.func28, Tryd.ntmps28
  go_wp2_with fail
  refine (recordFault_impl k m p b o _ hp (ht.below ((Below.refl _ _).alloc (Nat.le_refl _) _) (Nat.le_refl _))).mono ?_
  rintro e w1 ⟨rfl, hb1⟩
  go_wp2_with fail
  go_ret
  exact ⟨rfl, ((Below.refl _ _).alloc (Nat.le_refl _) _).trans (hb1.mono (by simp <;> omega))⟩

theorem l02OK_any (k m : Int) (p b : ByteArray) (o : Bool) (w : World) :
    Calls Tryd.prog 26 #[.agg #[.int .i64 k, .string p, .string b, .int .i64 m, .bool o]] w fun e w' => e = .returned (.bool (faultI k p.data.toList b.size m o == 0)) ∧ Below w.heap.size w w' := by
  go_enter Tryd.func26, Tryd.ntmps26
  go_wp2_with fail
  refine (l02Fault_any k m p b o _).mono ?_
  rintro e w1 ⟨rfl, hb1⟩
  go_wp2_with fail
  go_ret
  exact ⟨rfl, ((Below.refl _ _).alloc (Nat.le_refl _) _).trans (hb1.mono (by simp <;> omega))⟩

/-! ### Making a record -/
end Go.Proofs.YtciflchaepchiaaDoor.Recs

/- Records as the laws take them: opening one, its size, its copy, its comparison. -/
namespace Go.Proofs.YtciflchaepchiaaDoor.Recs
set_option maxRecDepth 100000
open Go.RowKit Paths Go.WideShapes Go.ChangeShapes

section
variable {H : Type} {enc : TypeId × Value → H} {w : World} {base : Nat} {spare : Nat → Bool} {held : Bool}
theorem cI : Tryd.prog.cellsOf 3 = 1 := by kernel_rfl
theorem cS : Tryd.prog.cellsOf 9 = 1 := by kernel_rfl
theorem cR : Tryd.prog.cellsOf 23 = 5 := by kernel_rfl

/-- What the five cells of a record are. -/
theorem rec_of_trod {fuel : Nat} {cs : List Value} {x : DataW H × List MemPlace} (h : DataW.trod enc Tryd.prog w base spare held fuel 23 cs = some x) :
    ∃ (k m : Int) (p b : ByteArray) (o : Bool), cs = [.int .i64 k, .string p, .string b, .int .i64 m, .bool o] ∧ p.size ≤ maxLen ∧ b.size ≤ maxLen ∧ (Lit.int .i64 k).wf = true ∧ (Lit.int .i64 m).wf = true ∧
      x = (.agg [.lit (.int .i64 k), .lit (.string p.data.toList), .lit (.string b.data.toList), .lit (.int .i64 m), .lit (.bool o)], []) := by
  obtain ⟨xs, n, _, hx, hl, hxl, hg⟩ := DataW.trod_struct Tryd.underlying23 h
  rw [cR] at hl
  have g0 : DataW.trod enc Tryd.prog w base spare held n 3 ((cs.drop 0).take 1) = xs[0]? := by have g := hg 0 _ rfl; change DataW.trod enc Tryd.prog w base spare held n 3 ((cs.drop 0).take (Tryd.prog.cellsOf 3)) = xs[0]? at g; rw [cI] at g; exact g
  have g1 : DataW.trod enc Tryd.prog w base spare held n 9 ((cs.drop 1).take 1) = xs[1]? := by have g := hg 1 _ rfl; change DataW.trod enc Tryd.prog w base spare held n 9 ((cs.drop 1).take (Tryd.prog.cellsOf 9)) = xs[1]? at g; rw [cS] at g; exact g
  have g2 : DataW.trod enc Tryd.prog w base spare held n 9 ((cs.drop 2).take 1) = xs[2]? := by have g := hg 2 _ rfl; change DataW.trod enc Tryd.prog w base spare held n 9 ((cs.drop 2).take (Tryd.prog.cellsOf 9)) = xs[2]? at g; rw [cS] at g; exact g
  have g3 : DataW.trod enc Tryd.prog w base spare held n 3 ((cs.drop 3).take 1) = xs[3]? := by have g := hg 3 _ rfl; change DataW.trod enc Tryd.prog w base spare held n 3 ((cs.drop 3).take (Tryd.prog.cellsOf 3)) = xs[3]? at g; rw [cI] at g; exact g
  have g4 : DataW.trod enc Tryd.prog w base spare held n 4 ((cs.drop 4).take 1) = xs[4]? := by have g := hg 4 _ rfl; change DataW.trod enc Tryd.prog w base spare held n 4 ((cs.drop 4).take (Tryd.prog.cellsOf 4)) = xs[4]? at g; rw [cB] at g; exact g
  match cs, hl, xs, hxl with
  | [c0, c1, c2, c3, c4], _, [y0, y1, y2, y3, y4], _ =>
    obtain ⟨k, e0, f0, w0⟩ := DataW.trod_int Tryd.underlying3 (show DataW.trod enc Tryd.prog w base spare held n 3 [c0] = some y0 from g0)
    obtain ⟨p, e1, f1, w1⟩ := DataW.trod_string Tryd.underlying9 (show DataW.trod enc Tryd.prog w base spare held n 9 [c1] = some y1 from g1)
    obtain ⟨b, e2, f2, w2⟩ := DataW.trod_string Tryd.underlying9 (show DataW.trod enc Tryd.prog w base spare held n 9 [c2] = some y2 from g2)
    obtain ⟨m, e3, f3, w3⟩ := DataW.trod_int Tryd.underlying3 (show DataW.trod enc Tryd.prog w base spare held n 3 [c3] = some y3 from g3)
    obtain ⟨o, e4, f4⟩ := DataW.trod_bool Tryd.underlying4 (show DataW.trod enc Tryd.prog w base spare held n 4 [c4] = some y4 from g4)
    simp only [List.cons.injEq, and_true] at e0 e1 e2 e3 e4
    subst e0 e1 e2 e3 e4 f0 f1 f2 f3 f4
    exact ⟨k, m, p, b, o, rfl, w1, w2, w0, w3, by rw [hx]; rfl⟩

/-- A record handed in by value. -/
theorem open_rec {r : Reach} {b0 : Nat} {v : Value} {d : DataW H} {q : List MemPlace} (hv : Value.okWide Tryd.prog w r b0 23 v) (h : DataW.Trod enc Tryd.prog w base spare held 23 v d q) :
    ∃ (k m : Int) (p b : ByteArray) (o : Bool), v = .agg #[.int .i64 k, .string p, .string b, .int .i64 m, .bool o] ∧ p.size ≤ maxLen ∧ b.size ≤ maxLen := by
  obtain ⟨cs, rfl, _⟩ := okWide_struct Tryd.underlying23 hv
  obtain ⟨fuel, hf⟩ := h
  obtain ⟨k, m, p, b, o, e, hp, hb, _⟩ := rec_of_trod hf
  refine ⟨k, m, p, b, o, ?_, hp, hb⟩
  obtain ⟨l⟩ := cs
  simp only [Value.cells] at e
  exact congrArg (fun l => Value.agg ⟨l⟩) e
end

theorem toRecord_any (k m : Int) (p b : ByteArray) (o : Bool) (w : World) :
    Calls Tryd.prog 10 #[.agg #[.int .i64 k, .string p, .string b, .int .i64 m, .bool o]] w fun e w' => e = .returned (.agg #[.int .i64 k, .string p, .string b, .int .i64 m, .bool o]) ∧ Below w.heap.size w w' := by
  go_enter Tryd.func10, Tryd.ntmps10
  go_wp2_with fail
  refine bodyPost_ret (v := .agg #[.int .i64 k, .string p, .string b, .int .i64 m, .bool o]) (by simp [results, Tryd.results10, go_sem]) rfl ⟨rfl, ?_⟩
  exact (((Below.refl _ _).alloc (Nat.le_refl _) _).alloc (by simp) _).alloc (by simp; omega) _

theorem szRecord_any (k m : Int) (p b : ByteArray) (o : Bool) (w : World) (hp : p.size ≤ maxLen) (hb : b.size ≤ maxLen) :
    Calls Tryd.prog 8 #[.agg #[.int .i64 k, .string p, .string b, .int .i64 m, .bool o], .int .i64 1048576] w fun e w' => ∃ n : Int, e = .returned (.int .i64 n) ∧ Below w.heap.size w w' := by
  unfold maxLen at hp hb
  go_enter Tryd.func8, Tryd.ntmps8
  go_wp2_with fail
  all_goals (go_ret; exact ⟨_, rfl, (Below.refl _ _).alloc (Nat.le_refl _) _⟩)
end Go.Proofs.YtciflchaepchiaaDoor.Recs

/- Layers as plain lists of records: the place of a path, the first fault, what lies under an opaque directory, the canonical form. -/
namespace Go.Proofs.YtciflchaepchiaaDoor.Recs
open Go.RowKit Paths

theorem fault_path {r : R} (h : r.fault = 0) : pathB r.p.data.toList = true ∧ 1 ≤ r.k ∧ r.k ≤ 4 ∧ r.b.size ≤ 20 := by
  unfold R.fault faultI at h
  split at h
  · cases h
  · split at h
    · cases h
    · split at h
      · cases h
      · rename_i h1 h2 h3
        exact ⟨by simpa using h2, by omega, by omega, by omega⟩
end Go.Proofs.YtciflchaepchiaaDoor.Recs

/- Bytes of numbers and sums of bytes, plain. -/
namespace Go.Proofs.YtciflchaepchiaaDoor.Recs
open Go.RowKit

/-- The lowest byte of a number. -/
def byI (n : Int) : UInt8 := UInt8.ofNat (n % 256).toNat
theorem byI_toNat (n : Int) : ((byI n).toNat : Int) = n % 256 := by
  unfold byI
  rw [UInt8.toNat_ofNat']
  omega
/-- Two bytes of a number, the higher one first. -/
def twoB (n : Int) : List UInt8 := [byI (n / 256), byI n]
end Go.Proofs.YtciflchaepchiaaDoor.Recs

/- The binary encoding as plain lists of bytes: the sum, a record's bytes, a layer's bytes; the record at the head of a text; the reading of a whole layer. -/
namespace Go.Proofs.YtciflchaepchiaaDoor.Recs
open Go.RowKit Paths

/-- A record's bytes. -/
def encR (r : R) : List UInt8 := [byI (if r.o then 5 else r.k), byI (r.p.size : Int)] ++ r.p.data.toList ++ (twoB r.m ++ [byI (r.b.size : Int)]) ++ r.b.data.toList
end Go.Proofs.YtciflchaepchiaaDoor.Recs

/- WriteByte of strings.Builder (the library's contract, proved once, over any program) stated at this program's own numbers: one application. Condition: as it states. -/
namespace Go.Proofs
open Go.Shelf
def Tryd.laysWB_ren : Go.Shelf.Ren := ⟨fun | 167 => 54 | 240 => 71 | 276 => 81 | n => n, fun | 9 => 9 | 4 => 4 | 0 => 0 | 20 => 20 | 72 => 79 | 70 => 77 | 37 => 63 | 75 => 56 | 164 => 115 | 5 => 5 | 80 => 81 | n => n, fun | n => n⟩
theorem Tryd.laysWB : Go.Proofs.Lays.n167 Tryd.prog Tryd.laysWB_ren := {
  mixed := by kernel_rfl
  f167 := Tryd.func54.trans (congrArg some (by kernel_rfl))
  f240 := Tryd.func71.trans (congrArg some (by kernel_rfl))
  f276 := Tryd.func81.trans (congrArg some (by kernel_rfl))
  t0 := Tryd.underlying0
  a0 := Tryd.isAgg0
  z0 := Tryd.sizeOf0
  v0 := Tryd.zeroValue0
  t4 := Tryd.underlying4
  a4 := Tryd.isAgg4
  z4 := Tryd.sizeOf4
  v4 := Tryd.zeroValue4
  t5 := Tryd.underlying5
  a5 := Tryd.isAgg5
  z5 := Tryd.sizeOf5
  v5 := Tryd.zeroValue5
  t9 := Tryd.underlying9
  a9 := Tryd.isAgg9
  z9 := Tryd.sizeOf9
  v9 := Tryd.zeroValue9
  t20 := Tryd.underlying20
  a20 := Tryd.isAgg20
  z20 := Tryd.sizeOf20
  v20 := Tryd.zeroValue20
  t37 := Tryd.underlying63
  a37 := Tryd.isAgg63
  z37 := Tryd.sizeOf63
  v37 := Tryd.zeroValue63
  t70 := Tryd.underlying77
  a70 := Tryd.isAgg77
  z70 := Tryd.sizeOf77
  v70 := Tryd.zeroValue77
  t72 := Tryd.underlying79
  a72 := Tryd.isAgg79
  z72 := Tryd.sizeOf79
  v72 := Tryd.zeroValue79
  t75 := Tryd.underlying56
  a75 := Tryd.isAgg56
  z75 := Tryd.sizeOf56
  v75 := Tryd.zeroValue56
  t164 := Tryd.underlying115
  a164 := Tryd.isAgg115
  z164 := Tryd.sizeOf115
  v164 := Tryd.zeroValue115 }
theorem Tryd.Builder_Extra_WB : Builder.Extra Tryd.prog Tryd.laysWB_ren := {
  sizeBuilder := by kernel_rfl
  liesBuilder := by kernel_rfl
  t5 := Tryd.underlying5
  a5 := Tryd.isAgg5
  z5 := Tryd.sizeOf5
  v5 := Tryd.zeroValue5
  infoByte := by kernel_rfl
  cellsByte := by kernel_rfl
  sizeByte := by kernel_rfl
  neB5 := by decide }
open Go.RowKit in
/-- WriteByte: one byte more. -/
theorem Tryd.writeByte (B b : Nat) (bs : List Value) (c : Int) (w : World) (h : Lib.IsBuilder 79 5 B b bs w) (hlen : bs.length + 1 ≤ 140737488355328) (hBw : B ≤ w.heap.size) :
    Calls Tryd.prog 54 #[.pointer (some ⟨b, 0, none⟩), .int .u8 c] w fun e w' => e = .returned .nilIface ∧ (Lib.BuilderAt 79 5 B b (.pointer (some ⟨b, 0, none⟩)) (bs ++ [.int .u8 c]) w' ∧ Below B w w') :=
  Any.Builder_WriteByte Tryd.laysWB Tryd.Builder_Extra_WB B b bs c w h hlen hBw
end Go.Proofs

/- The bytes of numbers, the sum of a text, a text with its sum: of the program and of its model. -/
namespace Go.Proofs.YtciflchaepchiaaDoor.Recs
set_option maxRecDepth 100000
open Go.RowKit Paths

/-- A slice of integers that is only read. -/
def IntSl (w : World) (v : Value) (ns : List Int) : Prop :=
  ∃ A cap, v = .slice A ns.length cap ∧ ns.length ≤ cap ∧ (0 < ns.length → ∃ b off, A = some ⟨b, off, none⟩ ∧ b < w.heap.size ∧ ∀ i z, ns[i]? = some z → w.cell? ⟨b, off + i, none⟩ = some (.int .i64 z))
theorem byte_cells_snoc {ns : List Int} {k : Nat} (h : k < ns.length) : Lib.byteCells ((ns.take (k + 1)).map byI) = Lib.byteCells ((ns.take k).map byI) ++ [.int .u8 (ns[k] % 256)] := by
  rw [List.take_add_one, List.getElem?_eq_getElem h, Option.toList_some, List.map_append]
  unfold Lib.byteCells
  rw [List.map_append]
  congr 1
  simp only [List.map_cons, List.map_nil]
  rw [byI_toNat]

set_option maxHeartbeats 800000 in
theorem bytesOf_any (v : Value) (ns : List Int) (w : World) (h : IntSl w v ns) (hn : ns.length ≤ 1000) :
    Calls Tryd.prog 39 #[v] w fun e w' => ∃ B : ByteArray, e = .returned (.string B) ∧ B.data.toList = ns.map byI ∧ B.size = ns.length ∧ Below w.heap.size w w' := by
  obtain ⟨A, cap, rfl, hcap, h⟩ := h
  have HH := Lib.hid h
  have hB0 : Lib.IsBuilder 79 5 w.heap.size w.heap.size [] (w.alloc (.cells #[.pointer none, .slice none 0 0] 79)) :=
    .inl ⟨Nat.le_refl _, .slice none 0 0, heap_alloc_new w _, World.ownsRow_nil _ _ _ _, by simp [Value.ownBlock]⟩
  have HB0 := Lib.hid hB0
  have c0 : Below w.heap.size w (w.alloc (.cells #[.pointer none, .slice none 0 0] 79)) := (Below.refl _ _).alloc (Nat.le_refl _) _
  clear h hB0
  go_enter Tryd.func39, Tryd.ntmps39
  go_wp2_with fail
  go_loopw [8] (fun i wr => ∃ k : Nat, k ≤ ns.length ∧ i = .int .i64 k ∧ Hid (Lib.IsBuilder 79 5 w.heap.size w.heap.size (Lib.byteCells ((ns.take k).map byI)) wr ∧ Below w.heap.size w wr)) (fun i _ => ns.length - (intOf i).toNat)
  case atStart => exact ⟨0, by omega, rfl, HB0.out, c0⟩
  case round =>
    obtain ⟨k, hk, rfl, HI⟩ := hrel
    have hbl : (Lib.byteCells ((ns.take k).map byI)).length ≤ 1000 := by
      unfold Lib.byteCells
      simp
      omega
    by_cases hlt : k < ns.length
    · obtain ⟨b, off, rfl, hb, hcell⟩ := HH.out (by omega)
      have cc := (HI.out.2.cell (p := ⟨b, off + k, none⟩) hb).trans (hcell k ns[k] (by simp [hlt]))
      have HS := Lib.hid (byte_cells_snoc hlt)
      have HZ := Lib.hid HI.out.2.size
      have hWB := Tryd.writeByte w.heap.size w.heap.size _ (ns[k] % 256) wr HI.out.1 (by omega) HZ.out
      generalize ns[k] = z at *
      have hi1 : (k : Int) < (ns.length : Int) := by omega
      have hi0 : (0 : Int) ≤ (k : Int) := by omega
      clear hcell
      go_wp2_with fail
      refine hWB.mono ?_
      rintro e w1 ⟨rfl, hb1, hbel⟩
      go_wp2_with fail
      exact ⟨⟨k + 1, by omega, by go_num, by rw [HS.out]; exact ⟨.inr hb1, HI.out.2.trans hbel⟩⟩, by simp [intOf]; omega⟩
    · have hST := Tryd.Builder_String_any w.heap.size w.heap.size ((ns.take k).map byI) wr HI.out.1 HI.out.2.size
      have HE : Hid (List.take k (List.map byI ns) = List.map byI ns) := List.take_of_length_le (by simp; omega)
      go_wp2_with fail
      refine hST.mono ?_
      rintro e w1 ⟨rfl, hb1⟩
      go_wp2_with fail
      go_ret
      exact ⟨⟨(List.take k (List.map byI ns)).toArray⟩, rfl, by show List.take k (List.map byI ns) = _; exact HE.out, by rw [Lib.size_eq]; show (List.take k (List.map byI ns)).length = _; rw [HE.out]; simp, HI.out.2.trans hb1⟩

end Go.Proofs.YtciflchaepchiaaDoor.Recs

/- Paths: JoinPath, of the program and of its model. -/
namespace Go.Proofs.YtciflchaepchiaaDoor.Paths
open Go.RowKit

theorem JoinPost.name {d p : ByteArray} {w w' : World} (h : joinWay d p = 1) (hb : Below w.heap.size w w') : JoinPost d p w (.returned (.tuple #[.string ⟨#[]⟩, .int .i64 10])) w' := ⟨by unfold joinRes joinCode; rw [h]; rfl, hb⟩
end Go.Proofs.YtciflchaepchiaaDoor.Paths

/- A text with its sum, two bytes of a number, LayerSum, a record's encoding: of the program and of its model. Condition (of EncodeRecord): the table of kinds. -/
namespace Go.Proofs.YtciflchaepchiaaDoor.Recs
set_option maxRecDepth 100000
open Go.RowKit Paths

theorem glue (a b : ByteArray) : (a ++ b).data.toList = a.data.toList ++ b.data.toList := by simp
theorem glue_size (a b : ByteArray) : (a ++ b).size = a.size + b.size := by simp

/-- Two strings joined, under a name. -/
theorem glue_run (a b : ByteArray) (h : a.size + b.size ≤ 1000000) : ∃ Q : ByteArray, Hid (Q.data.toList = a.data.toList ++ b.data.toList) ∧ Q.size ≤ a.size + b.size ∧ ∀ W : World, (Op.stringOp .add a b).run Tryd.prog W = .ok (.string Q) W := by
  refine ⟨a ++ b, glue a b, Nat.le_of_eq (glue_size a b), fun W => run_string_add_sum (P := Tryd.prog) W a b (by omega)⟩

theorem conv_two (a b : Int) (w : World) : (convert 63 9 (.slice (some ⟨w.heap.size, 0, none⟩) 2 2)).run Tryd.prog (w.alloc (.cells #[.int .u8 a, .int .u8 b] 5)) = .ok (.string ⟨[UInt8.ofNat a.toNat, UInt8.ofNat b.toNat].toArray⟩) (w.alloc (.cells #[.int .u8 a, .int .u8 b] 5)) := by
  have := run_convert_bytes_arg (P := Tryd.prog) (w.alloc (.cells #[.int .u8 a, .int .u8 b] 5)) 63 5 Tryd.underlying63 Tryd.underlying5 w.heap.size 0 2 2 [a, b] rfl
    (by intro i hi
        match i, hi with
        | 0, _ => simp
        | 1, _ => simp) 9 Tryd.underlying9
  exact this
set_option maxHeartbeats 800000 in
theorem l09Two_any (n : Int) (w : World) (h0 : 0 ≤ n) (h1 : n ≤ 1000000) :
    Calls Tryd.prog 44 #[.int .i64 n] w fun e w' => ∃ B : ByteArray, e = .returned (.string B) ∧ B.data.toList = twoB n ∧ B.size = 2 ∧ Below w.heap.size w w' := by
  have kc := conv_two (n / 256 % 256) (n % 256) w
  have c1 : Below w.heap.size w (w.alloc (.cells #[.int .u8 (n / 256 % 256), .int .u8 (n % 256)] 5)) := (Below.refl _ _).alloc (Nat.le_refl _) _
  go_enter Tryd.func44, Tryd.ntmps44
  go_wp2_with fail
  go_ret
  exact ⟨_, rfl, rfl, rfl, c1⟩

end Go.Proofs.YtciflchaepchiaaDoor.Recs

/- The binary encoding, plain: what was encoded is read again; a text cut short, or longer, is no layer. -/
namespace Go.Proofs.YtciflchaepchiaaDoor.Recs
open Go.RowKit Paths

theorem fault_enc {r : R} (h : r.fault = 0) : 1 ≤ r.k ∧ r.k ≤ 4 ∧ 0 ≤ r.m ∧ r.m ≤ 511 ∧ (r.o = true → r.k = 3) ∧ r.p.size ≤ 35 ∧ r.b.size ≤ 20 := by
  have h1 := fault_path h
  have h2 := pathB_len h1.1
  rw [← Lib.size_eq] at h2
  have h3 := h
  unfold R.fault faultI at h3
  split at h3
  · cases h3
  split at h3
  · cases h3
  split at h3
  · cases h3
  split at h3
  · cases h3
  split at h3
  · cases h3
  rename_i _ _ _ hf hm
  have hm0 : ¬ r.m < 0 := fun hx => hm (.inl hx)
  have hm1 : ¬ 511 < r.m := fun hx => hm (.inr (.inl hx))
  refine ⟨h1.2.1, h1.2.2.1, by omega, by omega, fun ho => ?_, h2, h1.2.2.2⟩
  by_cases hk : r.k = 3
  · exact hk
  · exact absurd (.inr ⟨ho, hk⟩) hf
end Go.Proofs.YtciflchaepchiaaDoor.Recs

/- A record's encoding: of the program and of its model. Condition (of EncodeRecord): the table of kinds. -/
namespace Go.Proofs.YtciflchaepchiaaDoor.Recs
set_option maxRecDepth 100000
open Go.RowKit Paths

theorem ints2_at (w : World) (B : Nat) (a b : Int) (h0 : w.cell? ⟨B, 0, none⟩ = some (.int .i64 a)) (h1 : w.cell? ⟨B, 1, none⟩ = some (.int .i64 b)) : IntSl w (.slice (some ⟨B, 0, none⟩) 2 2) [a, b] := by
  refine ⟨_, _, rfl, Nat.le_refl _, fun _ => ⟨B, 0, rfl, World.block_lt_of_cell? w _ h0, fun i z hi => ?_⟩⟩
  match i, hi with
  | 0, hi => cases hi; exact h0
  | 1, hi => cases hi; exact h1
  | i + 2, hi => simp at hi
theorem ints3_at (w : World) (B : Nat) (a b c : Int) (h0 : w.cell? ⟨B, 0, none⟩ = some (.int .i64 a)) (h1 : w.cell? ⟨B, 1, none⟩ = some (.int .i64 b)) (h2 : w.cell? ⟨B, 2, none⟩ = some (.int .i64 c)) : IntSl w (.slice (some ⟨B, 0, none⟩) 3 3) [a, b, c] := by
  refine ⟨_, _, rfl, Nat.le_refl _, fun _ => ⟨B, 0, rfl, World.block_lt_of_cell? w _ h0, fun i z hi => ?_⟩⟩
  match i, hi with
  | 0, hi => cases hi; exact h0
  | 1, hi => cases hi; exact h1
  | 2, hi => cases hi; exact h2
  | i + 3, hi => simp at hi

theorem bel_a {W w : World} (h : Below W.heap.size W w) (o : Obj) : Below W.heap.size W (w.alloc o) := h.alloc h.size o
theorem bel_t {W w w' : World} (h : Below W.heap.size W w) (hb : Below w.heap.size w w') : Below W.heap.size W w' := h.trans (hb.mono h.size)

set_option maxHeartbeats 3200000 in
theorem encoded_any (k m : Int) (p b : ByteArray) (o : Bool) (w : World) (hp : p.size ≤ 1000) (hb : b.size ≤ 1000) :
    Calls Tryd.prog 29 #[.agg #[.int .i64 k, .string p, .string b, .int .i64 m, .bool o]] w fun e w' => ∃ B : ByteArray, e = .returned (.string B) ∧ B.data.toList = encR ⟨k, m, p, b, o⟩ ∧ Below w.heap.size w w' := by
  have eA : Below w.heap.size w (w.alloc (.cells #[.int .i64 k, .string p, .string b, .int .i64 m, .bool o] 27)) := (Below.refl _ _).alloc (Nat.le_refl _) _
  have HRA : RecCells (w.alloc (.cells #[.int .i64 k, .string p, .string b, .int .i64 m, .bool o] 27)) w.heap.size 0 ⟨k, m, p, b, o⟩ := ⟨by go_simp, by go_simp, by go_simp, by go_simp, by go_simp⟩
  have hzA : w.heap.size < (w.alloc (.cells #[.int .i64 k, .string p, .string b, .int .i64 m, .bool o] 27)).heap.size := by simp
  cases o with
  | true =>
    go_enter Tryd.func29, Tryd.ntmps29
    go_wp2_with fail
    generalize w.alloc (.cells #[.int .i64 k, .string p, .string b, .int .i64 m, .bool true] 27) = W at *
    have HKS : Hid (∀ W', Below W.heap.size W W' → W'.cell? ⟨w.heap.size, 1, none⟩ = some (.string p) ∧ W'.cell? ⟨w.heap.size, 2, none⟩ = some (.string b) ∧ W'.cell? ⟨w.heap.size, 3, none⟩ = some (.int .i64 m)) := fun W' h => by
      obtain ⟨_, b1, b2, b3, _⟩ := HRA.below h hzA
      exact ⟨b1, b2, b3⟩
    have HZ : Hid (Below W.heap.size W W) := Below.refl _ _
    clear HRA
    go_region_held3 (fun W' => W'.cell? ⟨w.heap.size, 1, none⟩ = some (.string p) ∧ W'.cell? ⟨w.heap.size, 2, none⟩ = some (.string b) ∧ W'.cell? ⟨w.heap.size, 3, none⟩ = some (.int .i64 m)) (first | exact HKS.out _ HZ.out | exact HKS.out _ HZ.out.drew | exact HKS.out _ (bel_a HZ.out _) | exact HKS.out _ (bel_a HZ.out _).drew | exact HKS.out _ (bel_a HZ.out.drew _) | exact HKS.out _ (bel_a (bel_a HZ.out _) _) | exact HKS.out _ (bel_a (bel_a HZ.out _) _).drew | go_keep) (first
      | (have c0 := HB1; go_at_call 39; refine (bytesOf_any _ [m / 256, m, (b.size : Int)] _ (ints3_at _ _ _ _ _ ?_ ?_ ?_) (by simp)).mono ?_; (go_simp); (go_simp); (go_simp); rintro e w2 ⟨B2, rfl, hB2, hs2, hb2⟩; have HB2 := Lib.hid hB2; have hz2 : B2.size ≤ 3 := Nat.le_of_eq hs2; obtain ⟨Q2, HQ2, hq2, kA2⟩ := glue_run Q1 B2 (Nat.le_trans (Nat.add_le_add hy1 hz2) (by decide)); have hy2 : Q2.size ≤ 1005 := Nat.le_trans hq2 (Nat.add_le_add hy1 hz2); obtain ⟨Q3, HQ3, hq3, kA3⟩ := glue_run Q2 b (Nat.le_trans (Nat.add_le_add hy2 hb) (by decide)); clear hq2 hq3 hB2 hs2 c0; replace HZ : Hid (Below W.heap.size W w2) := (by first | exact bel_t HZ.out hb2 | exact bel_t HZ.out.drew hb2 | exact bel_t (bel_a HZ.out _) hb2 | exact bel_t (bel_a HZ.out _).drew hb2 | exact bel_t (bel_a HZ.out.drew _) hb2 | exact bel_t (bel_a (bel_a HZ.out _) _) hb2 | exact bel_t (bel_a (bel_a HZ.out _) _).drew hb2); clear hb2)
      | (go_at_call 39; refine (bytesOf_any _ [5, (p.size : Int)] _ (ints2_at _ _ _ _ ?_ ?_) (by simp)).mono ?_; (go_simp); (go_simp); rintro e w1 ⟨B1, rfl, hB1, hs1, hb1⟩; have HB1 := Lib.hid hB1; have hz0 : B1.size ≤ 2 := Nat.le_of_eq hs1; obtain ⟨Q1, HQ1, hq1, kA1⟩ := glue_run B1 p (Nat.le_trans (Nat.add_le_add hz0 hp) (by decide)); have hy1 : Q1.size ≤ 1002 := Nat.le_trans hq1 (Nat.add_le_add hz0 hp); clear hq1 hB1 hs1; replace HZ : Hid (Below W.heap.size W w1) := (by first | exact bel_t HZ.out hb1 | exact bel_t HZ.out.drew hb1 | exact bel_t (bel_a HZ.out _) hb1 | exact bel_t (bel_a HZ.out _).drew hb1 | exact bel_t (bel_a HZ.out.drew _) hb1 | exact bel_t (bel_a (bel_a HZ.out _) _) hb1 | exact bel_t (bel_a (bel_a HZ.out _) _).drew hb1); obtain ⟨hc1, hf1⟩ := bcell hb1; clear hb1))
    all_goals
      go_wp2_with fail
      go_ret
      exact ⟨Q3, rfl, by rw [HQ3.out, HQ2.out, HQ1.out, HB1.out, HB2.out]; unfold encR twoB; simp, eA.trans (HZ.out.mono eA.size)⟩
  | false =>
    go_enter Tryd.func29, Tryd.ntmps29
    go_wp2_with fail
    generalize w.alloc (.cells #[.int .i64 k, .string p, .string b, .int .i64 m, .bool false] 27) = W at *
    have HKS : Hid (∀ W', Below W.heap.size W W' → W'.cell? ⟨w.heap.size, 1, none⟩ = some (.string p) ∧ W'.cell? ⟨w.heap.size, 2, none⟩ = some (.string b) ∧ W'.cell? ⟨w.heap.size, 3, none⟩ = some (.int .i64 m)) := fun W' h => by
      obtain ⟨_, b1, b2, b3, _⟩ := HRA.below h hzA
      exact ⟨b1, b2, b3⟩
    have HZ : Hid (Below W.heap.size W W) := Below.refl _ _
    clear HRA
    go_region_held3 (fun W' => W'.cell? ⟨w.heap.size, 1, none⟩ = some (.string p) ∧ W'.cell? ⟨w.heap.size, 2, none⟩ = some (.string b) ∧ W'.cell? ⟨w.heap.size, 3, none⟩ = some (.int .i64 m)) (first | exact HKS.out _ HZ.out | exact HKS.out _ HZ.out.drew | exact HKS.out _ (bel_a HZ.out _) | exact HKS.out _ (bel_a HZ.out _).drew | exact HKS.out _ (bel_a HZ.out.drew _) | exact HKS.out _ (bel_a (bel_a HZ.out _) _) | exact HKS.out _ (bel_a (bel_a HZ.out _) _).drew | go_keep) (first
      | (have c0 := HB1; go_at_call 39; refine (bytesOf_any _ [m / 256, m, (b.size : Int)] _ (ints3_at _ _ _ _ _ ?_ ?_ ?_) (by simp)).mono ?_; (go_simp); (go_simp); (go_simp); rintro e w2 ⟨B2, rfl, hB2, hs2, hb2⟩; have HB2 := Lib.hid hB2; have hz2 : B2.size ≤ 3 := Nat.le_of_eq hs2; obtain ⟨Q2, HQ2, hq2, kA2⟩ := glue_run Q1 B2 (Nat.le_trans (Nat.add_le_add hy1 hz2) (by decide)); have hy2 : Q2.size ≤ 1005 := Nat.le_trans hq2 (Nat.add_le_add hy1 hz2); obtain ⟨Q3, HQ3, hq3, kA3⟩ := glue_run Q2 b (Nat.le_trans (Nat.add_le_add hy2 hb) (by decide)); clear hq2 hq3 hB2 hs2 c0; replace HZ : Hid (Below W.heap.size W w2) := (by first | exact bel_t HZ.out hb2 | exact bel_t HZ.out.drew hb2 | exact bel_t (bel_a HZ.out _) hb2 | exact bel_t (bel_a HZ.out _).drew hb2 | exact bel_t (bel_a HZ.out.drew _) hb2 | exact bel_t (bel_a (bel_a HZ.out _) _) hb2 | exact bel_t (bel_a (bel_a HZ.out _) _).drew hb2); clear hb2)
      | (go_at_call 39; refine (bytesOf_any _ [k, (p.size : Int)] _ (ints2_at _ _ _ _ ?_ ?_) (by simp)).mono ?_; (go_simp); (go_simp); rintro e w1 ⟨B1, rfl, hB1, hs1, hb1⟩; have HB1 := Lib.hid hB1; have hz0 : B1.size ≤ 2 := Nat.le_of_eq hs1; obtain ⟨Q1, HQ1, hq1, kA1⟩ := glue_run B1 p (Nat.le_trans (Nat.add_le_add hz0 hp) (by decide)); have hy1 : Q1.size ≤ 1002 := Nat.le_trans hq1 (Nat.add_le_add hz0 hp); clear hq1 hB1 hs1; replace HZ : Hid (Below W.heap.size W w1) := (by first | exact bel_t HZ.out hb1 | exact bel_t HZ.out.drew hb1 | exact bel_t (bel_a HZ.out _) hb1 | exact bel_t (bel_a HZ.out _).drew hb1 | exact bel_t (bel_a HZ.out.drew _) hb1 | exact bel_t (bel_a (bel_a HZ.out _) _) hb1 | exact bel_t (bel_a (bel_a HZ.out _) _).drew hb1); obtain ⟨hc1, hf1⟩ := bcell hb1; clear hb1))
    all_goals
      go_wp2_with fail
      go_ret
      exact ⟨Q3, rfl, by rw [HQ3.out, HQ2.out, HQ1.out, HB1.out, HB2.out]; unfold encR twoB; simp, eA.trans (HZ.out.mono eA.size)⟩
end Go.Proofs.YtciflchaepchiaaDoor.Recs
