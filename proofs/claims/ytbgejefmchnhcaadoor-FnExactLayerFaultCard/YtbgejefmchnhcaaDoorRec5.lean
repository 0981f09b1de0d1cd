/- Records: RecordOK, and what makes a record, of the program and of its model. Condition (of the program's): its table of kinds holds what its own initialiser lays. -/
import Derived.Test.YtbgejefmchnhcaaDoorRec4
namespace Go.Proofs.YtbgejefmchnhcaaDoor.Recs
open Go.RowKit Paths

/-! ### Making a record -/
def zI (c k : Int) : Int := if c = 0 then k else 0
def zS (c : Int) (s : ByteArray) : ByteArray := if c = 0 then s else ⟨#[]⟩
def zB (c : Int) (o : Bool) : Bool := if c = 0 then o else false
theorem zI_no {c : Int} (h : c ≠ 0) (k : Int) : zI c k = 0 := if_neg h
theorem zS_no {c : Int} (h : c ≠ 0) (s : ByteArray) : zS c s = ⟨#[]⟩ := if_neg h
theorem zB_no {c : Int} (h : c ≠ 0) (o : Bool) : zB c o = false := if_neg h
theorem zI_yes {c : Int} (h : c = 0) (k : Int) : zI c k = k := if_pos h
theorem zS_yes {c : Int} (h : c = 0) (s : ByteArray) : zS c s = s := if_pos h
theorem zB_yes {c : Int} (h : c = 0) (o : Bool) : zB c o = o := if_pos h
def makeC (k m : Int) (p b : ByteArray) (o : Bool) : Int := if 65536 < p.size ∨ 65536 < b.size then 2 else faultI k p.data.toList b.size m o
def madeV (c k m : Int) (p b : ByteArray) (o : Bool) : Value := .tuple #[.agg #[.int .i64 (zI c k), .string (zS c p), .string (zS c b), .int .i64 (zI c m), .bool (zB c o)], .int .i64 c]
theorem madeV_no {c k m : Int} {p b : ByteArray} {o : Bool} (h : c ≠ 0) : madeV c k m p b o = .tuple #[.agg #[.int .i64 0, .string ⟨#[]⟩, .string ⟨#[]⟩, .int .i64 0, .bool false], .int .i64 c] := by
  unfold madeV; rw [zI_no h, zI_no h, zS_no h, zS_no h, zB_no h]
theorem madeV_yes {k m : Int} {p b : ByteArray} {o : Bool} : madeV 0 k m p b o = .tuple #[.agg #[.int .i64 k, .string p, .string b, .int .i64 m, .bool o], .int .i64 0] := by
  unfold madeV; rw [zI_yes rfl, zI_yes rfl, zS_yes rfl, zS_yes rfl, zB_yes rfl]
theorem ret_val {a b : Value} (h : a = b) : Ending.returned a = .returned b := by rw [h]

end Go.Proofs.YtbgejefmchnhcaaDoor.Recs
