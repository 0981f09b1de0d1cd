/- Parts of several texts of mine in one file (each begins with its own remark). -/
import Derived.Test.YtciflchaepchiaaDoorDA2
import Derived.Test.YtciflchaepchiaaDoorDA3
import Derived.Test.YtciflchaepchiaaDoorDA4
import Derived.Test.YtciflchaepchiaaDoorDB1
import Derived.Test.YtciflchaepchiaaDoorDB2
import Derived.Test.YtciflchaepchiaaDoorChecked
import Derived.Test.YtciflchaepchiaaDoorShelf
import Derived.Test.YtciflchaepchiaaDoorProg
import Derived.Test.YtciflchaepchiaaDoorRows
import Derived.Deep.Cut
import Derived.Deep.RegionHeld3
import Derived.Laws.BytesArg
import Derived.Lib.ConvBytes
import Derived.Deep.Slices
import Derived.OpenShut
import Derived.ShutString
import Derived.ChangeArms
import Derived.WideShapes
import Derived.Lib.LaidTab
import Derived.BigQuiet
import Derived.Deep.QuietTactic
import Derived.StillTailTactics
import Derived.Deep.Draws
import Derived.Deep.LoopGhost
import Derived.WalkKit
import Derived.WalkSpells
import Derived.WalkSmall
import Derived.Lib.OthersKept
import Derived.Lib.Hide
import Derived.Lib.Strings
import Derived.Lib.Join
import Derived.WalkLawsBesides
import Derived.Below
import Derived.Shelf.Strings.Builder1
import Derived.Stop.LaidErr
import Derived.Laws.OwnMore
import Derived.BigRegion
import Derived.LaidEql
import Derived.Stop.Asserts
import Derived.Stop.LaidTwo
import Derived.ChangeVars
import Derived.Deep.DeepHandedRow
/- EncodeRecord and EncodeLayer, of the program and of the model. Conditions (of the program's): the table of kinds, the two sentinels. -/
namespace Go.Proofs.YtciflchaepchiaaDoor.Recs
set_option maxRecDepth 100000
open Go.RowKit Paths Errs

def erC (r : R) : Int := if r.fault = 0 then 0 else 1
def erL (r : R) : List UInt8 := if r.fault = 0 then encR r else []
theorem er_ok {r : R} (h : r.fault = 0) : erC r = 0 ∧ erL r = encR r := ⟨if_pos h, if_pos h⟩
theorem er_bad {r : R} (h : r.fault ≠ 0) : erC r = 1 ∧ erL r = [] := ⟨if_neg h, if_neg h⟩
set_option maxHeartbeats 800000 in
theorem encodeRecord_impl (k m : Int) (p b : ByteArray) (o : Bool) (w : World) (hp : p.size ≤ maxLen) (ht : Tab w) :
    Calls Tryd.prog 11 #[.agg #[.int .i64 k, .string p, .string b, .int .i64 m, .bool o]] w fun e w' => ∃ B : ByteArray, e = .returned (.tuple #[.string B, .int .i64 (erC ⟨k, m, p, b, o⟩)]) ∧ B.data.toList = erL ⟨k, m, p, b, o⟩ ∧ Below w.heap.size w w' := by
  have eA : Below w.heap.size w (w.alloc (.cells #[.int .i64 k, .string p, .string b, .int .i64 m, .bool o] 27)) := (Below.refl _ _).alloc (Nat.le_refl _) _
  have HRA : Hid (RecCells (w.alloc (.cells #[.int .i64 k, .string p, .string b, .int .i64 m, .bool o] 27)) w.heap.size 0 ⟨k, m, p, b, o⟩) := ⟨by go_simp, by go_simp, by go_simp, by go_simp, by go_simp⟩
  have hzA : w.heap.size < (w.alloc (.cells #[.int .i64 k, .string p, .string b, .int .i64 m, .bool o] 27)).heap.size := by simp
  have HOK := recordOK_impl k m p b o _ hp (ht.below eA (Nat.le_refl _))
  by_cases h0 : R.fault ⟨k, m, p, b, o⟩ = 0
  · obtain ⟨_, _, hm0, hm1, _, hp35, hb20⟩ := fault_enc h0
    have HE := Lib.hid (er_ok h0)
    have hf : (faultI k p.data.toList b.size m o == 0) = true := by simpa [R.fault] using h0
    rw [hf] at HOK
    clear h0 hf
    go_enter Tryd.func11, Tryd.ntmps11
    go_wp2_with fail
    refine HOK.mono ?_
    rintro e w1 ⟨rfl, hb1⟩
    obtain ⟨q0, q1, q2, q3, q4⟩ := HRA.out.below hb1 hzA
    have c1 := eA.trans (hb1.mono eA.size)
    clear hb1
    go_wp2_with fail
    refine (encoded_any k m p b o w1 (by omega) (by omega)).mono ?_
    rintro e w2 ⟨B, rfl, hB, hb2⟩
    have HB := Lib.hid hB
    clear hB
    go_wp2_with fail
    go_ret2
    exact ⟨B, by rw [HE.out.1]; rfl, by rw [HE.out.2]; exact HB.out, c1.trans (hb2.mono c1.size)⟩
  · have HE := Lib.hid (er_bad h0)
    have hf : (faultI k p.data.toList b.size m o == 0) = false := by simpa [R.fault] using h0
    rw [hf] at HOK
    clear h0 hf
    go_enter Tryd.func11, Tryd.ntmps11
    go_wp2_with fail
    refine HOK.mono ?_
    rintro e w1 ⟨rfl, hb1⟩
    have c1 := eA.trans (hb1.mono eA.size)
    clear hb1
    go_wp2_with fail
    go_ret2
    exact ⟨⟨#[]⟩, by rw [HE.out.1]; rfl, by rw [HE.out.2], c1⟩
set_option maxHeartbeats 800000 in
theorem encodeRecord_spec (k m : Int) (p b : ByteArray) (o : Bool) (w : World) :
    Calls Tryd.prog 9 #[.agg #[.int .i64 k, .string p, .string b, .int .i64 m, .bool o]] w fun e w' => ∃ B : ByteArray, e = .returned (.tuple #[.string B, .int .i64 (erC ⟨k, m, p, b, o⟩)]) ∧ B.data.toList = erL ⟨k, m, p, b, o⟩ ∧ Below w.heap.size w w' := by
  have eA : Below w.heap.size w (w.alloc (.cells #[.int .i64 k, .string p, .string b, .int .i64 m, .bool o] 27)) := (Below.refl _ _).alloc (Nat.le_refl _) _
  have HRA : Hid (RecCells (w.alloc (.cells #[.int .i64 k, .string p, .string b, .int .i64 m, .bool o] 27)) w.heap.size 0 ⟨k, m, p, b, o⟩) := ⟨by go_simp, by go_simp, by go_simp, by go_simp, by go_simp⟩
  have hzA : w.heap.size < (w.alloc (.cells #[.int .i64 k, .string p, .string b, .int .i64 m, .bool o] 27)).heap.size := by simp
  have HOK := l02OK_any k m p b o (w.alloc (.cells #[.int .i64 k, .string p, .string b, .int .i64 m, .bool o] 27))
  by_cases h0 : R.fault ⟨k, m, p, b, o⟩ = 0
  · obtain ⟨_, _, hm0, hm1, _, hp35, hb20⟩ := fault_enc h0
    have HE := Lib.hid (er_ok h0)
    have hf : (faultI k p.data.toList b.size m o == 0) = true := by simpa [R.fault] using h0
    rw [hf] at HOK
    simp only at hm0 hm1
    clear h0 hf
    go_enter Tryd.func9, Tryd.ntmps9
    go_wp2_with fail
    refine HOK.mono ?_
    rintro e w1 ⟨rfl, hb1⟩
    obtain ⟨q0, q1, q2, q3, q4⟩ := HRA.out.below hb1 hzA
    have c1 := eA.trans (hb1.mono eA.size)
    clear hb1
    go_wp2_with fail
    refine (l09Record_any k m p b o w1 (by omega) (by omega) hm0 (by omega)).mono ?_
    rintro e w2 ⟨B, rfl, hB, hb2⟩
    have HB := Lib.hid hB
    clear hB
    go_wp2_with fail
    go_ret2
    exact ⟨B, by rw [HE.out.1]; rfl, by rw [HE.out.2]; exact HB.out, c1.trans (hb2.mono c1.size)⟩
  · have HE := Lib.hid (er_bad h0)
    have hf : (faultI k p.data.toList b.size m o == 0) = false := by simpa [R.fault] using h0
    rw [hf] at HOK
    clear h0 hf
    go_enter Tryd.func9, Tryd.ntmps9
    go_wp2_with fail
    refine HOK.mono ?_
    rintro e w1 ⟨rfl, hb1⟩
    have c1 := eA.trans (hb1.mono eA.size)
    clear hb1
    go_wp2_with fail
    go_ret2
    exact ⟨⟨#[]⟩, by rw [HE.out.1]; rfl, by rw [HE.out.2], c1⟩

end Go.Proofs.YtciflchaepchiaaDoor.Recs
