/- A record drawn out of some bytes is valid. -/
import Derived.Test.YtgoenokkaagdeaaDoorDrawRec
import Derived.Test.YtgoenokkaagdeaaDoorDrawAt
namespace Go.Proofs.YtgoenokkaagdeaaDoor.Draw
open Go.RowKit
open Paths Recs

/-- A valid record of which the path is short. -/
def Drawn (w : World) (e : Ending) (w' : World) : Prop :=
  ∃ (k mm : Int) (p b : ByteArray) (o : Bool), faultI k p.data.toList b.size mm o = 0 ∧ pathB p.data.toList = true ∧ p.size ≤ 35 ∧ b.size ≤ 20 ∧ e = .returned (.agg #[.int .i64 k, .string p, .string b, .int .i64 mm, .bool o]) ∧ Below w.heap.size w w'

set_option maxHeartbeats 400000 in
theorem recordDrawn_any (w : World) (A : Option Addr) (n cap : Nat) (hB : Byts w w.heap.size A n) (hn : n ≤ cap) :
    Calls Tryd.prog 10 #[.slice A n cap] w (Drawn w) := by
  have hb0 := (Below.refl w.heap.size w).alloc (Nat.le_refl _) (.cells #[.int .i64 0, .string ⟨#[]⟩, .string ⟨#[]⟩, .int .i64 0, .bool false] 24)
  have HB : Hid (Byts (w.alloc (.cells #[.int .i64 0, .string ⟨#[]⟩, .string ⟨#[]⟩, .int .i64 0, .bool false] 24)) (w.alloc (.cells #[.int .i64 0, .string ⟨#[]⟩, .string ⟨#[]⟩, .int .i64 0, .bool false] 24)).heap.size A n) := by
    have h2 := hB.below hb0
    refine ⟨h2.1, fun h => ?_⟩
    obtain ⟨b, off, e, hlt, hc⟩ := h2.2 h
    exact ⟨b, off, e, by simp; omega, hc⟩
  have HB0 := Lib.hid hb0
  clear hB hb0
  go_enter Tryd.func10, Tryd.ntmps10
  go_wp2_with fail
  refine (source_any _ A n cap HB.out hn).mono ?_
  rintro e w1 ⟨rfl, hs1, hb1⟩
  have hs1' : Src w1 (w.heap.size + 1) (w.heap.size + 1) 0 := by simpa using hs1
  have HS1 := Lib.hid hs1'
  have hc1 := fun o => hb1.cell (p := ⟨w.heap.size, o, none⟩) (by simp)
  have hf1 := fun o => hb1.frozen (p := ⟨w.heap.size, o, none⟩) (by simp)
  have hz1 : w.heap.size < w1.heap.size := by have := hb1.size; simp at this; omega
  have HB1 := Lib.hid hb1
  have hB1 : w.heap.size + 1 ≤ w1.heap.size := by omega
  clear hs1 hb1 hs1'
  go_wp2_with fail
  refine (path_any w1 (w.heap.size + 1) (w.heap.size + 1) 0 HS1.out (by omega)).mono ?_
  rintro e w2 ⟨l, hl, rfl, hw2⟩
  have hne : ¬ w.heap.size = w.heap.size + 1 := by omega
  have hc2 := fun o => (hw2.cell (k := w.heap.size) (o := o) hz1 hne).trans (hc1 o)
  have hf2 := fun o => (hw2.frozen (k := w.heap.size) (o := o) hz1 hne).trans (hf1 o)
  have hz2 : w.heap.size < w2.heap.size := by have := hw2.2.size; omega
  have HW2 := Lib.hid hw2
  have HS2 := Lib.hid hw2.1
  have HL := Lib.hid hl
  have HP := Lib.hid (show pathB (⟨l.toArray⟩ : ByteArray).data.toList = true by simpa using hl)
  clear hw2 hl hc1 hf1
  rw [strV_eq2]
  go_wp2_with fail
  with_reducible refine (record_any w2 (w.heap.size + 1) (w.heap.size + 1) (0 + 4) ⟨l.toArray⟩ HP.out HS2.out (by omega)).mono ?_
  rintro e w3 ⟨k, mm, b, o, hk, hb, rfl, hw3⟩
  have hc3 := fun o => (hw3.cell (k := w.heap.size) (o := o) hz2 hne).trans (hc2 o)
  have hf3 := fun o => (hw3.frozen (k := w.heap.size) (o := o) hz2 hne).trans (hf2 o)
  have hz3 : w.heap.size < w3.heap.size := by have := hw3.2.size; omega
  have HW3 := Lib.hid (HW2.out.trans hw3)
  have HK := Lib.hid hk
  clear hw3 hk hc2 hf2
  go_wp2_with fail
  refine bodyPost_ret (v := .agg #[.int .i64 k, .string ⟨l.toArray⟩, .string b, .int .i64 mm, .bool o]) (by simp [results, Tryd.results10, go_sem, hc3]) rfl ?_
  refine ⟨k, mm, ⟨l.toArray⟩, b, o, HK.out, by simpa using HL.out, pathB_len HL.out, hb, rfl, ?_⟩
  repeat (refine Below.setCell ?_ (by simp) _)
  exact HB0.out.trans ((HB1.out.mono (by simp)).trans ((HW3.out.belowB hB1).mono (by omega)))

theorem anyPathDrawn_s2 (w : World) (A : Option Addr) (n cap : Nat) (hB : Byts w w.heap.size A n) (hn : n ≤ cap) :
    Calls Tryd.prog 11 #[.slice A n cap] w fun e w' => ∃ s : ByteArray, s.size ≤ 100 ∧ e = .returned (.string s) ∧ Below w.heap.size w w' := by
  refine (anyPathDrawn_any w A n cap hB hn).mono ?_
  rintro e w' ⟨l, hl, rfl, hb⟩
  exact ⟨⟨l.toArray⟩, by show l.toArray.size ≤ 100; simpa using hl, rfl, hb⟩
end Go.Proofs.YtgoenokkaagdeaaDoor.Draw
