/- For every string, FnExactPartsOf answers true: PartsOf of the program answers as its model does, in memory of its own. No condition. -/
import Derived.Test.YtpklkajpohkhkaaRows
import Derived.Test.YtpklkajpohkhkaaMarks
import Derived.WalkKit
import Derived.ProofKit
import Derived.OpenShut
import Derived.ShutString
import Derived.ChangeOld
import Derived.Below
namespace Go.Proofs.Ytpklkajpohkhkaa.LawPartsOf
open Go.ChangeShapes Go.WideShapes Go.ChangeAt Go.RowKit
open Go.ChangeMaps (open_string shut_string)
open Paths
set_option linter.unusedVariables false

theorem parts_len (l : List UInt8) : (partsOf l).length ≤ 4 := by
  rcases Bool.eq_false_or_eq_true (pathB l) with h | h
  · rw [partsOf_yes h]
    unfold pathB at h
    simp only [Bool.and_eq_true, decide_eq_true_eq] at h
    exact h.1
  · rw [partsOf_no h]; simp

theorem own_apart {w w' : World} {b1 : Nat} {e : TypeId} {size : Nat} {v1 v2 : Value} {n m : Nat} {xs ys : List Value} (h : w.ownsRow b1 e size v1 n xs) (_hb : Below w.heap.size w w') (k : w'.ownsRow w.heap.size e size v2 m ys) : v1.ownBlock = none ∨ v1.ownBlock ≠ v2.ownBlock := by
  rcases h.2 with ⟨rfl, _⟩ | ⟨g, cap, cur, rfl, _, hg, _⟩
  · exact .inl rfl
  · right
    intro e
    have h1 := (k.lt g e.symm).1
    have h2 := (Array.getElem?_eq_some_iff.1 hg).1
    omega

set_option maxHeartbeats 800000 in
theorem walk (a0 : ByteArray) (w0 : a0.size ≤ maxLen) (w : World) :
    Calls Try.prog 7 #[.string a0] w fun e w' => e = .returned (.bool true) ∧ Below w.heap.size w w' := by
  by_cases h : a0.size ≤ 1048576
  · have hd : decide ((1048576 : Int) < (a0.size : Int)) = false := by simp; omega
    have hl4 := parts_len a0.data.toList
    go_enter Try.func7, Try.ntmps7
    go_wp2_with fail
    refine (partsOf_spec _ _).mono ?_
    rintro e w1 ⟨v1, rfl, hb1, ho1⟩
    go_wp2_with fail
    refine (partsOf_impl _ _ w0).mono ?_
    rintro e w2 ⟨v2, rfl, hb2, ho2⟩
    go_wp2_with fail
    refine (eqStringS_any v2 v1 _ _ _ (Strs.own ho2) ((Strs.own ho1).below hb2) (by unfold maxLen; omega)).mono ?_
    rintro e w3 ⟨rfl, n3, rfl⟩
    go_wp2_with fail
    refine (markStringS_any v2 _ _ _ _ _ (by exact ho2) (by omega) (by omega)).mono ?_
    rintro e w4 ⟨rfl, ho4, hg4'⟩
    have hg4 : w2.grownBy w4 v2.ownBlock := ⟨hg4'.os, hg4'.tape, hg4'.output, hg4'.size, hg4'.block⟩
    go_wp2_with fail
    refine (heldStringS_any v2 _ _ _ _ ho4 (by omega) (by omega)).mono ?_
    rintro e w5 ⟨rfl, hb5⟩
    have q1 : decide ((1 : Int) + ((partsOf a0.data.toList).length : Int) < 0) = false := by simp; omega
    go_wp2_with fail
    refine (partsOf_impl _ _ w0).mono ?_
    rintro e w6 ⟨v3, rfl, hb6, ho6⟩
    have ho1' : w6.ownsRow w.heap.size 9 1 v1 _ _ := own_below (own_below ((own_below ho1 hb2).kept hg4 (own_apart ho1 hb2 ho2)) hb5) hb6
    go_wp2_with fail
    refine (eqStringS_any v3 v1 _ _ _ (Strs.own ho6) (Strs.own ho1') (by unfold maxLen; omega)).mono ?_
    rintro e w7 ⟨rfl, n7, rfl⟩
    go_wp2_with fail
    refine (heldStringS_any v2 _ _ _ _ (by exact own_below (own_below ho4 hb5) (below_drewN hb6 _)) (by omega) (by omega)).mono ?_
    rintro e w8 ⟨rfl, hb8⟩
    go_wp2_with fail
    go_ret
    refine ⟨rfl, ?_⟩
    have c2 := hb1.trans (hb2.mono hb1.size)
    have c4 : Below w.heap.size w w4 := Below.grown c2 hg4 c2.size (fun k hk => Nat.le_trans hb1.size (ho2.lt k hk).1)
    have c5 := c4.trans (hb5.mono c4.size)
    have c6 := c5.trans (hb6.mono c5.size)
    exact c6.trans (Below.mono (show Below w6.heap.size w6 w8 from ⟨hb8.os, hb8.tape, hb8.output, hb8.size, hb8.block⟩) c6.size)
  · have hd : decide ((1048576 : Int) < (a0.size : Int)) = true := by simp; omega
    go_enter Try.func7, Try.ntmps7
    go_wp2_with fail
    go_ret
    exact ⟨rfl, Below.refl _ _⟩

theorem own : ownKnob Try.prog.godebug = none := by kernel_rfl
theorem laidOut : laidOutB Try.prog = true := by kernel_rfl

set_option maxRecDepth 100000 in
theorem lifted (os : Os) (started : os.Started) (H : Type) (enc : TypeId × Value → H) :
    ReturnsInHanded {} Try.checked os 7 .any (Rows.fnExactPartsOfSpec.pre6 enc Try.prog Try.f7 Rows.fnExactPartsOfRow.domain false) (Rows.fnExactPartsOfSpec.post enc Try.prog Try.f7 false true false false) := by
  refine returnsInHanded_of_change (C := Try.checked) own started (by kernel_rfl) Try.func7
    (ChangeSpec.witness6 (enc := enc) (C := Try.checked) false ⟨#[], #[.string ByteArray.empty], []⟩ 8 (by kernel_rfl) (by kernel_rfl) (by kernel_rfl) (by kernel_rfl)) ?_
  intro W base args ds gs before hval0 hW hcnd _
  have hval : ∀ (j : Nat) t v, Try.f7.params[j]? = some t → args[j]? = some v → Value.okWide Try.prog W .any base t v := hval0
  have hW' := hW
  obtain ⟨p, q, hA0, hV, rfl, hfz, hnd⟩ := hW
  have hA : DataW.TrodAll enc Try.prog W 0 (fun _ => true) true Try.f7.params.toList args.toList ds p := hA0
  rw [Try.params7] at hA hval
  obtain ⟨v0, vs0, d0, ds0, p0, q0, hargs, rfl, rfl, h0, r0⟩ := trodAll_cons hA
  obtain ⟨rfl, rfl, rfl⟩ := trodAll_nil r0
  obtain rfl : args = #[v0] := by cases args; simp_all
  obtain ⟨rfl, rfl⟩ := trodVars_none hV
  obtain ⟨a0, rfl, rfl, rfl, w0⟩ := open_string Try.underlying9 (hval 0 9 v0 rfl rfl) h0
  clear hA0 hval0
  refine (walk a0 w0 W).mono fun e W' ⟨he, bel⟩ => ?_
  subst he
  exact ⟨_, rfl, _, _, _, [], _, [], hW', trodAll_mk1 (shut_bool Try.underlying4 _), (trodAll_cons_mk (shut_string Try.underlying9 w0) trodAll_mk0), rfl, bel.frame _, fun h => by cases h⟩

theorem over : Rows.fnExactPartsOfRow.holds Try.pinned (OpenSpec.ofChange Rows.fnExactPartsOfSpec) :=
  OpenClaim.holds_of_wide 7 Try.f7 rfl rfl rfl rfl rfl rfl rfl ⟨rfl, rfl, rfl, rfl, rfl⟩ rfl rfl rfl rfl rfl (by kernel_rfl) Try.func7 (by kernel_rfl)
    (of_decide_eq_true (by kernel_rfl)) (by unfold Func.isWrapper; first | (rw [if_pos (by decide +kernel)]; kernel_rfl) | (rw [if_neg (by decide +kernel)]; exact ⟨rfl, rfl⟩))
    (fun os started H enc _ => lifted os started H enc)

theorem proved : Rows.FnExactPartsOfSaid := over
end Go.Proofs.Ytpklkajpohkhkaa.LawPartsOf
