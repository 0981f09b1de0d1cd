/- Parts of several texts of mine in one file (each begins with its own remark). -/
import Derived.Test.YtibekkfbpmloiabGreatDoorHA1
import Derived.Test.YtibekkfbpmloiabGreatDoorHA15
import Derived.Test.YtibekkfbpmloiabGreatDoorHA3
import Derived.Test.YtibekkfbpmloiabGreatDoorHA4
import Derived.Test.YtibekkfbpmloiabGreatDoorHA5
import Derived.Test.YtibekkfbpmloiabGreatDoorChecked
import Derived.Deep.Slices
import Derived.OpenShut
import Derived.ShutString
import Derived.ChangeArms
import Derived.WideShapes
import Derived.Lib.LaidTab
import Derived.BigQuiet
import Derived.Deep.QuietTactic
import Derived.Deep.RegionHeld3
import Derived.StillTailTactics
import Derived.Deep.Draws
import Derived.Deep.LoopGhost
import Derived.WalkKit
import Derived.WalkSpells
import Derived.WalkSmall
import Derived.Lib.OthersKept
import Derived.Lib.Hide
import Derived.Lib.Strings
import Derived.Lib.Join
/- A record put into a layer as the model's draws put it (what is above it is made, what is no directory gives way): a layer stays one. -/
namespace Go.Proofs.YtibekkfbpmloiabGreatDoor.Recs
open Go.RowKit Paths

/-- Sorted, housed, each record valid: a layer but for its length. -/
structure Lays (l : List R) : Prop where
  sorted : Sorted l
  housed : Housed l
  fault : ∀ r ∈ l, r.fault = 0
theorem layer_lays {l : List R} (h : layerOK l = true) : Lays l := ⟨layer_sorted h, layer_housed h, fun _ hr => layer_rec h hr⟩
theorem Lays.ok {l : List R} (h : Lays l) (hl : l.length ≤ 16) : layerOK l = true := layerOK_of hl h.fault h.sorted h.housed

/-- What stays beside the record r. -/
def keepX (r x : R) : Bool := decide (x.p ≠ r.p) && (decide (r.k = 3) || !isUp r.p x.p)
/-- The model's loop: behind 'done' the record has been laid. -/
def baseFrom (r : R) : List R → Bool → List R
  | [], done => if done then [] else [r]
  | x :: t, done => (if !done && lessR r x then [r] else []) ++ ((if keepX r x then [x] else []) ++ baseFrom r t (done || lessR r x))
theorem base_done (r : R) : ∀ l : List R, baseFrom r l true = l.filter (keepX r)
  | [] => rfl
  | x :: t => by
    simp only [baseFrom, Bool.not_true, Bool.false_and, Bool.true_or, base_done r t]
    rcases Bool.eq_false_or_eq_true (keepX r x) with h | h
    · simp [h]
    · simp [h]
theorem put_front {s : List R} {r : R} (h : ∀ y ∈ s, lessR r y = true) : putL s r = r :: s := by
  unfold putL
  have e1 : s.filter (fun x => lessR x r) = [] := by
    rw [List.filter_eq_nil_iff]
    intro y hy hn
    rw [lessR_asymm (h y hy)] at hn
    cases hn
  have e2 : s.filter (fun x => lessR r x) = s := by rw [List.filter_eq_self]; exact h
  rw [e1, e2]
  rfl
theorem put_cons {s : List R} {x r : R} (h : lessR x r = true) : putL (x :: s) r = x :: putL s r := by
  unfold putL
  rw [List.filter_cons_of_pos (p := fun y => lessR y r) h, List.filter_cons_of_neg (p := fun y => lessR r y) (by simp [lessR_asymm h])]
  rfl
theorem base_is (r : R) : ∀ l : List R, Sorted l → baseFrom r l false = putL (l.filter (keepX r)) r
  | [], _ => rfl
  | x :: t, hs => by
    unfold Sorted at hs
    rw [List.pairwise_cons] at hs
    simp only [baseFrom, Bool.not_false, Bool.true_and, Bool.false_or]
    rcases Bool.eq_false_or_eq_true (lessR r x) with h | h
    · rw [if_pos h, h, base_done]
      have hall : ∀ y ∈ (x :: t).filter (keepX r), lessR r y = true := by
        intro y hy
        rcases List.mem_cons.1 (List.mem_filter.1 hy).1 with rfl | hy2
        · exact h
        · exact lessR_trans h (hs.1 y hy2)
      rw [put_front hall]
      rcases Bool.eq_false_or_eq_true (keepX r x) with hk | hk
      · rw [List.filter_cons_of_pos hk, if_pos hk]; rfl
      · rw [List.filter_cons_of_neg (by rw [hk]; decide), if_neg (by rw [hk]; decide)]; rfl
    · rw [if_neg (by rw [h]; decide), h, base_is r t hs.2]
      rcases Bool.eq_false_or_eq_true (keepX r x) with hk | hk
      · have hne : x.p ≠ r.p := by
          unfold keepX at hk
          rw [Bool.and_eq_true, decide_eq_true_eq] at hk
          exact hk.1
        have hless : lessR x r = true := by
          rcases less_or hne with h1 | h1
          · exact h1
          · rw [h1] at h; cases h
        rw [List.filter_cons_of_pos hk, if_pos hk, put_cons hless]; rfl
      · rw [List.filter_cons_of_neg (by rw [hk]; decide), if_neg (by rw [hk]; decide)]; rfl
def baseL (l : List R) (r : R) : List R := baseFrom r l false
theorem mem_base {l : List R} (h : Sorted l) {r x : R} : x ∈ baseL l r ↔ x = r ∨ x ∈ l ∧ x.p ≠ r.p ∧ (r.k = 3 ∨ r.p ∉ ups x.p) := by
  unfold baseL
  rw [base_is r l h, mem_put, List.mem_filter]
  unfold keepX
  simp only [Bool.and_eq_true, Bool.or_eq_true, decide_eq_true_eq, Bool.not_eq_true', isUp_no]
  constructor
  · rintro (h1 | ⟨⟨h1, h2, h3⟩, _⟩)
    · exact .inl h1
    · exact .inr ⟨h1, h2, h3⟩
  · rintro (h1 | ⟨h1, h2, h3⟩)
    · exact .inl h1
    · exact .inr ⟨⟨h1, h2, h3⟩, h2⟩
theorem base_sorted {l : List R} (h : Sorted l) (r : R) : Sorted (baseL l r) := by
  unfold baseL
  rw [base_is r l h]
  exact put_sorted (List.Pairwise.filter _ h) r
theorem not_self {q : ByteArray} (h : pathB q.data.toList = true) : q ∉ ups q := fun hq => by
  have := ups_less h q hq
  rw [lessP_irrefl] at this
  cases this
theorem base_lays {l : List R} (h : Lays l) {r : R} (hr : r.fault = 0) (hhome : parentL r.p.data.toList ≠ [] → ∃ x ∈ l, x.p = parO r.p ∧ x.k = 3) : Lays (baseL l r) := by
  have hrp := (fault_path hr).1
  refine ⟨base_sorted h.sorted r, fun x hx hp => ?_, fun x hx => ?_⟩
  · rcases (mem_base h.sorted).1 hx with rfl | ⟨h1, h2, h3⟩
    · obtain ⟨y, hy, hyp, hyk⟩ := hhome hp
      have hup : parO x.p ∈ ups x.p := by rw [ups_step hrp, if_neg hp]; exact List.mem_cons_self ..
      refine ⟨y, (mem_base h.sorted).2 (.inr ⟨hy, fun e => not_self hrp (by have hh := hup; rw [hyp.symm.trans e] at hh; exact hh), .inr fun hq => ?_⟩), hyp, hyk⟩
      rw [hyp] at hq
      exact not_self (ups_path hrp _ hup) (ups_trans (ups_path hrp _ hup) _ _ hq hup)
    · have hxp := (fault_path (h.fault x h1)).1
      obtain ⟨y, hy, hyp, hyk⟩ := h.housed x h1 hp
      have hup : parO x.p ∈ ups x.p := by rw [ups_step hxp, if_neg hp]; exact List.mem_cons_self ..
      by_cases he : y.p = r.p
      · have hk : r.k = 3 := h3.resolve_right (fun hn => hn (by rw [← he, hyp]; exact hup))
        exact ⟨r, (mem_base h.sorted).2 (.inl rfl), by rw [← he, hyp], hk⟩
      · refine ⟨y, (mem_base h.sorted).2 (.inr ⟨hy, he, ?_⟩), hyp, hyk⟩
        rcases h3 with h3 | h3
        · exact .inl h3
        · refine .inr fun hq => h3 ?_
          rw [hyp] at hq
          exact ups_trans hxp _ _ hup hq
  · rcases (mem_base h.sorted).1 hx with rfl | ⟨h1, _⟩
    · exact hr
    · exact h.fault x h1

/-- The directory that is made above a record. -/
def dirR (q : ByteArray) : R := ⟨3, 493, q, ByteArray.empty, false⟩
theorem dir_fault {q : ByteArray} (h : pathB q.data.toList = true) : (dirR q).fault = 0 := by
  unfold R.fault dirR faultI
  simp [h]
/-- The record's parent is a directory of the list, or there is none. -/
def homed (l : List R) (q : ByteArray) : Bool := decide (parentL q.data.toList = []) || (recAt l (parO q)).any fun x => decide (x.k = 3)
/-- A record put into its place; n bounds how far up directories are made. -/
def lputF : Nat → List R → R → List R
  | 0, l, r => baseL l r
  | n + 1, l, r => baseL (if homed l r.p then l else lputF n l (dirR (parO r.p))) r
def lputL (l : List R) (r : R) : List R := lputF 4 l r
theorem lput_lays : ∀ (n : Nat) {l : List R} {r : R}, Lays l → r.fault = 0 → (cutAt 47 r.p.data.toList).length ≤ n → Lays (lputF n l r) ∧ r ∈ lputF n l r := by
  intro n
  induction n with
  | zero =>
    intro l r _ hr hn
    have := cutAt_pos 47 r.p.data.toList
    omega
  | succ n ih =>
    intro l r hl hr hn
    have hp := (fault_path hr).1
    have key : Lays (if homed l r.p then l else lputF n l (dirR (parO r.p))) ∧ (parentL r.p.data.toList ≠ [] → ∃ x ∈ (if homed l r.p then l else lputF n l (dirR (parO r.p))), x.p = parO r.p ∧ x.k = 3) := by
      by_cases hh : homed l r.p = true
      · rw [if_pos hh]
        refine ⟨hl, fun hpar => ?_⟩
        unfold homed at hh
        rw [decide_eq_false hpar, Bool.false_or] at hh
        cases hrec : recAt l (parO r.p) with
        | none => rw [hrec] at hh; cases hh
        | some x =>
          rw [hrec] at hh
          obtain ⟨hm, hxp⟩ := recAt_mem hrec
          exact ⟨x, hm, hxp, by simpa using hh⟩
      · rw [if_neg hh]
        have hpar : parentL r.p.data.toList ≠ [] := fun e => hh (by unfold homed; rw [decide_eq_true e]; rfl)
        obtain ⟨h1, h2⟩ := parts_parent hp hpar
        obtain ⟨h3, h4⟩ := ih hl (dir_fault h1) (show (cutAt 47 (parO r.p).data.toList).length ≤ n by omega)
        exact ⟨h3, fun _ => ⟨_, h4, rfl, rfl⟩⟩
    exact ⟨base_lays key.1 hr key.2, (mem_base key.1.sorted).2 (.inl rfl)⟩
/-- A layer with a record put into it is a layer, if it is not too long. -/
theorem lput_layer {l : List R} {r : R} (h : layerOK l = true) (hr : r.fault = 0) (hl : (lputL l r).length ≤ 16) : layerOK (lputL l r) = true :=
  (lput_lays 4 (layer_lays h) hr (pathB_parts (fault_path hr).1).1).1.ok hl
end Go.Proofs.YtibekkfbpmloiabGreatDoor.Recs
