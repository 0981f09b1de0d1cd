/- Parts of several texts of mine in one file (each begins with its own remark). -/
import Derived.Test.YtibekkfbpmloiabGreatDoorHA1
import Derived.Test.YtibekkfbpmloiabGreatDoorHA2
import Derived.Test.YtibekkfbpmloiabGreatDoorHA3
import Derived.Test.YtibekkfbpmloiabGreatDoorHA8
import Derived.Test.YtibekkfbpmloiabGreatDoorChecked
import Derived.Deep.Slices
import Derived.OpenShut
import Derived.ShutString
import Derived.ChangeArms
import Derived.WideShapes
import Derived.Lib.LaidTab
import Derived.BigQuiet
import Derived.Deep.QuietTactic
import Derived.Deep.RegionHeld3
import Derived.StillTailTactics
import Derived.Deep.Draws
import Derived.Deep.LoopGhost
import Derived.WalkKit
import Derived.WalkSpells
import Derived.WalkSmall
import Derived.Lib.OthersKept
import Derived.Lib.Hide
import Derived.Lib.Strings
import Derived.Lib.Join
import Derived.Laws.OwnMore
import Derived.BigRegion
import Derived.Laws.BytesArg
/- Paths in their order: a path put in from the back (plain: for the model's list of paths). -/
namespace Go.Proofs.YtibekkfbpmloiabGreatDoor.Recs
set_option maxRecDepth 100000
open Paths

/-- Behind the place all are above q; the one ahead of the place is not: it is q, or q goes in here. -/
theorem ins_back {P : List ByteArray} {q : ByteArray} {n : Nat} (hP : Ups P) (hn : n ≤ P.length) (h1 : ∀ j (hj : j < P.length), n ≤ j → lessQ q P[j] = true) (h2 : ∀ (hp : n - 1 < P.length), 0 < n → lessQ q P[n - 1] = false) :
    insP q P = if 0 < n ∧ P[n - 1]? = some q then P else P.take n ++ [q] ++ P.drop n := by
  have hup := insP_ups q P hP
  have hall := List.pairwise_iff_getElem.1 hP
  split
  · rename_i h
    refine ups_ext hup hP fun x => ?_
    rw [insP_mem]
    exact ⟨fun e => e.elim (fun e => e ▸ List.mem_of_getElem? h.2) id, .inr⟩
  · rename_i h
    have hlow : ∀ j (hj : j < P.length), j < n → lessQ P[j] q = true := by
      intro j hj hjn
      have hp : n - 1 < P.length := by omega
      have hne : P[n - 1] ≠ q := fun e => h ⟨by omega, by rw [List.getElem?_eq_getElem hp, e]⟩
      have hl : lessQ P[n - 1] q = true := (lessQ_total hne).resolve_right (by rw [h2 hp (by omega)]; decide)
      by_cases e : j = n - 1
      · subst e; exact hl
      · exact lessQ_trans _ _ _ (hall j (n - 1) hj hp (by omega)) hl
    have hu2 : Ups (P.take n ++ [q] ++ P.drop n) := by
      unfold Ups
      rw [List.append_assoc, List.pairwise_append]
      refine ⟨hP.sublist (List.take_sublist ..), ?_, ?_⟩
      · show (q :: P.drop n).Pairwise _
        refine List.pairwise_cons.2 ⟨fun b hb => ?_, hP.sublist (List.drop_sublist ..)⟩
        obtain ⟨j, hj, rfl⟩ := List.getElem_of_mem hb
        rw [List.getElem_drop]
        exact h1 _ _ (by omega)
      · intro a ha b hb
        obtain ⟨i, hi, rfl⟩ := List.getElem_of_mem ha
        rw [List.length_take] at hi
        rw [List.getElem_take]
        have ha' := hlow i (by omega) (by omega)
        rcases List.mem_cons.1 hb with rfl | hb
        · exact ha'
        · have hb' : b ∈ P.drop n := hb
          obtain ⟨j, hj, rfl⟩ := List.getElem_of_mem hb'
          rw [List.getElem_drop]
          exact lessQ_trans _ _ _ ha' (h1 _ _ (by omega))
    refine ups_ext hup hu2 fun x => ?_
    rw [insP_mem, List.append_assoc, List.mem_append, List.singleton_append, List.mem_cons]
    have := List.mem_append (a := x) (s := P.take n) (t := P.drop n)
    rw [List.take_append_drop] at this
    rw [this]
    exact ⟨fun e => e.elim (fun e => .inr (.inl e)) (fun e => e.elim .inl (fun e => .inr (.inr e))), fun e => e.elim (fun e => .inr (.inl e)) (fun e => e.elim .inl (fun e => .inr (.inr e)))⟩
/-- The paths of the first k lists and of the first j records of the next. -/
def pathsTo (LL : List (List R)) (k j : Nat) : List ByteArray := ((LL.take k).flatten ++ ((LL[k]?).getD []).take j).foldl (fun P r => insP r.p P) []
theorem to_next {LL : List (List R)} {k : Nat} (hk : k < LL.length) : pathsTo LL (k + 1) 0 = pathsTo LL k (LL[k].length) := by
  unfold pathsTo
  rw [List.take_zero, List.append_nil, List.take_add_one, List.getElem?_eq_getElem hk, Option.toList_some, List.flatten_append, List.flatten_singleton, Option.getD_some, List.take_length]
theorem to_end (LL : List (List R)) : pathsTo LL LL.length 0 = pathsL LL := by
  unfold pathsTo pathsL
  rw [List.take_zero, List.append_nil, List.take_length]
theorem to_step {LL : List (List R)} {k j : Nat} (hk : k < LL.length) (hj : j < LL[k].length) : pathsTo LL k (j + 1) = insP LL[k][j].p (pathsTo LL k j) := by
  unfold pathsTo
  rw [List.getElem?_eq_getElem hk, Option.getD_some, List.take_add_one, List.getElem?_eq_getElem hj, Option.toList_some, ← List.append_assoc, List.foldl_append]
  rfl
theorem to_ups (LL : List (List R)) (k j : Nat) : Ups (pathsTo LL k j) := (fold_ins _ [] List.Pairwise.nil).1
end Go.Proofs.YtibekkfbpmloiabGreatDoor.Recs
