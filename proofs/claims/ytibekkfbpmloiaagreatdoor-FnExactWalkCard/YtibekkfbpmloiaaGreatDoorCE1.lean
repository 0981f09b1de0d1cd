/- Parts of several texts of mine in one file (each begins with its own remark). -/
import Derived.Test.YtibekkfbpmloiaaGreatDoorCA1
import Derived.Test.YtibekkfbpmloiaaGreatDoorCA10
import Derived.Test.YtibekkfbpmloiaaGreatDoorCA11
import Derived.Test.YtibekkfbpmloiaaGreatDoorCA12
import Derived.Test.YtibekkfbpmloiaaGreatDoorCA14
import Derived.Test.YtibekkfbpmloiaaGreatDoorCA15
import Derived.Test.YtibekkfbpmloiaaGreatDoorCA17
import Derived.Test.YtibekkfbpmloiaaGreatDoorCA2
import Derived.Test.YtibekkfbpmloiaaGreatDoorCA3
import Derived.Test.YtibekkfbpmloiaaGreatDoorCA4
import Derived.Test.YtibekkfbpmloiaaGreatDoorCA5
import Derived.Test.YtibekkfbpmloiaaGreatDoorCA6
import Derived.Test.YtibekkfbpmloiaaGreatDoorCA7
import Derived.Test.YtibekkfbpmloiaaGreatDoorCA8
import Derived.Test.YtibekkfbpmloiaaGreatDoorCB1
import Derived.Test.YtibekkfbpmloiaaGreatDoorCB10
import Derived.Test.YtibekkfbpmloiaaGreatDoorCB3
import Derived.Test.YtibekkfbpmloiaaGreatDoorCB4
import Derived.Test.YtibekkfbpmloiaaGreatDoorCB5
import Derived.Test.YtibekkfbpmloiaaGreatDoorCB8
import Derived.Test.YtibekkfbpmloiaaGreatDoorCB9
import Derived.Test.YtibekkfbpmloiaaGreatDoorChecked
import Derived.Test.YtibekkfbpmloiaaGreatDoorShelf
import Derived.Test.YtibekkfbpmloiaaGreatDoorProg
import Derived.Test.YtibekkfbpmloiaaGreatDoorRows
import Derived.Lib.Join
import Derived.WalkKit
import Derived.Lib.Strings
import Derived.Deep.Slices
import Derived.OpenShut
import Derived.ShutString
import Derived.ChangeArms
import Derived.WideShapes
import Derived.Lib.LaidTab
import Derived.BigQuiet
import Derived.Deep.QuietTactic
import Derived.Deep.RegionHeld3
import Derived.StillTailTactics
import Derived.Deep.Draws
import Derived.Deep.LoopGhost
import Derived.WalkSpells
import Derived.WalkSmall
import Derived.Lib.OthersKept
import Derived.Lib.Hide
import Derived.Laws.OwnMore
import Derived.BigRegion
import Derived.Laws.BytesArg
import Derived.WalkLawsBesides
import Derived.RangeFuncNested
import Derived.RangeFuncBound
import Derived.RangeFuncCalls
import Derived.RangeFuncLeaves
import Derived.RangeFuncBox
import Derived.Shelf.Abstract
import Derived.Shelf.RegionOpen
import Derived.OwnWalkIn
import Derived.TacticsInMore
import Derived.LoopNIn
import Derived.LoopIn
import Derived.Stop.LaidErr
import Derived.LaidEql
import Derived.Stop.Asserts
import Derived.Below
import Derived.Stop.LaidTwo
import Derived.ChangeVars
import Derived.Deep.DeepHandedRow
import Derived.Deep.RegionWith
import Derived.OneCell
import Derived.Lib.SliceRun
import Derived.Lib.Overlaps
import Derived.Lib.AppendZerosOnto
import Derived.Laws.NewBlocks
import Derived.Laws.IdiomCopy
import Derived.Deep.RegionLaw
import Derived.Deep.AppendLies
import Derived.Laws.EntriesVeiled
import Derived.Laws.AppendOwn
/- Plain facts on paths: a path is its parent and one part; the order of paths is strict and total; what is below a path follows it at once. -/
namespace Go.Proofs.YtibekkfbpmloiaaGreatDoor

theorem lessP_between : ∀ (B A C : List (List UInt8)), lessP B A = true → lessP A (B ++ C) = true → belowP A B = true
  | [], [], _, h, _ => by simp [lessP] at h
  | [], _ :: _, _, _, _ => by simp [belowP]
  | _ :: _, [], _, h, _ => by simp [lessP] at h
  | b :: B, a :: A, C, h, k => by
    simp only [List.cons_append, lessP] at h k
    by_cases e : b = a
    · subst e
      simp only [if_true] at h k
      have := lessP_between B A C h k
      simp [belowP] at this ⊢
      exact this
    · rw [if_neg e] at h
      rw [if_neg (fun x => e x.symm)] at k
      rw [bytesLess_asymm b a h] at k
      cases k
theorem belowP_split {A B : List (List UInt8)} (h : belowP A B = true) : ∃ C, A = B ++ C := by
  unfold belowP at h
  simp only [Bool.and_eq_true, beq_iff_eq] at h
  exact ⟨A.drop B.length, by conv => lhs; rw [← List.take_append_drop B.length A, h.2]⟩

/-! ### A path is its parent and one part -/
end Go.Proofs.YtibekkfbpmloiaaGreatDoor

/- Resolving a path in a tree, part by part, and what comes out at once. -/
namespace Go.Proofs.YtibekkfbpmloiaaGreatDoor.Recs
open Go.RowKit Paths

theorem pre_up {q : ByteArray} (h : pathB q.data.toList = true) {i j : Nat} (hij : i < j) (hj : j < nparts q) : pre q i ∈ ups (pre q j) := by
  rw [up_below (pre_path h j), pre_cut h, pre_cut h]
  unfold belowP
  unfold nparts at hj
  simp only [Bool.and_eq_true, decide_eq_true_eq, beq_iff_eq, List.length_take]
  refine ⟨by omega, ?_⟩
  rw [List.take_take]
  congr 1
  omega
theorem pre_ups {q : ByteArray} (h : pathB q.data.toList = true) {i : Nat} (hi : i + 1 < nparts q) : pre q i ∈ ups q := by
  have := pre_up h (i := i) (j := nparts q - 1) (by omega) (by omega)
  rwa [pre_last (nparts q - 1) (by omega)] at this
theorem dir_up {t : List R} (ht : IsTree t) {q : ByteArray} {r : R} (hr : recAt t q = some r) {a : ByteArray} (ha : a ∈ ups q) : ∃ x, recAt t a = some x ∧ x.k = 3 := by
  obtain ⟨hm, rfl⟩ := recAt_mem hr
  obtain ⟨n, hn, rfl, hk⟩ := housed_ups ht.housed (ht.path r hm) r hm rfl a ha
  exact ⟨n, recAt_of ht.sorted hn, hk⟩
end Go.Proofs.YtibekkfbpmloiaaGreatDoor.Recs

/- Adding a node to a tree and removing one, plain: where it goes, and that a tree stays a tree. -/
namespace Go.Proofs.YtibekkfbpmloiaaGreatDoor.Recs
open Go.RowKit Paths

theorem lessR_trans {x y z : R} (h : lessR x y = true) (k : lessR y z = true) : lessR x z = true := lessP_trans _ _ _ h k
end Go.Proofs.YtibekkfbpmloiaaGreatDoor.Recs

/- Trees with what is directly below each node, plain. -/
namespace Go.Proofs.YtibekkfbpmloiaaGreatDoor.Recs
open Go.RowKit Paths

theorem mem_kids {t : List R} {p : ByteArray} {c : R} : c ∈ kids t p ↔ c ∈ t ∧ parO c.p = p := by unfold kids; rw [List.mem_filter, decide_eq_true_eq]
theorem lastB_data (p : ByteArray) : (lastB p).data.toList = (cutAt 47 p.data.toList).getLast (cutAt_ne 47 _) := rfl
theorem sorted_filter {t : List R} (h : Sorted t) (f : R → Bool) : Sorted (t.filter f) := List.Pairwise.filter _ h
theorem up_self {q : ByteArray} (h : pathB q.data.toList = true) : q ∉ ups q := fun hm => by
  have := ups_less h q hm
  rw [lessP_irrefl] at this
  cases this
/-- Two that lie below the same, one less than the other: so is all that is below it. -/
theorem less_below {a b c : ByteArray} (ha : pathB a.data.toList = true) (hb : pathB b.data.toList = true) (hc : pathB c.data.toList = true) (hpar : parO a = parO b)
    (hl : lessP (cutAt 47 a.data.toList) (cutAt 47 b.data.toList) = true) (hu : a ∈ ups c) : lessP (cutAt 47 c.data.toList) (cutAt 47 b.data.toList) = true := by
  rw [up_below hc] at hu
  rcases Bool.eq_false_or_eq_true (lessP (cutAt 47 c.data.toList) (cutAt 47 b.data.toList)) with h | h
  · exact h
  exfalso
  have hne : cutAt 47 b.data.toList ≠ cutAt 47 c.data.toList := by
    intro e
    have hbl : (cutAt 47 a.data.toList).length = (cutAt 47 b.data.toList).length := by
      rcases parent_cases ha with ⟨a1, a2, _⟩ | ⟨_, a2, a3, _⟩ <;> rcases parent_cases hb with ⟨b1, b2, _⟩ | ⟨_, b2, b3, _⟩
      · rw [a2, b2]; rfl
      · exact absurd ((by rw [← parO_data, ← hpar, parO_data]; exact a1) : parentL b.data.toList = []) b3
      · exact absurd ((by rw [← parO_data, hpar, parO_data]; exact b1) : parentL a.data.toList = []) a3
      · have e1 : parentL a.data.toList = parentL b.data.toList := by rw [← parO_data, ← parO_data, hpar]
        rw [e1, b2] at a2
        have := congrArg List.length a2
        rw [List.length_dropLast, List.length_dropLast] at this
        have := cutAt_pos 47 a.data.toList
        have := cutAt_pos 47 b.data.toList
        omega
    unfold belowP at hu
    simp only [Bool.and_eq_true, decide_eq_true_eq] at hu
    rw [← e] at hu
    omega
  have h2 : lessP (cutAt 47 b.data.toList) (cutAt 47 c.data.toList) = true := by
    rcases Bool.eq_false_or_eq_true (lessP (cutAt 47 b.data.toList) (cutAt 47 c.data.toList)) with h3 | h3
    · exact h3
    · exact absurd (lessP_total _ _ h3 h) hne
  obtain ⟨C, hC⟩ := belowP_split hu
  rw [hC] at h2
  have hbel := lessP_between _ _ _ hl h2
  rw [← up_below hb] at hbel
  have hab : a ∈ ups (parO b) ∨ a = parO b := by
    by_cases hp : parO b = ByteArray.empty
    · rw [ups_step hb, if_pos (parO_empty.1 hp)] at hbel; cases hbel
    · rw [ups_of_par hb hp, List.mem_cons] at hbel
      rcases hbel with h3 | h3
      · exact .inr h3
      · exact .inl h3
  by_cases hp : parO a = ByteArray.empty
  · rw [hp] at hpar
    rw [← hpar] at hab
    rcases hab with h3 | h3
    · exact absurd h3 (by
        intro h3
        have : ups ByteArray.empty = [] := by decide
        rw [this] at h3; cases h3)
    · exact path_nonempty ha h3
  · have hpp := (parts_parent ha (fun e => hp (parO_empty.2 e))).1
    have hup : parO a ∈ ups a := by rw [ups_of_par ha hp]; exact List.mem_cons_self ..
    rw [← hpar] at hab
    rcases hab with h3 | h3
    · exact up_self ha (ups_trans ha a (parO a) hup h3)
    · rw [← h3] at hup
      exact up_self ha hup
end Go.Proofs.YtibekkfbpmloiaaGreatDoor.Recs

/- Trees, plain: all that is below a path, by what is directly below it; what putting a node in and taking one out do to what is directly below. -/
namespace Go.Proofs.YtibekkfbpmloiaaGreatDoor.Recs
open Go.RowKit Paths

/-- On the way from a path up to p (or the root): the one directly below p. -/
theorem way_down {p : ByteArray} {x : ByteArray} (hx : pathB x.data.toList = true) : (p = ByteArray.empty ∨ p ∈ ups x) → ∃ c, (c = x ∨ c ∈ ups x) ∧ parO c = p ∧ pathB c.data.toList = true := by
  refine path_ind (P := fun x => (p = ByteArray.empty ∨ p ∈ ups x) → ∃ c, (c = x ∨ c ∈ ups x) ∧ parO c = p ∧ pathB c.data.toList = true) ?_ ?_ x hx
  · intro q hq hn h
    refine ⟨q, .inl rfl, ?_, hq⟩
    rcases h with rfl | h
    · exact parO_empty.2 hn
    · rw [ups_step hq, if_pos hn] at h; cases h
  · intro q hq hn hpp ih h
    have hu : ups q = parO q :: ups (parO q) := by rw [ups_step hq, if_neg hn]
    by_cases hp : parO q = p
    · exact ⟨q, .inl rfl, hp, hq⟩
    · obtain ⟨c, hc, h1, h2⟩ := ih (by
        rcases h with h | h
        · exact .inl h
        · rw [hu, List.mem_cons] at h
          rcases h with h | h
          · exact absurd h.symm hp
          · exact .inr h)
      refine ⟨c, .inr ?_, h1, h2⟩
      rw [hu, List.mem_cons]
      exact hc
theorem kids_sorted {t : List R} (h : Sorted t) (p : ByteArray) : Sorted (kids t p) := sorted_filter h _
/-- What is below a path: each that is directly below it, with all that is below that. -/
theorem all_kids {t : List R} (ht : IsTree t) (p : ByteArray) : allT t p = (kids t p).flatMap fun c => c :: subT t c.p := by
  have hs := ht.sorted
  have hpath := ht.path
  apply sorted_ext
  · unfold allT
    split
    · exact hs
    · exact sorted_filter hs _
  · unfold Sorted
    rw [List.pairwise_flatMap]
    constructor
    · intro c hc
      rw [List.pairwise_cons]
      refine ⟨fun x hx => ?_, sorted_filter hs _⟩
      obtain ⟨h1, h2⟩ := mem_sub.1 hx
      exact ups_less (hpath x h1) _ h2
    · refine (kids_sorted hs p).imp_of_mem ?_
      intro c d hc hd hl x hx y hy
      obtain ⟨hct, hcp⟩ := mem_kids.1 hc
      obtain ⟨hdt, hdp⟩ := mem_kids.1 hd
      have h1 : lessR x d = true := by
        rcases List.mem_cons.1 hx with rfl | hx
        · exact hl
        · obtain ⟨h1, h2⟩ := mem_sub.1 hx
          exact less_below (hpath c hct) (hpath d hdt) (hpath x h1) (hcp.trans hdp.symm) hl h2
      rcases List.mem_cons.1 hy with rfl | hy
      · exact h1
      · obtain ⟨h3, h4⟩ := mem_sub.1 hy
        exact lessR_trans h1 (ups_less (hpath y h3) _ h4)
  · intro x
    rw [List.mem_flatMap]
    constructor
    · intro hx
      have hxt : x ∈ t ∧ (p = ByteArray.empty ∨ p ∈ ups x.p) := by
        unfold allT at hx
        split at hx
        · exact ⟨hx, .inl (by assumption)⟩
        · exact ⟨(mem_sub.1 hx).1, .inr (mem_sub.1 hx).2⟩
      obtain ⟨c, hc, h1, h2⟩ := way_down (hpath x hxt.1) hxt.2
      rcases hc with rfl | hc
      · exact ⟨x, mem_kids.2 ⟨hxt.1, h1⟩, List.mem_cons_self ..⟩
      · obtain ⟨n, hn, rfl, _⟩ := housed_ups ht.housed (hpath x hxt.1) x hxt.1 rfl c hc
        exact ⟨n, mem_kids.2 ⟨hn, h1⟩, List.mem_cons_of_mem _ (mem_sub.2 ⟨hxt.1, hc⟩)⟩
    · rintro ⟨c, hc, hx⟩
      obtain ⟨hct, rfl⟩ := mem_kids.1 hc
      have hcp := hpath c hct
      unfold allT
      by_cases hp : parO c.p = ByteArray.empty
      · rw [if_pos hp]
        rcases List.mem_cons.1 hx with rfl | hx
        · exact hct
        · exact (mem_sub.1 hx).1
      · rw [if_neg hp]
        have hup : parO c.p ∈ ups c.p := by rw [ups_of_par hcp hp]; exact List.mem_cons_self ..
        rcases List.mem_cons.1 hx with rfl | hx
        · exact mem_sub.2 ⟨hct, hup⟩
        · obtain ⟨h1, h2⟩ := mem_sub.1 hx
          exact mem_sub.2 ⟨h1, ups_trans (hpath x h1) _ c.p h2 hup⟩
end Go.Proofs.YtibekkfbpmloiaaGreatDoor.Recs

/- Queries of a stack, plain: what is visible as a tree; resolving a path; what is below it, and directly below it. -/
namespace Go.Proofs.YtibekkfbpmloiaaGreatDoor.Recs
set_option maxRecDepth 100000
open Go.RowKit Paths

theorem vis_at {LL : List (List R)} (hs : ∀ l ∈ LL, Fine l) {q : ByteArray} (h : seenP (winC LL q) = true) : recAt (visT LL) q = some (nodeOf (winC LL q).1) := by
  have hp : (nodeOf (winC LL q).1).p = q := by rw [node_p, seen_p h]
  have hm : nodeOf (winC LL q).1 ∈ visT LL := (visT_mem hs).2 (by rw [hp]; exact ⟨h, rfl⟩)
  have := recAt_of (vis_tree hs).sorted hm
  rw [hp] at this
  exact this
theorem at_vis {LL : List (List R)} (hs : ∀ l ∈ LL, Fine l) {q : ByteArray} {x : R} (h : recAt (visT LL) q = some x) : seenP (winC LL q) = true ∧ x = nodeOf (winC LL q).1 := by
  obtain ⟨hm, rfl⟩ := recAt_mem h
  exact (visT_mem hs).1 hm
/-- A visible path resolves. -/
theorem qFrom_seen {LL : List (List R)} (hs : ∀ l ∈ LL, Fine l) {q : ByteArray} (hq : pathB q.data.toList = true) (h : seenP (winC LL q) = true) : ∀ n i, nparts q - i = n → i < nparts q → qFrom LL q i = (winC LL q, 0) := by
  intro n
  induction n with
  | zero => intro i hi hlt; omega
  | succ n ih =>
    intro i hi hlt
    by_cases he : i + 1 = nparts q
    · have e := pre_last (q := q) i (by omega)
      rw [qFrom_last he (by rw [e]; exact h), e]
    · obtain ⟨x, hx, hk⟩ := dir_up (vis_tree hs) (vis_at hs h) (pre_ups hq (i := i) (by omega))
      obtain ⟨h1, rfl⟩ := at_vis hs hx
      rw [qFrom_step (by omega) h1 hk]
      exact ih (i + 1) (by omega) (by omega)
/-- What is below one that is no directory. -/
theorem sub_file {LL : List (List R)} (hs : ∀ l ∈ LL, Fine l) {q : ByteArray} (hk : (winC LL q).1.k ≠ 3) : subT (visT LL) q = [] := by
  unfold subT
  rw [List.filter_eq_nil_iff]
  intro c hc hu
  rw [isUp_iff] at hu
  have ht := vis_tree hs
  obtain ⟨x, hx, h3⟩ := dir_up ht (recAt_of ht.sorted hc) hu
  obtain ⟨_, rfl⟩ := at_vis hs hx
  exact hk h3
/-- Of those directly below, one after the other, each with all that is below it. -/
def walkK (T K : List R) : List ByteArray := (K.flatMap fun c => c :: subT T c.p).map fun r => r.p
theorem walkK_step {T K : List R} {k : Nat} (hk : k < K.length) : walkK T (K.take (k + 1)) = walkK T (K.take k) ++ [K[k].p] ++ (subT T K[k].p).map fun r => r.p := by
  unfold walkK
  rw [List.take_add_one, List.getElem?_eq_getElem hk, List.flatMap_append, List.map_append]
  simp
theorem walkK_all {LL : List (List R)} (hs : ∀ l ∈ LL, Fine l) (q : ByteArray) : walkK (visT LL) (kids (visT LL) q) = walkT LL q := by
  unfold walkK walkT
  rw [all_kids (vis_tree hs)]
theorem walkT_sub {LL : List (List R)} {q : ByteArray} (h : q ≠ ByteArray.empty) : walkT LL q = (subT (visT LL) q).map fun r => r.p := by unfold walkT allT; rw [if_neg h]
/-- A path of its parent and its last part. -/
theorem join_kid {c : ByteArray} (h : pathB c.data.toList = true) : c.data.toList = if (parO c).size = 0 then (lastB c).data.toList else (parO c).data.toList ++ 47 :: (lastB c).data.toList := by
  have hg : ∀ (L : List (List UInt8)) (hn : L ≠ []) (x : List UInt8), L = [x] → L.getLast hn = x := by
    intro L hn x e
    subst e
    rfl
  rcases parent_cases h with ⟨h1, h2, _⟩ | ⟨h1, h2, h3, h4, _⟩
  · have e : parO c = ByteArray.empty := parO_empty.2 h1
    rw [e, if_pos (show ByteArray.empty.size = 0 from rfl), lastB_data, hg _ _ _ h2]
  · have hne : (parO c).size ≠ 0 := by
      rw [Lib.size_eq, parO_data]
      intro e
      exact h3 (List.eq_nil_of_length_eq_zero e)
    rw [if_neg hne, lastB_data, parO_data]
    exact h4
end Go.Proofs.YtibekkfbpmloiaaGreatDoor.Recs

/- Queries: the names directly below a path, and all paths below it, of the model. -/
namespace Go.Proofs.YtibekkfbpmloiaaGreatDoor.Recs
set_option maxRecDepth 100000
open Go.RowKit Paths

theorem bts_app (P Q : List ByteArray) : bts (P ++ Q) = bts P ++ bts Q := by simp [bts]
end Go.Proofs.YtibekkfbpmloiaaGreatDoor.Recs

/- Queries: all paths below a path, of the model. -/
namespace Go.Proofs.YtibekkfbpmloiaaGreatDoor.Recs
set_option maxRecDepth 100000
open Go.RowKit Paths

theorem walkK_len {T K : List R} (k : Nat) : (walkK T (K.take k)).length ≤ (walkK T K).length := by
  have e : walkK T K = walkK T (K.take k) ++ walkK T (K.drop k) := by
    unfold walkK
    rw [← List.map_append, ← List.flatMap_append, List.take_append_drop]
  rw [e, List.length_append]
  omega
theorem join_of {c : ByteArray} (hc : pathB c.data.toList = true) (w : World) : Calls Tryz.prog 58 #[.string (parO c), .string (lastB c)] w fun e w' => e = .returned (.string c) ∧ w = w' := by
  have hj := join_kid hc
  have hl : (lastB c).size ≤ 65536 := by
    have h1 := congrArg List.length hj
    have h2 := pathB_len hc
    rw [Lib.size_eq]
    split at h1
    · omega
    · rw [List.length_append, List.length_cons] at h1; omega
  by_cases h0 : (parO c).size = 0
  · rw [if_pos h0] at hj
    refine (l01Join_root _ _ w h0).mono ?_
    rintro e w1 ⟨rfl, rfl⟩
    rw [← hj]
    exact ⟨rfl, rfl⟩
  · rw [if_neg h0] at hj
    refine (l01Join_deep _ _ w (by omega) ?_ hl).mono ?_
    · have h1 := congrArg List.length hj
      have h2 := pathB_len hc
      rw [List.length_append] at h1
      rw [Lib.size_eq]
      omega
    rintro e w1 ⟨rfl, rfl⟩
    rw [← hj]
    exact ⟨rfl, rfl⟩

set_option maxHeartbeats 6400000 in
theorem l10Walk_any (v : Value) (LL : List (List R)) (hl : LL.length ≤ 5) (hok : ∀ l ∈ LL, layerOK l = true) :
    ∀ n q, (q.size = 0 ∨ pathB q.data.toList = true) → 5 ≤ deep q + n → ∀ w, StkSl w v LL →
      Calls Tryz.prog 40 #[v, .string q] w fun e w' => ∃ x, e = .returned x ∧ Below w.heap.size w w' ∧ w'.ownsRow w.heap.size 9 1 x (bts (walkT LL q)).length ((bts (walkT LL q)).map strV) ∧ x ≠ .slice none 0 0 := by
  intro n
  induction n with
  | zero =>
    intro q hq hd
    exfalso
    rcases hq with h | h
    · have : q = ByteArray.empty := ByteArray.ext (Array.eq_empty_of_size_eq_zero h)
      subst this
      have : deep ByteArray.empty = 0 := if_pos rfl
      omega
    · have := (deep_kid h).2
      omega
  | succ n ih =>
    intro q hq hd w h
    obtain ⟨i0, hi, hz0, hz1, hz2⟩ := info_parts strInfo
    have hfine : ∀ l ∈ LL, Fine l := fun l hm => fine_layer (hok l hm)
    have hP80 := pathsL_len (LL := LL) (fun l hm => layer_len (hok l hm)) hl
    have hT := vis_tree hfine
    have hV80 := vis_len (LL := LL)
    have hb0 : Below w.heap.size w (w.alloc (.cells #[] 9)) := (Below.refl _ _).alloc (Nat.le_refl _) _
    have hown0 : (w.alloc (.cells #[] 9)).ownsRow w.heap.size 9 1 (.slice (some ⟨w.heap.size, 0, none⟩) 0 0) 0 [] := World.ownsRow_lit w #[] 0 (Nat.le_refl _) (Nat.zero_le _) rfl
    have HNA := l10Names_any v LL q _ (h.below hb0) hl hok
    have HND : Hid (∀ p, pathB p.data.toList = true → ∀ W, Below w.heap.size w W → Calls Tryz.prog 47 #[v, .string p] W fun e w'' => e = .returned (resQ (qFrom LL p 0)) ∧ Below W.heap.size W w'') := fun p hp W hW => l10Node_any v LL p W (h.below hW) hl hok hp
    have HKD : Hid (∀ c ∈ kids (visT LL) q, pathB c.p.data.toList = true ∧ parO c.p = q ∧ seenP (winC LL c.p) = true ∧ qFrom LL c.p 0 = (winC LL c.p, 0) ∧ 5 ≤ deep c.p + n) := fun c hc => by
      obtain ⟨h1, h2⟩ := mem_kids.1 hc
      have hp := hT.path c h1
      have hs := ((visT_mem hfine).1 h1).1
      refine ⟨hp, h2, hs, qFrom_seen hfine hp hs _ 0 rfl (nparts_pos _), ?_⟩
      have := (deep_kid hp).1
      rw [h2] at this
      omega
    have HSB : Hid (∀ c ∈ kids (visT LL) q, (winC LL c.p).1.k ≠ 3 → subT (visT LL) c.p = []) := fun c _ hk => sub_file hfine hk
    have HIH : Hid (∀ c ∈ kids (visT LL) q, ∀ W, Below w.heap.size w W → Calls Tryz.prog 40 #[v, .string c.p] W fun e w' => ∃ x, e = .returned x ∧ Below W.heap.size W w' ∧ w'.ownsRow W.heap.size 9 1 x (bts ((subT (visT LL) c.p).map fun r => r.p)).length ((bts ((subT (visT LL) c.p).map fun r => r.p)).map strV) ∧ x ≠ .slice none 0 0) := fun c hc W hW => by
      obtain ⟨h1, _⟩ := mem_kids.1 hc
      have hp := hT.path c h1
      have := ih c.p (.inr hp) (HKD.out c hc).2.2.2.2 W (h.below hW)
      rw [walkT_sub (path_nonempty hp)] at this
      exact this
    have HALL := Lib.hid (walkK_all hfine q)
    have HLE : Hid (∀ k, (walkK (visT LL) ((kids (visT LL) q).take k)).length ≤ 80) := fun k => by
      have h1 := walkK_len (T := visT LL) (K := kids (visT LL) q) k
      rw [HALL.out] at h1
      unfold walkT at h1
      rw [List.length_map] at h1
      have h2 : (allT (visT LL) q).length ≤ (visT LL).length := by
        unfold allT subT
        split
        · exact Nat.le_refl _
        · exact List.length_filter_le _ _
      omega
    have hKl : (kids (visT LL) q).length ≤ 80 := Nat.le_trans (List.length_filter_le _ _) (by omega)
    have HDL : Hid (dirT LL q = (kids (visT LL) q).map fun r => lastB r.p) := rfl
    obtain ⟨vA, vcap, rfl⟩ := h.form
    clear hfine h hT ih hV80
    generalize visT LL = T at *
    generalize kids T q = K at *
    go_enter Tryz.func40, Tryz.ntmps40
    go_wp2_with fail
    refine HNA.mono ?_
    rintro e w1 ⟨pv0, rfl, hb1, hpo, -⟩
    rw [HDL.out] at hpo
    have c1 := hb0.trans (hb1.mono hb0.size)
    have HO0 := Lib.hid (own_below hown0 hb1)
    have HKL : Hid ((bts (K.map fun r => lastB r.p)).length = K.length) := by show _ = _; rw [bts_len, List.length_map]
    obtain ⟨sA, scap, hse⟩ := own_form hpo
    subst hse
    have HPO := Lib.hid hpo
    have HKC : Hid (∀ W, Below w1.heap.size w1 W → ∀ i (hi : i < K.length), ∃ g, sA = some ⟨g, 0, none⟩ ∧ W.cell? ⟨g, i, none⟩ = some (.string (lastB K[i].p))) := fun W hW i hi => by
      have ho := own_below HPO.out hW
      obtain ⟨A2, c2, e2, _, hc2⟩ := part_sl ho
      cases e2
      obtain ⟨g, eg, _, hcell⟩ := hc2 (by rw [HKL.out]; omega)
      refine ⟨g, eg, ?_⟩
      have := hcell i (by rw [HKL.out]; exact hi)
      rw [this]
      unfold bts
      simp only [List.getElem_map]
      rfl
    clear hpo HNA hown0 hb1 hb0
    rw [HKL.out]
    go_wp2_with fail
    go_loopw [5, 7] (fun f i wr => ∃ (k : Nat) (M : List ByteArray), k ≤ K.length ∧ i = .int .i64 k ∧ Hid (M = walkK T (K.take k)) ∧ Hid (FirstRow wr w.heap.size w1.heap.size f (bts M)) ∧ Below w1.heap.size w1 wr) (fun _ i _ => K.length - (intOf i).toNat)
    case atStart => exact ⟨0, [], by omega, rfl, rfl, .inl ⟨rfl, rfl⟩, Below.refl _ _⟩
    case round =>
      obtain ⟨k, M, hk, rfl, HM, HRO, hbw⟩ := hrel
      have hbv := c1.trans (hbw.mono c1.size)
      by_cases hlt : k < K.length
      · have hm := List.getElem_mem hlt
        obtain ⟨hp, hpar, hsn, hqf, -⟩ := HKD.out _ hm
        obtain ⟨g, hsA, e1⟩ := HKC.out wr hbw k hlt
        have HJ := join_of hp wr
        rw [hpar] at HJ
        have HIHc := HIH.out _ hm
        have HSBc := HSB.out _ hm
        have HNXT : Hid (M ++ [K[k].p] ++ (subT T K[k].p).map (fun r => r.p) = walkK T (K.take (k + 1))) := by show _ = _; rw [walkK_step hlt, HM.out]
        have hi1 : (k : Int) < (K.length : Int) := by omega
        have hi0 : (0 : Int) ≤ (k : Int) := by omega
        have hMl : (bts M).length ≤ 80 := by rw [bts_len, HM.out]; exact HLE.out k
        clear hm hpar hsn
        generalize hsub : (subT T K[k].p).map (fun r => r.p) = sub at *
        replace HSBc : (winC LL K[k].p).1.k ≠ 3 → sub = [] := fun h => by rw [← hsub, HSBc h]; rfl
        clear hsub
        generalize K[k] = c at *
        generalize winC LL c.p = P at *
        subst hsA
        have hzz := hbw.size
        rcases HRO.out with ⟨hM0, hf0⟩ | ⟨hown, hnn⟩
        · subst hf0
          have HM0 := Lib.hid hM0
          clear hM0
          go_wp2_with fail
          refine HJ.mono ?_
          rintro e w2 ⟨rfl, rfl⟩
          go_wp2_with (first
            | (at_builtin; refine wpList_append_first rfl _ _ 33 rfl 9 i0 (.string ByteArray.empty) 1 16 Tryz.underlying33 hi hz0 hz1 hz2 rfl _ rfl ⟨wr.heap.size, 0, none⟩ 1 1 [.string c.p] rfl rfl (cell_one_new _ _ _) (by omega) (by unfold maxLen; omega) (by omega) ?_; intro v9 w9 hown9 hgrow9 hnn9))
          have d9 := (hbw.alloc hbw.size _).grown hgrow9 (hbw.alloc hbw.size _).size (fun j hj => by cases hj)
          replace hown9 : w9.ownsRow w1.heap.size 9 1 v9 (bts (M ++ [c.p])).length ((bts (M ++ [c.p])).map strV) := by
            rw [bts_snoc, HM0.out]
            exact own_low hown9 (by simp; omega)
          obtain ⟨vA9, vc9, hv9⟩ := own_form hown9
          subst hv9
          have HRN := HND.out c.p hp w9 (c1.trans (d9.mono c1.size))
          rw [hqf] at HRN
          unfold resQ R.nod at HRN
          have HRO9 := Lib.hid hown9
          have HNN9 := Lib.hid hnn9
          have HD9 := Lib.hid d9
          clear hown9 hnn9
          go_wp2_with fail
          refine HRN.mono ?_
          rintro e w10 ⟨rfl, hb10⟩
          have d10 := HD9.out.trans (hb10.mono HD9.out.size)
          have dA := d10.alloc d10.size (.cells #[.int .i64 P.1.k, .string P.1.p, .string P.1.b, .int .i64 P.1.m] 25)
          have bA := hb10.alloc hb10.size (.cells #[.int .i64 P.1.k, .string P.1.p, .string P.1.b, .int .i64 P.1.m] 25)
          have HROA := Lib.hid (own_below HRO9.out bA)
          by_cases hk3 : P.1.k = 3
          · have hd3 : (P.1.k == 3) = true := by simpa using hk3
            have HRC := HIHc _ (c1.trans (dA.mono c1.size))
            clear hk3
            go_wp2_with fail
            refine HRC.mono ?_
            rintro e w11 ⟨x2, rfl, hb11, hx2, hnx2⟩
            have d11 := dA.trans (hb11.mono dA.size)
            have hown11 := own_below HROA.out hb11
            rcases hx2.2 with ⟨e2, _⟩ | ⟨g2, cap2, cur2, e2, -, -, -, -, -⟩
            · exact absurd e2 hnx2
            subst e2
            have hcells := hx2.cells (g := g2) rfl
            have hone : ∀ u ∈ (bts sub).map strV, u.oneCell' = true := fun u hu => by obtain ⟨z, _, rfl⟩ := List.mem_map.1 hu; rfl
            have hlen2 : (bts (M ++ [c.p])).length + (bts sub).length ≤ 80 := by rw [← List.length_append, ← bts_app, bts_len, HNXT.out]; exact HLE.out _
            have hsz11 := d11.size
            have hl2 : ((bts sub).map strV).length = (bts sub).length * 1 := by simp
            have HX2 := Lib.hid hcells
            have HON := Lib.hid hone
            have HL2 := Lib.hid hl2
            clear hx2 hcells hone hl2
            go_wp2_with (first
              | (at_builtin; refine wpList_append_own _ rfl _ _ 33 rfl w1.heap.size 9 i0 (.string ByteArray.empty) 1 16 Tryz.underlying33 hi hz0 hz1 hz2 rfl (by decide) _ _ _ rfl hown11 ⟨g2, 0, none⟩ (bts sub).length cap2 ((bts sub).map strV) rfl HL2.out HX2.out HON.out (by unfold maxLen; omega) (by omega) (by omega) ?_; intro v12 w12 hown12 hgrow12 hnil12))
            exact ⟨⟨k + 1, M ++ [c.p] ++ sub, by omega, by go_num, HNXT.out, by
              show FirstRow _ _ _ _ _
              rw [bts_app]
              exact .inr ⟨⟨by rw [List.length_append, List.map_append]; exact hown12.1, by rw [List.length_append, List.map_append]; exact hown12.2⟩, fun e => HNN9.out (hnil12.1 e).1⟩, d11.grown hgrow12 d11.size (fun j hj => (hown11.lt j hj).1)⟩, by simp [intOf]; omega⟩
          · have hd3 : (P.1.k == 3) = false := by simpa using hk3
            have HN2 : Hid (M ++ [c.p] = walkK T (K.take (k + 1))) := by show _ = _; rw [← HNXT.out, HSBc hk3, List.append_nil]
            clear hk3
            go_wp2_with fail
            exact ⟨⟨k + 1, M ++ [c.p], by omega, by go_num, HN2, .inr ⟨HROA.out, HNN9.out⟩, dA⟩, by simp [intOf]; omega⟩
        · obtain ⟨fA, fcap, hfe⟩ := own_form hown
          subst hfe
          go_wp2_with fail
          refine HJ.mono ?_
          rintro e w2 ⟨rfl, rfl⟩
          go_wp2_with (first
            | (at_builtin; refine wpList_append_own _ rfl _ _ 33 rfl w1.heap.size 9 i0 (.string ByteArray.empty) 1 16 Tryz.underlying33 hi hz0 hz1 hz2 rfl (by decide) _ _ _ rfl (hown.alloc _) ⟨wr.heap.size, 0, none⟩ 1 1 [.string c.p] rfl rfl (cell_one_new _ _ _) (fun x hx => by simp at hx; subst hx; rfl) (by unfold maxLen; omega) (by omega) (by simp; omega) ?_; intro v9 w9 hown9 hgrow9 hnil9))
          have d9 := (hbw.alloc hbw.size _).grown hgrow9 (hbw.alloc hbw.size _).size (fun j hj => (hown.lt j hj).1)
          have hnn9 : v9 ≠ .slice none 0 0 := fun e => hnn (hnil9.1 e).1
          replace hown9 : w9.ownsRow w1.heap.size 9 1 v9 (bts (M ++ [c.p])).length ((bts (M ++ [c.p])).map strV) := by
            rw [bts_snoc]
            exact str_snoc hown9
          obtain ⟨vA9, vc9, hv9⟩ := own_form hown9
          subst hv9
          have HRN := HND.out c.p hp w9 (c1.trans (d9.mono c1.size))
          rw [hqf] at HRN
          unfold resQ R.nod at HRN
          have HRO9 := Lib.hid hown9
          have HNN9 := Lib.hid hnn9
          have HD9 := Lib.hid d9
          clear hown9 hnn9
          go_wp2_with fail
          refine HRN.mono ?_
          rintro e w10 ⟨rfl, hb10⟩
          have d10 := HD9.out.trans (hb10.mono HD9.out.size)
          have dA := d10.alloc d10.size (.cells #[.int .i64 P.1.k, .string P.1.p, .string P.1.b, .int .i64 P.1.m] 25)
          have bA := hb10.alloc hb10.size (.cells #[.int .i64 P.1.k, .string P.1.p, .string P.1.b, .int .i64 P.1.m] 25)
          have HROA := Lib.hid (own_below HRO9.out bA)
          by_cases hk3 : P.1.k = 3
          · have hd3 : (P.1.k == 3) = true := by simpa using hk3
            have HRC := HIHc _ (c1.trans (dA.mono c1.size))
            clear hk3
            go_wp2_with fail
            refine HRC.mono ?_
            rintro e w11 ⟨x2, rfl, hb11, hx2, hnx2⟩
            have d11 := dA.trans (hb11.mono dA.size)
            have hown11 := own_below HROA.out hb11
            rcases hx2.2 with ⟨e2, _⟩ | ⟨g2, cap2, cur2, e2, -, -, -, -, -⟩
            · exact absurd e2 hnx2
            subst e2
            have hcells := hx2.cells (g := g2) rfl
            have hone : ∀ u ∈ (bts sub).map strV, u.oneCell' = true := fun u hu => by obtain ⟨z, _, rfl⟩ := List.mem_map.1 hu; rfl
            have hlen2 : (bts (M ++ [c.p])).length + (bts sub).length ≤ 80 := by rw [← List.length_append, ← bts_app, bts_len, HNXT.out]; exact HLE.out _
            have hsz11 := d11.size
            have hl2 : ((bts sub).map strV).length = (bts sub).length * 1 := by simp
            have HX2 := Lib.hid hcells
            have HON := Lib.hid hone
            have HL2 := Lib.hid hl2
            clear hx2 hcells hone hl2
            go_wp2_with (first
              | (at_builtin; refine wpList_append_own _ rfl _ _ 33 rfl w1.heap.size 9 i0 (.string ByteArray.empty) 1 16 Tryz.underlying33 hi hz0 hz1 hz2 rfl (by decide) _ _ _ rfl hown11 ⟨g2, 0, none⟩ (bts sub).length cap2 ((bts sub).map strV) rfl HL2.out HX2.out HON.out (by unfold maxLen; omega) (by omega) (by omega) ?_; intro v12 w12 hown12 hgrow12 hnil12))
            exact ⟨⟨k + 1, M ++ [c.p] ++ sub, by omega, by go_num, HNXT.out, by
              show FirstRow _ _ _ _ _
              rw [bts_app]
              exact .inr ⟨⟨by rw [List.length_append, List.map_append]; exact hown12.1, by rw [List.length_append, List.map_append]; exact hown12.2⟩, fun e => HNN9.out (hnil12.1 e).1⟩, d11.grown hgrow12 d11.size (fun j hj => (hown11.lt j hj).1)⟩, by simp [intOf]; omega⟩
          · have hd3 : (P.1.k == 3) = false := by simpa using hk3
            have HN2 : Hid (M ++ [c.p] = walkK T (K.take (k + 1))) := by show _ = _; rw [← HNXT.out, HSBc hk3, List.append_nil]
            clear hk3
            go_wp2_with fail
            exact ⟨⟨k + 1, M ++ [c.p], by omega, by go_num, HN2, .inr ⟨HROA.out, HNN9.out⟩, dA⟩, by simp [intOf]; omega⟩
      · have HF : Hid (M = walkT LL q) := by show _ = _; rw [HM.out, List.take_of_length_le (by omega), HALL.out]
        have hi1 : ¬ ((k : Int) < (K.length : Int)) := by omega
        go_wp2
        go_ret
        exact ⟨_, rfl, hbv, by rw [← HF.out]; exact HRO.out.done (own_below HO0.out hbw) c1.size⟩
end Go.Proofs.YtibekkfbpmloiaaGreatDoor.Recs
