/- Several texts of mine in one file (each begins with its own remark). -/
import Derived.Test.YtjiljnfiofmpaaaGreatDoorBun9
import Derived.Test.YtjiljnfiofmpaaaGreatDoorBun20
/- A record put into a layer as the model's draws put it (what is above it is made, what is no directory gives way): a layer stays one. -/

namespace Go.Proofs.YtjiljnfiofmpaaaGreatDoor.Recs
open Go.RowKit Paths

/-- Sorted, housed, each record valid: a layer but for its length. -/
structure Lays (l : List R) : Prop where
  sorted : Sorted l
  housed : Housed l
  fault : ∀ r ∈ l, r.fault = 0
theorem layer_lays {l : List R} (h : layerOK l = true) : Lays l := ⟨layer_sorted h, layer_housed h, fun _ hr => layer_rec h hr⟩
theorem Lays.ok {l : List R} (h : Lays l) (hl : l.length ≤ 16) : layerOK l = true := layerOK_of hl h.fault h.sorted h.housed

/-- What stays beside the record r. -/
def keepX (r x : R) : Bool := decide (x.p ≠ r.p) && (decide (r.k = 3) || !isUp r.p x.p)
/-- The model's loop: behind 'done' the record has been laid. -/
def baseFrom (r : R) : List R → Bool → List R
  | [], done => if done then [] else [r]
  | x :: t, done => (if !done && lessR r x then [r] else []) ++ ((if keepX r x then [x] else []) ++ baseFrom r t (done || lessR r x))
theorem base_done (r : R) : ∀ l : List R, baseFrom r l true = l.filter (keepX r)
  | [] => rfl
  | x :: t => by
    simp only [baseFrom, Bool.not_true, Bool.false_and, Bool.true_or, base_done r t]
    rcases Bool.eq_false_or_eq_true (keepX r x) with h | h
    · simp [h]
    · simp [h]
theorem put_front {s : List R} {r : R} (h : ∀ y ∈ s, lessR r y = true) : putL s r = r :: s := by
  unfold putL
  have e1 : s.filter (fun x => lessR x r) = [] := by
    rw [List.filter_eq_nil_iff]
    intro y hy hn
    rw [lessR_asymm (h y hy)] at hn
    cases hn
  have e2 : s.filter (fun x => lessR r x) = s := by rw [List.filter_eq_self]; exact h
  rw [e1, e2]
  rfl
theorem put_cons {s : List R} {x r : R} (h : lessR x r = true) : putL (x :: s) r = x :: putL s r := by
  unfold putL
  rw [List.filter_cons_of_pos (p := fun y => lessR y r) h, List.filter_cons_of_neg (p := fun y => lessR r y) (by simp [lessR_asymm h])]
  rfl
theorem base_is (r : R) : ∀ l : List R, Sorted l → baseFrom r l false = putL (l.filter (keepX r)) r
  | [], _ => rfl
  | x :: t, hs => by
    unfold Sorted at hs
    rw [List.pairwise_cons] at hs
    simp only [baseFrom, Bool.not_false, Bool.true_and, Bool.false_or]
    rcases Bool.eq_false_or_eq_true (lessR r x) with h | h
    · rw [if_pos h, h, base_done]
      have hall : ∀ y ∈ (x :: t).filter (keepX r), lessR r y = true := by
        intro y hy
        rcases List.mem_cons.1 (List.mem_filter.1 hy).1 with rfl | hy2
        · exact h
        · exact lessR_trans h (hs.1 y hy2)
      rw [put_front hall]
      rcases Bool.eq_false_or_eq_true (keepX r x) with hk | hk
      · rw [List.filter_cons_of_pos hk, if_pos hk]; rfl
      · rw [List.filter_cons_of_neg (by rw [hk]; decide), if_neg (by rw [hk]; decide)]; rfl
    · rw [if_neg (by rw [h]; decide), h, base_is r t hs.2]
      rcases Bool.eq_false_or_eq_true (keepX r x) with hk | hk
      · have hne : x.p ≠ r.p := by
          unfold keepX at hk
          rw [Bool.and_eq_true, decide_eq_true_eq] at hk
          exact hk.1
        have hless : lessR x r = true := by
          rcases less_or hne with h1 | h1
          · exact h1
          · rw [h1] at h; cases h
        rw [List.filter_cons_of_pos hk, if_pos hk, put_cons hless]; rfl
      · rw [List.filter_cons_of_neg (by rw [hk]; decide), if_neg (by rw [hk]; decide)]; rfl
def baseL (l : List R) (r : R) : List R := baseFrom r l false
theorem mem_base {l : List R} (h : Sorted l) {r x : R} : x ∈ baseL l r ↔ x = r ∨ x ∈ l ∧ x.p ≠ r.p ∧ (r.k = 3 ∨ r.p ∉ ups x.p) := by
  unfold baseL
  rw [base_is r l h, mem_put, List.mem_filter]
  unfold keepX
  simp only [Bool.and_eq_true, Bool.or_eq_true, decide_eq_true_eq, Bool.not_eq_true', isUp_no]
  constructor
  · rintro (h1 | ⟨⟨h1, h2, h3⟩, _⟩)
    · exact .inl h1
    · exact .inr ⟨h1, h2, h3⟩
  · rintro (h1 | ⟨h1, h2, h3⟩)
    · exact .inl h1
    · exact .inr ⟨⟨h1, h2, h3⟩, h2⟩
theorem base_sorted {l : List R} (h : Sorted l) (r : R) : Sorted (baseL l r) := by
  unfold baseL
  rw [base_is r l h]
  exact put_sorted (List.Pairwise.filter _ h) r
theorem not_self {q : ByteArray} (h : pathB q.data.toList = true) : q ∉ ups q := fun hq => by
  have := ups_less h q hq
  rw [lessP_irrefl] at this
  cases this
theorem base_lays {l : List R} (h : Lays l) {r : R} (hr : r.fault = 0) (hhome : parentL r.p.data.toList ≠ [] → ∃ x ∈ l, x.p = parO r.p ∧ x.k = 3) : Lays (baseL l r) := by
  have hrp := (fault_path hr).1
  refine ⟨base_sorted h.sorted r, fun x hx hp => ?_, fun x hx => ?_⟩
  · rcases (mem_base h.sorted).1 hx with rfl | ⟨h1, h2, h3⟩
    · obtain ⟨y, hy, hyp, hyk⟩ := hhome hp
      have hup : parO x.p ∈ ups x.p := by rw [ups_step hrp, if_neg hp]; exact List.mem_cons_self ..
      refine ⟨y, (mem_base h.sorted).2 (.inr ⟨hy, fun e => not_self hrp (by have hh := hup; rw [hyp.symm.trans e] at hh; exact hh), .inr fun hq => ?_⟩), hyp, hyk⟩
      rw [hyp] at hq
      exact not_self (ups_path hrp _ hup) (ups_trans (ups_path hrp _ hup) _ _ hq hup)
    · have hxp := (fault_path (h.fault x h1)).1
      obtain ⟨y, hy, hyp, hyk⟩ := h.housed x h1 hp
      have hup : parO x.p ∈ ups x.p := by rw [ups_step hxp, if_neg hp]; exact List.mem_cons_self ..
      by_cases he : y.p = r.p
      · have hk : r.k = 3 := h3.resolve_right (fun hn => hn (by rw [← he, hyp]; exact hup))
        exact ⟨r, (mem_base h.sorted).2 (.inl rfl), by rw [← he, hyp], hk⟩
      · refine ⟨y, (mem_base h.sorted).2 (.inr ⟨hy, he, ?_⟩), hyp, hyk⟩
        rcases h3 with h3 | h3
        · exact .inl h3
        · refine .inr fun hq => h3 ?_
          rw [hyp] at hq
          exact ups_trans hxp _ _ hup hq
  · rcases (mem_base h.sorted).1 hx with rfl | ⟨h1, _⟩
    · exact hr
    · exact h.fault x h1

/-- The directory that is made above a record. -/
def dirR (q : ByteArray) : R := ⟨3, 493, q, ByteArray.empty, false⟩
theorem dir_fault {q : ByteArray} (h : pathB q.data.toList = true) : (dirR q).fault = 0 := by
  unfold R.fault dirR faultI
  simp [h]
/-- The record's parent is a directory of the list, or there is none. -/
def homed (l : List R) (q : ByteArray) : Bool := decide (parentL q.data.toList = []) || (recAt l (parO q)).any fun x => decide (x.k = 3)
/-- A record put into its place; n bounds how far up directories are made. -/
def lputF : Nat → List R → R → List R
  | 0, l, r => baseL l r
  | n + 1, l, r => baseL (if homed l r.p then l else lputF n l (dirR (parO r.p))) r
def lputL (l : List R) (r : R) : List R := lputF 4 l r
theorem lput_lays : ∀ (n : Nat) {l : List R} {r : R}, Lays l → r.fault = 0 → (cutAt 47 r.p.data.toList).length ≤ n → Lays (lputF n l r) ∧ r ∈ lputF n l r := by
  intro n
  induction n with
  | zero =>
    intro l r _ hr hn
    have := cutAt_pos 47 r.p.data.toList
    omega
  | succ n ih =>
    intro l r hl hr hn
    have hp := (fault_path hr).1
    have key : Lays (if homed l r.p then l else lputF n l (dirR (parO r.p))) ∧ (parentL r.p.data.toList ≠ [] → ∃ x ∈ (if homed l r.p then l else lputF n l (dirR (parO r.p))), x.p = parO r.p ∧ x.k = 3) := by
      by_cases hh : homed l r.p = true
      · rw [if_pos hh]
        refine ⟨hl, fun hpar => ?_⟩
        unfold homed at hh
        rw [decide_eq_false hpar, Bool.false_or] at hh
        cases hrec : recAt l (parO r.p) with
        | none => rw [hrec] at hh; cases hh
        | some x =>
          rw [hrec] at hh
          obtain ⟨hm, hxp⟩ := recAt_mem hrec
          exact ⟨x, hm, hxp, by simpa using hh⟩
      · rw [if_neg hh]
        have hpar : parentL r.p.data.toList ≠ [] := fun e => hh (by unfold homed; rw [decide_eq_true e]; rfl)
        obtain ⟨h1, h2⟩ := parts_parent hp hpar
        obtain ⟨h3, h4⟩ := ih hl (dir_fault h1) (show (cutAt 47 (parO r.p).data.toList).length ≤ n by omega)
        exact ⟨h3, fun _ => ⟨_, h4, rfl, rfl⟩⟩
    exact ⟨base_lays key.1 hr key.2, (mem_base key.1.sorted).2 (.inl rfl)⟩
/-- A layer with a record put into it is a layer, if it is not too long. -/
theorem lput_layer {l : List R} {r : R} (h : layerOK l = true) (hr : r.fault = 0) (hl : (lputL l r).length ≤ 16) : layerOK (lputL l r) = true :=
  (lput_lays 4 (layer_lays h) hr (pathB_parts (fault_path hr).1).1).1.ok hl
end Go.Proofs.YtjiljnfiofmpaaaGreatDoor.Recs

/- What the draws put into a list stays within what is asked of each record; a list without whiteouts is a tree. -/

namespace Go.Proofs.YtjiljnfiofmpaaaGreatDoor.Recs
open Go.RowKit Paths

theorem lput_all {P : R → Prop} (hd : ∀ q, P (dirR q)) : ∀ (n : Nat) {l : List R} {r : R}, Lays l → r.fault = 0 → (cutAt 47 r.p.data.toList).length ≤ n → (∀ x ∈ l, P x) → P r → ∀ x ∈ lputF n l r, P x := by
  intro n
  induction n with
  | zero =>
    intro l r _ _ hn
    have := cutAt_pos 47 r.p.data.toList
    omega
  | succ n ih =>
    intro l r hl hr hn hall hP x hx
    have hp := (fault_path hr).1
    by_cases hh : homed l r.p = true
    · rw [lputF, if_pos hh] at hx
      rcases (mem_base hl.sorted).1 hx with rfl | ⟨h1, _⟩
      · exact hP
      · exact hall x h1
    · have hpar : parentL r.p.data.toList ≠ [] := fun e => hh (by unfold homed; rw [decide_eq_true e]; rfl)
      obtain ⟨h1, h2⟩ := parts_parent hp hpar
      have hlen : (cutAt 47 (dirR (parO r.p)).p.data.toList).length ≤ n := show (cutAt 47 (parO r.p).data.toList).length ≤ n by omega
      have h3 := (lput_lays n hl (dir_fault h1) hlen).1
      rw [lputF, if_neg hh] at hx
      rcases (mem_base h3.sorted).1 hx with rfl | ⟨h4, _⟩
      · exact hP
      · exact ih hl (dir_fault h1) hlen hall (hd _) x h4
theorem lays_tree {l : List R} (h : Lays l) (hk : ∀ r ∈ l, r.k ≠ 4) (hl : l.length ≤ 24) : Tree l := ⟨hl, hk, h.fault, h.sorted, h.housed⟩
/-- A node as its record. -/
theorem nodeOf_self {r : R} (h : r.o = false) : nodeOf r = r := by
  unfold nodeOf
  cases r
  simp only at h
  subst h
  rfl
end Go.Proofs.YtjiljnfiofmpaaaGreatDoor.Recs

/- Trees and applying, plain: a node added and taken out again; what a layer makes of nothing; what a tree shows of a layer and of the tree before. -/

namespace Go.Proofs.YtjiljnfiofmpaaaGreatDoor.Recs
open Go.RowKit Paths

/-- Nothing of a tree lies below a path that the tree does not have. -/
theorem none_below {t : List R} (ht : IsTree t) {q : ByteArray} (h : recAt t q = none) {x : R} (hx : x ∈ t) : q ∉ ups x.p := fun hu => by
  obtain ⟨n, hn, hp, _⟩ := housed_ups ht.housed (ht.path x hx) x hx rfl q hu
  exact recAt_none h n hn hp
/-- What was added, taken out again. -/
theorem without_put {t : List R} (ht : IsTree t) {n : R} (h : recAt t n.p = none) : withoutL (putL t n) n.p true = t := by
  apply sorted_ext
  · exact without_sorted (put_sorted ht.sorted n) _ _
  · exact ht.sorted
  · intro x
    rw [mem_without, mem_put]
    constructor
    · rintro ⟨h1, h2, h3⟩
      rcases h1 with rfl | ⟨h4, _⟩
      · exact absurd rfl (h3 rfl)
      · exact h4
    · intro hx
      have hne := recAt_none h x hx
      exact ⟨.inr ⟨hx, hne⟩, none_below ht h hx, fun _ => hne⟩
theorem put_len {t : List R} (h : Sorted t) {n : R} (hn : recAt t n.p = none) : (putL t n).length = t.length + 1 := by
  have hpl : placeOf t n ≤ t.length := by unfold placeOf; exact (List.takeWhile_prefix _).sublist.length_le
  rw [put_new h hn, List.length_append, List.length_cons, List.length_take, List.length_drop]
  omega
theorem put_found {t : List R} (h : Sorted t) (n : R) : recAt (putL t n) n.p = some n := recAt_of (put_sorted h n) (mem_put.2 (.inl rfl))
theorem put_find {t : List R} (h : Sorted t) (n : R) : findT (putL t n) n.p = (n, 0) := by unfold findT; rw [put_found h n]
theorem nodeOf_self2 {r : R} (h : r.o = false) : nodeOf r = r := by
  cases r
  simp only [nodeOf] at h ⊢
  subst h
  rfl
/-- The nodes of a tree as a layer, applied to nothing: the tree. -/
theorem apply_none {t : List R} (ht : IsTree t) (hk : ∀ r ∈ t, r.k ≠ 4) (ho : ∀ r ∈ t, r.o = false) : applyL t [] = t := by
  have hn : IsTree ([] : List R) := ⟨List.Pairwise.nil, (fun r hr => by cases hr), (fun r hr => by cases hr)⟩
  apply sorted_ext
  · exact apply_sorted t List.Pairwise.nil
  · exact ht.sorted
  · intro x
    rw [mem_apply hn t ht.sorted ht.path]
    constructor
    · rintro (⟨r, hr, _, rfl⟩ | ⟨h1, _⟩)
      · rw [nodeOf_self2 (ho r hr)]; exact hr
      · cases h1
    · exact fun hx => .inl ⟨x, hx, hk x hx, (nodeOf_self2 (ho x hx)).symm⟩
/-- What is found of a list without a path and all below it. -/
theorem without_at {t : List R} (hs : Sorted t) {q : ByteArray} {x : R} (hx : x ∈ t) : (recAt (withoutL t q true) x.p).isSome = (!isUp q x.p && !decide (x.p = q)) := by
  by_cases h : q ∉ ups x.p ∧ x.p ≠ q
  · have hm : x ∈ withoutL t q true := mem_without.2 ⟨hx, h.1, fun _ => h.2⟩
    rw [recAt_of (without_sorted hs q true) hm, isUp_no.2 h.1, decide_eq_false h.2]
    rfl
  · have hno : recAt (withoutL t q true) x.p = none := by
      cases hr : recAt (withoutL t q true) x.p with
      | none => rfl
      | some r =>
        obtain ⟨hm, hp⟩ := recAt_mem hr
        obtain ⟨h1, h2, h3⟩ := mem_without.1 hm
        rw [hp] at h2 h3
        exact absurd ⟨h2, h3 rfl⟩ h
    rw [hno]
    cases hu : isUp q x.p with
    | true => rfl
    | false =>
      have : x.p = q := by
        by_cases he : x.p = q
        · exact he
        · exact absurd ⟨isUp_no.1 hu, he⟩ h
      rw [decide_eq_true this]
      rfl

section
variable {l t : List R}
/-- What the result has where the layer has a record. -/
theorem apply_rec (hl : IsLayer l) (ht : IsTree t) {r : R} (hr : r ∈ l) : recAt (applyL l t) r.p = if r.k = 4 then none else some (nodeOf r) := by
  have hm := mem_apply ht l hl.sorted hl.path
  have hs := apply_sorted l ht.sorted
  by_cases h4 : r.k = 4
  · rw [if_pos h4]
    cases hx : recAt (applyL l t) r.p with
    | none => rfl
    | some x =>
      obtain ⟨hxm, hxp⟩ := recAt_mem hx
      rcases (hm x).1 hxm with ⟨y, hy, hy4, rfl⟩ | ⟨_, hn, _⟩
      · have : y = r := sorted_mem_once hl.sorted hy hr hxp
        subst this
        exact absurd h4 hy4
      · exact absurd hxp.symm (recAt_none hn r hr)
  · rw [if_neg h4]
    have : nodeOf r ∈ applyL l t := (hm _).2 (.inl ⟨r, hr, h4, rfl⟩)
    exact recAt_of hs this
/-- What the result has where the layer has none. -/
theorem apply_old (hl : IsLayer l) (ht : IsTree t) {x : R} (hx : x ∈ t) (hn : recAt l x.p = none) : recAt (applyL l t) x.p = if cutsL l x.p then none else some x := by
  have hm := mem_apply ht l hl.sorted hl.path
  have hs := apply_sorted l ht.sorted
  cases hc : cutsL l x.p with
  | false =>
    rw [if_neg (by decide)]
    exact recAt_of hs ((hm x).2 (.inr ⟨hx, hn, hc⟩))
  | true =>
    rw [if_pos rfl]
    cases hy : recAt (applyL l t) x.p with
    | none => rfl
    | some y =>
      obtain ⟨hym, hyp⟩ := recAt_mem hy
      rcases (hm y).1 hym with ⟨z, hz, _, rfl⟩ | ⟨_, _, hc2⟩
      · exact absurd hyp (recAt_none hn z hz)
      · rw [hyp, hc] at hc2; cases hc2
theorem nodeOf_fault {r : R} (h : r.fault = 0) : (nodeOf r).fault = 0 := by
  have key : ∀ (k : Int) (p : List UInt8) (z : Nat) (m : Int) (o : Bool), faultI k p z m o = 0 → faultI k p z m false = 0 := by
    intro k p z m o h
    cases o with
    | false => exact h
    | true =>
      unfold faultI at h ⊢
      split at h
      · omega
      · split at h
        · omega
        · split at h
          · omega
          · split at h
            · omega
            · rename_i h1 h2 h3 h4
              have h6 := (not_or.1 h4).1
              rw [if_neg h1, if_neg h2, if_neg h3, if_neg (by rintro (h7 | h7); exact h6 h7; exact absurd h7.1 (by decide))]
              exact h
  exact key _ _ _ _ _ h
/-- The result is a tree in full, if it is short enough. -/
theorem apply_full (hl : layerOK l = true) (ht : Tree t) (hlen : (applyL l t).length ≤ 24) : Tree (applyL l t) := by
  have hL := layer_is hl
  have hI := apply_tree hL ht.is
  have hm := mem_apply ht.is l hL.sorted hL.path
  refine ⟨hlen, fun r hr => ?_, fun r hr => ?_, hI.sorted, hI.housed⟩
  · rcases (hm r).1 hr with ⟨y, _, h4, rfl⟩ | ⟨h1, _⟩
    · exact h4
    · exact ht.kind r h1
  · rcases (hm r).1 hr with ⟨y, hy, _, rfl⟩ | ⟨h1, _⟩
    · exact nodeOf_fault (layer_rec hl hy)
    · exact ht.fault r h1
theorem apply_flag (hlo : ∀ r ∈ t, r.o = false) (hl : IsLayer l) (ht : IsTree t) : ∀ r ∈ applyL l t, r.o = false := fun r hr => by
  rcases (mem_apply ht l hl.sorted hl.path r).1 hr with ⟨y, _, _, rfl⟩ | ⟨h1, _⟩
  · rfl
  · exact hlo r h1
end
end Go.Proofs.YtjiljnfiofmpaaaGreatDoor.Recs
