/- Parts of several texts of mine in one file (each begins with its own remark). -/
import Derived.Test.YtibekkfbpmloiabGreatDoorGA1
import Derived.Test.YtibekkfbpmloiabGreatDoorGA10
import Derived.Test.YtibekkfbpmloiabGreatDoorGA2
import Derived.Test.YtibekkfbpmloiabGreatDoorGA3
import Derived.Test.YtibekkfbpmloiabGreatDoorGA4
import Derived.Test.YtibekkfbpmloiabGreatDoorGA5
import Derived.Test.YtibekkfbpmloiabGreatDoorGA6
import Derived.Test.YtibekkfbpmloiabGreatDoorGA7
import Derived.Test.YtibekkfbpmloiabGreatDoorGA8
import Derived.Test.YtibekkfbpmloiabGreatDoorGA9
import Derived.Test.YtibekkfbpmloiabGreatDoorChecked
import Derived.Test.YtibekkfbpmloiabGreatDoorShelf
import Derived.Deep.Slices
import Derived.OpenShut
import Derived.ShutString
import Derived.ChangeArms
import Derived.WideShapes
import Derived.Lib.LaidTab
import Derived.BigQuiet
import Derived.Deep.QuietTactic
import Derived.Deep.RegionHeld3
import Derived.StillTailTactics
import Derived.Deep.Draws
import Derived.Deep.LoopGhost
import Derived.WalkKit
import Derived.WalkSpells
import Derived.WalkSmall
import Derived.Lib.OthersKept
import Derived.Lib.Hide
import Derived.Lib.Strings
import Derived.Lib.Join
import Derived.Laws.OwnMore
import Derived.BigRegion
import Derived.Laws.BytesArg
/- What is seen at all paths of a stack, plain: its canonical form is the combination of the stack; combining parts of a stack first. -/
namespace Go.Proofs.YtibekkfbpmloiabGreatDoor.Recs
set_option maxRecDepth 100000
open Go.RowKit Paths

def wins (LL : List (List R)) : List (R × Nat) := ((pathsL LL).map (winC LL)).filter fun p => decide (0 < p.2)
def winL (LL : List (List R)) : List R := (wins LL).map Prod.fst
theorem last_mem {C : List (R × Nat)} (h : 0 < (overC C).2) : ∃ p ∈ C, (overC C).2 = p.2 ∧ ((overC C).1 = p.1 ∨ p.1.k = 3 ∧ (overC C).1 = { p.1 with o := true }) := by
  unfold overC at h ⊢
  cases hl : C.getLast? with
  | none => rw [hl] at h; simp at h
  | some p =>
    refine ⟨p, List.mem_of_getLast? hl, rfl, ?_⟩
    dsimp only
    split
    · rename_i hh; exact .inr ⟨hh.1, rfl⟩
    · exact .inl rfl
theorem win_rec {LL : List (List R)} {q : ByteArray} (h : 0 < (winC LL q).2) : (winC LL q).1.p = q ∧ cutD LL q ≤ (winC LL q).2 ∧ ∃ y, (y, (winC LL q).2) ∈ consd LL q ∧ ((winC LL q).1 = y ∨ y.k = 3 ∧ (winC LL q).1 = { y with o := true }) := by
  obtain ⟨p, hp, h2, h3⟩ := last_mem (C := consd LL q) h
  have hpq := (grpN_mem _ _ _ p hp).1
  have hcut : cutD LL q ≤ p.2 := by
    rw [consd_filter] at hp
    simpa using (List.mem_filter.1 hp).2
  refine ⟨?_, ?_, p.1, ?_, h3⟩
  · show (overC (consd LL q)).1.p = q
    rcases h3 with h3 | ⟨_, h3⟩ <;> rw [h3] <;> exact hpq
  · show cutD LL q ≤ (overC (consd LL q)).2
    rw [h2]; exact hcut
  · show (p.1, (overC (consd LL q)).2) ∈ _
    rw [h2]; exact hp
theorem consd_all {LL : List (List R)} (hs : ∀ l ∈ LL, Sorted l) {q : ByteArray} {p : R × Nat} (h : p ∈ consd LL q) : p.1.p = q ∧ InAll LL p := by
  rw [consd_filter] at h
  exact (grp_all hs q p).1 (List.mem_filter.1 h).1
theorem opaque_fault {y : R} (h : y.fault = 0) (hk : y.k = 3) : ({ y with o := true } : R).fault = 0 := by
  have e : overO [{ y with k := 1 }] y = { y with o := true } := by
    unfold overO
    rw [recAt_cons_eq rfl]
    show overR _ y = _
    unfold overR
    rw [if_pos ⟨hk, by simp [stops]⟩]
  rw [← e]
  exact over_fault h
theorem wins_mem {LL : List (List R)} {p : R × Nat} : p ∈ wins LL ↔ ∃ q ∈ pathsL LL, winC LL q = p ∧ 0 < p.2 := by
  unfold wins
  rw [List.mem_filter, List.mem_map]
  constructor
  · rintro ⟨⟨q, hq, rfl⟩, h⟩
    exact ⟨q, hq, rfl, by simpa using h⟩
  · rintro ⟨q, hq, rfl, h⟩
    exact ⟨⟨q, hq, rfl⟩, by simpa using h⟩
theorem winL_sorted (LL : List (List R)) : Sorted (winL LL) := by
  unfold winL wins Sorted
  rw [List.pairwise_map, List.pairwise_filter, List.pairwise_map]
  refine (pathsL_ups LL).imp fun {a b} h h1 h2 => ?_
  have e1 := (win_rec (LL := LL) (q := a) (by simpa using h1)).1
  have e2 := (win_rec (LL := LL) (q := b) (by simpa using h2)).1
  unfold lessR
  rw [e1, e2]
  exact h
theorem winL_fault {LL : List (List R)} (hs : ∀ l ∈ LL, Fine l) : ∀ r ∈ winL LL, r.fault = 0 := by
  intro r hr
  obtain ⟨p, hp, rfl⟩ := List.mem_map.1 hr
  obtain ⟨q, hq, rfl, h0⟩ := wins_mem.1 hp
  obtain ⟨_, _, y, hy, h3⟩ := win_rec h0
  obtain ⟨_, l, _, hl, hm⟩ := consd_all (fun l hl => (hs l hl).layer.sorted) hy
  have hf := (hs l (List.mem_of_getElem? hl)).fine y hm
  rcases h3 with h3 | ⟨hk, h3⟩ <;> rw [h3]
  · exact hf
  · exact opaque_fault hf hk
theorem insP_len (q : ByteArray) : ∀ P : List ByteArray, (insP q P).length ≤ P.length + 1
  | [] => by simp [insP]
  | a :: t => by
    have := insP_len q t
    unfold insP
    split
    · simp
    · split
      · simp
      · simp; exact this
theorem fold_len (l : List R) : ∀ P : List ByteArray, (l.foldl (fun P r => insP r.p P) P).length ≤ P.length + l.length := by
  induction l with
  | nil => intro P; simp
  | cons a t ih =>
    intro P
    have h1 := ih (insP a.p P)
    have h2 := insP_len a.p P
    simp only [List.foldl_cons, List.length_cons]
    omega
theorem flat_16 : ∀ {LL : List (List R)}, (∀ l ∈ LL, l.length ≤ 16) → LL.flatten.length ≤ 16 * LL.length
  | [], _ => by simp
  | a :: t, h => by
    have ih := flat_16 (LL := t) (fun l hm => h l (List.mem_cons_of_mem _ hm))
    have ha := h a (List.mem_cons_self ..)
    simp only [List.flatten_cons, List.length_append, List.length_cons]
    omega
theorem pathsL_len {LL : List (List R)} (h : ∀ l ∈ LL, l.length ≤ 16) (h5 : LL.length ≤ 5) : (pathsL LL).length ≤ 80 := by
  have h1 := fold_len LL.flatten []
  have h2 := flat_16 h
  unfold pathsL
  simp only [List.length_nil] at h1
  omega
theorem wins_len (LL : List (List R)) : (wins LL).length ≤ (pathsL LL).length := by
  unfold wins
  have := List.length_filter_le (fun p : R × Nat => decide (0 < p.2)) ((pathsL LL).map (winC LL))
  rw [List.length_map] at this
  exact this
theorem winL_len (LL : List (List R)) : (winL LL).length ≤ (pathsL LL).length := by
  unfold winL
  rw [List.length_map]
  exact wins_len LL
theorem path_of_path {LL : List (List R)} (hs : ∀ l ∈ LL, Fine l) {q : ByteArray} (hq : q ∈ pathsL LL) : pathB q.data.toList = true := by
  obtain ⟨l, hl, r, hr, rfl⟩ := (pathsL_mem LL q).1 hq
  exact (hs l hl).layer.path r hr
theorem winners_of {LL : List (List R)} (hs : ∀ l ∈ LL, Fine l) : Winners LL.reverse (winL LL) := by
  refine ⟨winL_sorted LL, fun r => ?_⟩
  have hw : ∀ q, winC LL q = (match winner LL.reverse q with | some r => (r, (winC LL q).2) | none => (zR, 0)) ∧ ((winner LL.reverse q).isSome = true → 0 < (winC LL q).2) := fun q => by
    have := winner_win LL.reverse q
    rw [List.reverse_reverse] at this
    exact this
  constructor
  · intro hr
    obtain ⟨p, hp, rfl⟩ := List.mem_map.1 hr
    obtain ⟨q, hq, rfl, h0⟩ := wins_mem.1 hp
    refine ⟨q, path_of_path hs hq, ?_⟩
    have h1 := (hw q).1
    cases hx : winner LL.reverse q with
    | none =>
      rw [hx] at h1
      have h1' : winC LL q = (zR, 0) := h1
      rw [h1'] at h0
      exact absurd h0 (Nat.lt_irrefl _)
    | some x =>
      rw [hx] at h1
      have h1' : winC LL q = (x, (winC LL q).2) := h1
      rw [show (winC LL q).1 = x from congrArg Prod.fst h1']
  · rintro ⟨q, hq, h⟩
    obtain ⟨h1, h2⟩ := hw q
    rw [h] at h1 h2
    have h1' : winC LL q = (r, (winC LL q).2) := h1
    obtain ⟨l, hl, y, hy, hyp, _⟩ := winner_mem _ h
    refine List.mem_map.2 ⟨winC LL q, wins_mem.2 ⟨q, (pathsL_mem LL q).2 ⟨l, List.mem_reverse.1 hl, y, hy, hyp⟩, rfl, h2 rfl⟩, ?_⟩
    exact congrArg Prod.fst h1'
theorem winner_parent : ∀ (s : List (List R)), (∀ l ∈ s, Fine l) → ∀ {q : ByteArray} {r : R}, pathB q.data.toList = true → parentL q.data.toList ≠ [] → winner s q = some r → ∃ d, winner s (parO q) = some d ∧ d.k = 3
  | [], _, _, _, _, _, h => by cases h
  | l :: s, hs, q, r, hq, hp, h => by
    have hl := hs l (List.mem_cons_self ..)
    have hup := parent_up hq hp
    unfold winner at h ⊢
    cases hr : recAt l q with
    | some y =>
      obtain ⟨hm, hyp⟩ := recAt_mem hr
      obtain ⟨d, hd, hdp, hdk⟩ := hl.layer.housed y hm (by rw [hyp]; exact hp)
      rw [hyp] at hdp
      have hrd := recAt_of hl.layer.sorted hd
      rw [hdp] at hrd
      rw [hrd]
      refine ⟨_, rfl, ?_⟩
      split
      · exact hdk
      · exact hdk
    | none =>
      rw [hr] at h
      have h' : (if cutsL l q then none else winner s q) = some r := h
      by_cases hc : cutsL l q = true
      · rw [if_pos hc] at h'; cases h'
      rw [if_neg hc] at h'
      cases hd : recAt l (parO q) with
      | some z =>
        refine ⟨_, rfl, ?_⟩
        have hz : stops z = false := by
          cases hst : stops z with
          | false => rfl
          | true => exact absurd (cuts_at hup hd hst) hc
        have := (stops_no hz).1
        split
        · exact this
        · exact this
      | none =>
        have hcp : cutsL l (parO q) = false := by
          cases hcc : cutsL l (parO q) with
          | false => rfl
          | true => exact absurd (cuts_up hq hup hcc) hc
        obtain ⟨d, h1, h2⟩ := winner_parent s (fun x hx => hs x (List.mem_cons_of_mem _ hx)) hq hp h'
        refine ⟨d, ?_, h2⟩
        show (if cutsL l (parO q) then none else winner s (parO q)) = some d
        rw [hcp]
        exact h1
theorem winL_fine {LL : List (List R)} (hs : ∀ l ∈ LL, Fine l) : Fine (winL LL) := by
  have hw := winners_of hs
  have hpa := winners_path hw
  refine ⟨⟨winL_sorted LL, fun r hr hp => ?_, hpa⟩, winL_fault hs⟩
  obtain ⟨q, hq, h⟩ := (hw.mem r).1 hr
  have e := winner_path _ h
  rw [e] at hp ⊢
  obtain ⟨d, h1, h2⟩ := winner_parent _ (fun l hl => hs l (List.mem_reverse.1 hl)) hq hp h
  exact ⟨d, (hw.mem d).2 ⟨parO q, ups_path hq _ (parent_up hq hp), h1⟩, winner_path _ h1, h2⟩
theorem down_all : ∀ (s : List (List R)) (t : List R), applyDown s t = applyAllL s.reverse t
  | [], t => rfl
  | l :: s, t => by
    unfold applyAllL
    rw [List.reverse_cons, List.foldl_append]
    show applyL l (applyDown s t) = applyL l _
    rw [down_all s t]
    rfl
theorem squash16 {LL : List (List R)} (h : ∀ l ∈ LL, l.length ≤ 16) : (squashAllL LL).length ≤ 16 * LL.length := by
  rw [← List.reverse_reverse LL] at h ⊢
  generalize LL.reverse = s at h ⊢
  induction s with
  | nil => simp [squashAllL]
  | cons l s ih =>
    have ih := ih (fun x hx => h x (by rw [List.reverse_cons]; exact List.mem_append_left _ hx))
    have hl := h l (by rw [List.reverse_cons]; exact List.mem_append_right _ (List.mem_singleton.2 rfl))
    unfold squashAllL at ih ⊢
    rw [List.reverse_cons, List.foldl_append, List.length_append]
    have := squash_len (s.reverse.foldl squashL []) l
    simp only [List.foldl_cons, List.foldl_nil, List.length_cons, List.length_nil]
    omega
/-- The canonical form of what is seen is the combination of the stack. -/
theorem merge_squash {LL : List (List R)} (hs : ∀ l ∈ LL, Fine l) (h16 : ∀ l ∈ LL, l.length ≤ 16) (h5 : LL.length ≤ 5) : canonL (winL LL) = squashAllL LL := by
  have hf := winL_fine hs
  have h1 := pathsL_len h16 h5
  have h2 := winL_len LL
  have h3 := List.length_filterMap_le (canonR (winL LL)) (winL LL)
  have h4 := squash16 h16
  refine squashAll_only hs (canon_fine hf) (by unfold canonL; omega) fun t ht => ?_
  rw [apply_canon hf.layer.sorted hf.layer.path ht, apply_winners (fun l hl => hs l (List.mem_reverse.1 hl)) (winners_of hs) ht, down_all, List.reverse_reverse]
/-- Parts of a stack may be combined first. -/
theorem squash_parts {A B : List (List R)} (ha : ∀ l ∈ A, Fine l) (hb : ∀ l ∈ B, Fine l) (hlen : 2 * ((squashAllL A).length + (squashAllL B).length) + (squashAllL (A ++ B)).length < 4096) : squashL (squashAllL A) (squashAllL B) = squashAllL (A ++ B) := by
  have ca := squashAll_canon ha
  have cb := squashAll_canon hb
  have hab : ∀ l ∈ A ++ B, Fine l := fun l hl => by
    rcases List.mem_append.1 hl with h | h
    · exact ha l h
    · exact hb l h
  refine squashAll_only hab (squash_canon ca.isFine cb.isFine) ?_ fun t ht => ?_
  · have := squash_len (squashAllL A) (squashAllL B)
    omega
  · have h1 : IsTree (applyL (squashAllL A) t) := apply_tree ca.layer ht
    rw [apply_squash ca.layer cb.layer ht, apply_squashAll hb h1, apply_squashAll ha ht]
    unfold applyAllL
    rw [List.foldl_append]
end Go.Proofs.YtibekkfbpmloiabGreatDoor.Recs

/- For laws over lists of records: the laws' own sizes with their sums; blocks between two numbers; two equal rows of strings. -/
namespace Go.Proofs.YtibekkfbpmloiabGreatDoor.Recs
set_option maxRecDepth 100000
open Go.RowKit Paths

/-- From w to w' nothing has turned but blocks from base on, below top; and new ones came. -/
structure Betw (base top : Nat) (w w' : World) : Prop where
  os : w'.os = w.os
  tape : w'.tape = w.tape
  output : w'.output = w.output
  size : w.heap.size ≤ w'.heap.size
  block : ∀ k, k < w.heap.size → (k < base ∨ top ≤ k) → w'.heap[k]? = w.heap[k]?
theorem Betw.refl (base top : Nat) (w : World) : Betw base top w w := ⟨rfl, rfl, rfl, Nat.le_refl _, fun _ _ _ => rfl⟩
theorem Betw.trans {base top : Nat} {a b c : World} (h : Betw base top a b) (k : Betw base top b c) : Betw base top a c :=
  ⟨k.os.trans h.os, k.tape.trans h.tape, k.output.trans h.output, Nat.le_trans h.size k.size, fun i hi hk => (k.block i (Nat.lt_of_lt_of_le hi h.size) hk).trans (h.block i hi hk)⟩
theorem Betw.below {base top B : Nat} {a w w' : World} (h : Below B a w) (hb : Betw base top w w') (hB : B ≤ base) (hB2 : B ≤ w.heap.size) : Below B a w' :=
  h.trans ⟨hb.os, hb.tape, hb.output, hb.size, fun k hk => hb.block k (by omega) (.inl (by omega))⟩
theorem Betw.own {base top : Nat} {w w' : World} (hb : Betw base top w w') {b : Nat} {e : TypeId} {s : Nat} {v : Value} {n : Nat} {xs : List Value} (h : w.ownsRow b e s v n xs) (hk : ∀ k, v.ownBlock = some k → k < base ∨ top ≤ k) : w'.ownsRow b e s v n xs := by
  obtain ⟨h1, h2⟩ := h
  refine ⟨h1, ?_⟩
  rcases h2 with h2 | ⟨g, cap, cur, rfl, b1, c, d⟩
  · exact .inl h2
  · exact .inr ⟨g, cap, cur, rfl, b1, by rw [hb.block g (Array.getElem?_eq_some_iff.1 c).1 (hk g rfl)]; exact c, d⟩
end Go.Proofs.YtibekkfbpmloiabGreatDoor.Recs

/- Paths: ParentOf and JoinPath, of the program and of its model. -/
namespace Go.Proofs.YtibekkfbpmloiabGreatDoor.Paths
open Go.RowKit

/-- strings.Join with a stroke between, at a slice that reads as L. -/
theorem join_any (v : Value) (L : List (List UInt8)) (w : World) (h : Strs w v L) (hl : (Lib.join L [47]).length ≤ 140737488355328) (hL : L.length ≤ 140737488355328) :
    Calls Tryz.prog 190 #[v, .string ⟨#[47]⟩] w fun e w' => e = .returned (strV (Lib.join L [47])) ∧ Below w.heap.size w w' := by
  obtain ⟨A, cap, rfl, hcap, h⟩ := h
  cases L with
  | nil =>
    refine (Tryz.strings_Join_none A cap _ w).mono ?_
    rintro e w' ⟨rfl, rfl⟩
    exact ⟨rfl, Below.refl _ _⟩
  | cons p r =>
    obtain ⟨b, off, rfl, hb, hc⟩ := h (by simp)
    have hm : ((p :: r).map fun l => (⟨l.toArray⟩ : ByteArray)).map (·.data.toList) = p :: r := by simp [Function.comp_def]
    have := Tryz.strings_Join b off cap ((p :: r).map fun l => (⟨l.toArray⟩ : ByteArray)) ⟨#[47]⟩ w (fun j x hx => by
      simp only [List.getElem?_map, Option.map_eq_some_iff] at hx
      obtain ⟨l, hl, rfl⟩ := hx
      exact hc j l hl) hb (by simpa using hL) (by simpa using hcap) (by rw [hm]; exact hl)
    rw [hm, List.length_map] at this
    exact this

theorem Strs.take {w : World} {A : Option Addr} {cap : Nat} {L : List (List UInt8)} {k : Nat} (h : Strs w (.slice A L.length cap) L) (hk : k ≤ L.length) : Strs w (.slice A k cap) (L.take k) := by
  obtain ⟨A', cap', e, hc, h⟩ := h
  cases e
  refine ⟨A, cap, by rw [List.length_take, Nat.min_eq_left hk], by rw [List.length_take]; omega, fun hn => ?_⟩
  rw [List.length_take] at hn
  obtain ⟨b, off, e, hb, hcell⟩ := h (by omega)
  refine ⟨b, off, e, hb, fun j p hj => hcell j p ?_⟩
  rw [List.getElem?_take] at hj
  split at hj
  · exact hj
  · cases hj

def parS (s : ByteArray) : List UInt8 := if pathB s.data.toList then parentL s.data.toList else []
theorem parS_yes {s : ByteArray} (h : pathB s.data.toList = true) : parS s = Lib.join (cutAt 47 s.data.toList).dropLast [47] := by unfold parS; rw [h]; rfl
theorem parS_no {s : ByteArray} (h : pathB s.data.toList = false) : parS s = [] := by unfold parS; rw [h]; rfl
theorem askC_zero {s : ByteArray} (h : askC s = 0) : s.size ≤ 65536 ∧ pathB s.data.toList = true := by
  unfold askC at h
  split at h
  · cases h
  · split at h
    · exact ⟨by omega, ‹_›⟩
    · cases h
theorem askC_bad {s : ByteArray} (h : askC s ≠ 0) : pathB s.data.toList = false := by
  unfold askC at h
  split at h
  · exact pathB_long (by omega)
  · split at h
    · exact absurd rfl h
    · rename_i h2; simpa using h2
theorem join_dropLast_len (l : List UInt8) : (Lib.join (cutAt 47 l).dropLast [47]).length ≤ l.length := by
  have h := cutAt_ne 47 l
  conv => rhs; rw [← join_cut l]
  rw [← List.dropLast_concat_getLast h, List.dropLast_concat]
  by_cases hd : (cutAt 47 l).dropLast = []
  · rw [hd]; simp [Lib.join_nil]
  · rw [join_snoc _ hd]; simp

set_option maxHeartbeats 400000 in
theorem parentOf_impl (s : ByteArray) (w : World) (hs : s.size ≤ maxLen) : Calls Tryz.prog 132 #[.string s] w fun e w' => e = .returned (.tuple #[strV (parS s), .int .i64 (askC s)]) ∧ Below w.heap.size w w' := by
  go_enter Tryz.func132, Tryz.ntmps132
  go_wp2_with fail
  refine (partsOf_impl _ _ hs).mono ?_
  rintro e w1 ⟨v, rfl, hb1, ho1⟩
  by_cases h0 : askC s = 0
  · have hB := askC_zero h0
    have HP := Lib.hid (parS_yes hB.2)
    have H0 := Lib.hid h0
    rw [partsOf_yes hB.2] at ho1
    have hpos := cutAt_pos 47 s.data.toList
    have hlen := (pathB_parts hB.2).1
    have hjl := join_dropLast_len s.data.toList
    rw [← Lib.size_eq] at hjl
    generalize hL : cutAt 47 s.data.toList = L at *
    have HL := Lib.hid hL
    clear hL
    obtain ⟨g, cap, rfl, hcap, hg0, hg1, hcell⟩ := own_slice ho1 (by omega)
    have hst := (Strs.own ho1).take (k := L.length - 1) (by omega)
    rw [← List.dropLast_eq_take] at hst
    have HS := Lib.hid hst
    clear hcell hst
    have hc1 : (1 : Int) ≤ (L.length : Int) := by omega
    rw [h0]
    clear h0
    go_wp2_with fail
    refine (join_any _ _ _ HS.out (by omega) (by rw [List.length_dropLast]; omega)).mono ?_
    rintro e w2 ⟨rfl, hb2⟩
    go_wp2_with fail
    go_ret2
    exact ⟨by rw [HP.out, H0.out]; rfl, hb1.trans (hb2.mono hb1.size)⟩
  · have HP := Lib.hid (parS_no (askC_bad h0))
    have hne : (askC s != 0) = true := by simpa using h0
    clear h0
    go_wp2_with fail
    go_ret2
    exact ⟨by rw [HP.out]; rfl, hb1⟩

set_option maxHeartbeats 400000 in
theorem l01Parent_any (s : ByteArray) (w : World) (hs : s.size ≤ maxLen) : Calls Tryz.prog 126 #[.string s] w fun e w' => e = .returned (strV (parentL s.data.toList)) ∧ w = w' := by
  unfold maxLen at hs
  go_enter Tryz.func126, Tryz.ntmps126
  go_wp2
  go_loop [3] (fun i => ∃ k : Nat, k ≤ s.size ∧ i = .int .i64 ((k : Int) - 1) ∧ Hid (Clear s.data.toList k)) (fun i => (intOf i + 1).toNat)
  case atStart => exact ⟨s.size, by omega, rfl, Clear.start s⟩
  case round =>
    obtain ⟨k, hk, rfl, HC⟩ := hrel
    cases k with
    | zero =>
      have HN := Lib.hid (Clear.none HC.out)
      go_wp2
      go_ret
      exact ⟨by rw [HN.out]; rfl, rfl⟩
    | succ k =>
      have e1 : (((k + 1 : Nat) : Int) - 1) = (k : Int) := by omega
      rw [e1]
      clear e1
      have hlt : k < s.size := by omega
      rcases Bool.eq_false_or_eq_true ((s[k].toNat : Int) == 47) with he | he
      · have HE : Hid (parentL s.data.toList = s.data.toList.take k) := HC.out.hit hlt (by simp at he; exact UInt8.toNat_inj.1 (by show _ = 47; omega))
        go_wp2
        go_ret
        exact ⟨by rw [HE.out, ← strV_take]; rfl, rfl⟩
      · have HD := Lib.hid (HC.out.down hlt (fun e => by rw [e] at he; exact absurd he (by decide)))
        go_wp2
        exact ⟨⟨k, by omega, rfl, HD⟩, by simp [intOf]⟩

end Go.Proofs.YtibekkfbpmloiabGreatDoor.Paths

/- Paths: JoinPath, of the program and of its model. -/
namespace Go.Proofs.YtibekkfbpmloiabGreatDoor.Paths
open Go.RowKit

/-- Which of the ways JoinPath goes: 0: too long · 1: no path, or no part · 2: too many parts · 3: from the root · 4: from a path. -/
def joinWay (d p : ByteArray) : Nat :=
  if 65536 < d.size ∨ 65536 < p.size then 0
  else if (d.size ≠ 0 ∧ pathB d.data.toList = false) ∨ partB p.data.toList = false then 1
  else if d.size = 0 then 3
  else if (cutAt 47 d.data.toList).length = 4 then 2 else 4
def joinCode (d p : ByteArray) : Int := match joinWay d p with | 0 => 2 | 1 => 10 | 2 => 6 | _ => 0
def joinRes (d p : ByteArray) : List UInt8 := match joinWay d p with | 3 => p.data.toList | 4 => d.data.toList ++ 47 :: p.data.toList | _ => []
def JoinPost (d p : ByteArray) (w : World) (e : Ending) (w' : World) : Prop := e = .returned (.tuple #[strV (joinRes d p), .int .i64 (joinCode d p)]) ∧ Below w.heap.size w w'

theorem JoinPost.long {d p : ByteArray} {w w' : World} (h : joinWay d p = 0) (hb : Below w.heap.size w w') : JoinPost d p w (.returned (.tuple #[.string ⟨#[]⟩, .int .i64 2])) w' := ⟨by unfold joinRes joinCode; rw [h]; rfl, hb⟩
theorem JoinPost.many {d p : ByteArray} {w w' : World} (h : joinWay d p = 2) (hb : Below w.heap.size w w') : JoinPost d p w (.returned (.tuple #[.string ⟨#[]⟩, .int .i64 6])) w' := ⟨by unfold joinRes joinCode; rw [h]; rfl, hb⟩
theorem JoinPost.root {d p : ByteArray} {w w' : World} (h : joinWay d p = 3) (hb : Below w.heap.size w w') : JoinPost d p w (.returned (.tuple #[strV p.data.toList, .int .i64 0])) w' := ⟨by unfold joinRes joinCode; rw [h]; rfl, hb⟩
theorem pathB_empty {d : ByteArray} (h : d.size = 0) : pathB d.data.toList = false := by
  have : d.data.toList = [] := by
    have := Lib.size_eq d
    rw [h] at this
    exact List.eq_nil_of_length_eq_zero this.symm
  rw [this]
  decide

end Go.Proofs.YtibekkfbpmloiabGreatDoor.Paths
