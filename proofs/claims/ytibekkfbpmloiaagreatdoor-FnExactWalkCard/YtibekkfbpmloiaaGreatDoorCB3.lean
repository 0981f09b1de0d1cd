/- Parts of several texts of mine in one file (each begins with its own remark). -/
import Derived.Test.YtibekkfbpmloiaaGreatDoorCA1
import Derived.Test.YtibekkfbpmloiaaGreatDoorCA10
import Derived.Test.YtibekkfbpmloiaaGreatDoorCA2
import Derived.Test.YtibekkfbpmloiaaGreatDoorCA3
import Derived.Test.YtibekkfbpmloiaaGreatDoorCA4
import Derived.Test.YtibekkfbpmloiaaGreatDoorCA5
import Derived.Test.YtibekkfbpmloiaaGreatDoorCA6
import Derived.Test.YtibekkfbpmloiaaGreatDoorCA8
import Derived.Test.YtibekkfbpmloiaaGreatDoorCB1
import Derived.Test.YtibekkfbpmloiaaGreatDoorCB2
import Derived.Test.YtibekkfbpmloiaaGreatDoorChecked
import Derived.Test.YtibekkfbpmloiaaGreatDoorShelf
import Derived.Test.YtibekkfbpmloiaaGreatDoorProg
import Derived.Test.YtibekkfbpmloiaaGreatDoorRows
import Derived.Deep.Slices
import Derived.OpenShut
import Derived.ShutString
import Derived.ChangeArms
import Derived.WideShapes
import Derived.Lib.LaidTab
import Derived.BigQuiet
import Derived.Deep.QuietTactic
import Derived.Deep.RegionHeld3
import Derived.StillTailTactics
import Derived.Deep.Draws
import Derived.Deep.LoopGhost
import Derived.WalkKit
import Derived.WalkSpells
import Derived.WalkSmall
import Derived.Lib.OthersKept
import Derived.Lib.Hide
import Derived.Lib.Strings
import Derived.Lib.Join
import Derived.Laws.OwnMore
import Derived.BigRegion
import Derived.Laws.BytesArg
import Derived.WalkLawsBesides
import Derived.Stop.LaidErr
import Derived.LaidEql
import Derived.Stop.Asserts
import Derived.Below
import Derived.Stop.LaidTwo
import Derived.ChangeVars
import Derived.Deep.DeepHandedRow
import Derived.Lib.Overlaps
import Derived.Lib.AppendZerosOnto
import Derived.Laws.NewBlocks
import Derived.Laws.IdiomCopy
import Derived.Deep.RegionLaw
import Derived.Deep.RegionWith
import Derived.OneCell
import Derived.Lib.SliceRun
/- All layers passed through at once, plain: the order of records by path and layer, the cursors, the groups of records of one path. -/
namespace Go.Proofs.YtibekkfbpmloiaaGreatDoor.Recs
set_option maxRecDepth 100000
open Go.RowKit Paths Heap

/-- By path, then by layer. -/
def klt (a b : List (List UInt8) × Nat) : Bool := lessP a.1 b.1 || (decide (a.1 = b.1) && decide (a.2 < b.2))
theorem klt_iff (a b : List (List UInt8) × Nat) : klt a b = true ↔ lessP a.1 b.1 = true ∨ a.1 = b.1 ∧ a.2 < b.2 := by
  unfold klt
  rw [Bool.or_eq_true, Bool.and_eq_true, decide_eq_true_eq, decide_eq_true_eq]
theorem klt_irr (a : List (List UInt8) × Nat) : ¬ klt a a = true := by
  rw [klt_iff, lessP_irrefl]
  rintro (h | h)
  · cases h
  · omega
theorem klt_trans (a b c : List (List UInt8) × Nat) (h : klt a b = true) (k : klt b c = true) : klt a c = true := by
  rw [klt_iff] at h k ⊢
  rcases h with h | ⟨h1, h2⟩
  · rcases k with k | ⟨k1, k2⟩
    · exact .inl (lessP_trans _ _ _ h k)
    · exact .inl (k1 ▸ h)
  · rcases k with k | ⟨k1, k2⟩
    · exact .inl (h1 ▸ k)
    · exact .inr ⟨h1.trans k1, Nat.lt_trans h2 k2⟩
theorem klt_asymm (a b : List (List UInt8) × Nat) (h : klt a b = true) : klt b a = false := by
  cases k : klt b a with
  | false => rfl
  | true => exact absurd (klt_trans _ _ _ h k) (klt_irr a)
theorem klt_total (a b : List (List UInt8) × Nat) (h : a ≠ b) : klt a b = true ∨ klt b a = true := by
  rw [klt_iff, klt_iff]
  cases h1 : lessP a.1 b.1 with
  | true => exact .inl (.inl rfl)
  | false =>
    cases h2 : lessP b.1 a.1 with
    | true => exact .inr (.inl rfl)
    | false =>
      have e := lessP_total _ _ h1 h2
      rcases Nat.lt_trichotomy a.2 b.2 with h3 | h3 | h3
      · exact .inl (.inr ⟨e, h3⟩)
      · exact absurd (Prod.ext e h3) h
      · exact .inr (.inr ⟨e.symm, h3⟩)
theorem klt_neg (a b c : List (List UInt8) × Nat) (h : klt a c = true) : klt a b = true ∨ klt b c = true := by
  by_cases e : a = b
  · subst e; exact .inr h
  · rcases klt_total a b e with h1 | h1
    · exact .inl h1
    · exact .inr (klt_trans _ _ _ h1 h)
def pk (r : R) : List (List UInt8) := cutAt 47 r.p.data.toList
theorem pk_inj {x y : R} (h : pk x = pk y) : x.p = y.p := bytes_cut h
def kR (p : R × Nat) : List (List UInt8) × Nat := (pk p.1, p.2)
/-- A cursor stands at its first record. -/
def kC (c : Nat × List R) : List (List UInt8) × Nat := (pk (c.2.head?.getD zR), c.1)
def befC (a b : Nat × List R) : Bool := klt (kC a) (kC b)
theorem befC_asymm (a b : Nat × List R) (h : befC a b = true) : befC b a = false := klt_asymm _ _ h
theorem befC_neg (a b c : Nat × List R) (h : befC a c = true) : befC a b = true ∨ befC b c = true := klt_neg _ _ _ h
structure HInv (LL : List (List R)) (cs : List (Nat × List R)) (S : List (R × Nat)) : Prop where
  heap : Heap befC 0 cs
  ne : ∀ c ∈ cs, c.2 ≠ []
  srt : ∀ c ∈ cs, Sorted c.2
  num : (cs.map Prod.fst).Nodup
  done : S.Pairwise fun a b => klt (kR a) (kR b) = true
  ahead : ∀ p ∈ S, ∀ c ∈ cs, ∀ r ∈ c.2, klt (kR p) (kR (r, c.1)) = true
  all : ∀ p : R × Nat, InAll LL p ↔ p ∈ S ∨ ∃ l, (p.2, l) ∈ cs ∧ p.1 ∈ l
theorem hinv_first {LL : List (List R)} {tl : List (Nat × List R)} {S : List (R × Nat)} {n : Nat} {x : R} {left : List R} (h : HInv LL ((n, x :: left) :: tl) S) : (∀ r ∈ left, klt (kR (x, n)) (kR (r, n)) = true) ∧ ∀ c ∈ tl, ∀ r ∈ c.2, klt (kR (x, n)) (kR (r, c.1)) = true := by
  refine ⟨fun r hr => ?_, fun c hc r hr => ?_⟩
  · have := (List.pairwise_cons.1 (h.srt _ (List.mem_cons_self ..))).1 r hr
    rw [klt_iff]
    exact .inl this
  · have hne := h.ne c (List.mem_cons_of_mem _ hc)
    have hsr := h.srt c (List.mem_cons_of_mem _ hc)
    obtain ⟨i, hi, hci⟩ := List.getElem_of_mem hc
    have h1 := heap_first befC befC_asymm befC_neg h.heap (i + 1) (i + 1) (Nat.le_refl _) c (n, x :: left) (by rw [List.getElem?_cons_succ, List.getElem?_eq_getElem hi, hci]) rfl
    have hnn : c.1 ≠ n := by
      have := (List.nodup_cons.1 h.num).1
      intro e
      exact this (by rw [← e]; exact List.mem_map.2 ⟨c, hc, rfl⟩)
    obtain ⟨m, l⟩ := c
    cases l with
    | nil => exact absurd rfl hne
    | cons y t =>
      have h2 : klt (kR (x, n)) (kR (y, m)) = true := by
        rcases klt_total (kR (x, n)) (kR (y, m)) (fun e => hnn (congrArg Prod.snd e).symm) with h2 | h2
        · exact h2
        · have h1' : klt (kR (y, m)) (kR (x, n)) = false := h1
          rw [h2] at h1'
          cases h1'
      rcases List.mem_cons.1 hr with rfl | hr
      · exact h2
      · refine klt_trans _ _ _ h2 ?_
        rw [klt_iff]
        exact .inl ((List.pairwise_cons.1 hsr).1 r hr)
theorem hinv_step {LL : List (List R)} {tl cs' : List (Nat × List R)} {S : List (R × Nat)} {n : Nat} {x : R} {left : List R} (h : HInv LL ((n, x :: left) :: tl) S) (hh : Heap befC 0 cs')
    (hp : cs'.Perm (if left = [] then tl else (n, left) :: tl)) : HInv LL cs' (S ++ [(x, n)]) := by
  obtain ⟨f1, f2⟩ := hinv_first h
  have hmem : ∀ c, c ∈ cs' ↔ (left ≠ [] ∧ c = (n, left)) ∨ c ∈ tl := fun c => by
    rw [hp.mem_iff]
    by_cases hl : left = []
    · simp [hl]
    · simp [hl]
  refine ⟨hh, fun c hc => ?_, fun c hc => ?_, ?_, ?_, fun p hp1 c hc r hr => ?_, fun p => ?_⟩
  · rcases (hmem c).1 hc with ⟨h1, rfl⟩ | h1
    · exact h1
    · exact h.ne c (List.mem_cons_of_mem _ h1)
  · rcases (hmem c).1 hc with ⟨h1, rfl⟩ | h1
    · exact (List.pairwise_cons.1 (h.srt _ (List.mem_cons_self ..))).2
    · exact h.srt c (List.mem_cons_of_mem _ h1)
  · rw [(hp.map Prod.fst).nodup_iff]
    have := h.num
    rw [List.map_cons] at this
    split
    · exact (List.nodup_cons.1 this).2
    · rw [List.map_cons]
      exact this
  · rw [List.pairwise_append]
    refine ⟨h.done, List.pairwise_singleton _ _, fun a ha b hb => ?_⟩
    rw [List.mem_singleton.1 hb]
    exact h.ahead a ha _ (List.mem_cons_self ..) x (List.mem_cons_self ..)
  · rcases List.mem_append.1 hp1 with h1 | h1
    · rcases (hmem c).1 hc with ⟨h2, rfl⟩ | h2
      · exact h.ahead p h1 _ (List.mem_cons_self ..) r (List.mem_cons_of_mem _ hr)
      · exact h.ahead p h1 c (List.mem_cons_of_mem _ h2) r hr
    · rw [List.mem_singleton.1 h1]
      rcases (hmem c).1 hc with ⟨h2, rfl⟩ | h2
      · exact f1 r hr
      · exact f2 c h2 r hr
  · rw [h.all p, List.mem_append, List.mem_singleton]
    constructor
    · rintro (h1 | ⟨l, h1, h2⟩)
      · exact .inl (.inl h1)
      · rcases List.mem_cons.1 h1 with e | h1
        · have e1 : p.2 = n := congrArg Prod.fst e
          have e2 : l = x :: left := congrArg Prod.snd e
          rw [e2] at h2
          rcases List.mem_cons.1 h2 with h3 | h3
          · exact .inl (.inr (Prod.ext h3 e1))
          · refine .inr ⟨left, (hmem _).2 (.inl ⟨?_, by rw [e1]⟩), h3⟩
            intro hl
            rw [hl] at h3
            cases h3
        · exact .inr ⟨l, (hmem _).2 (.inr h1), h2⟩
    · rintro ((h1 | h1) | ⟨l, h1, h2⟩)
      · exact .inl h1
      · rw [h1]
        exact .inr ⟨x :: left, List.mem_cons_self .., List.mem_cons_self ..⟩
      · rcases (hmem _).1 h1 with ⟨_, e⟩ | h3
        · have e1 : p.2 = n := congrArg Prod.fst e
          have e2 : l = left := congrArg Prod.snd e
          exact .inr ⟨x :: left, by rw [e1]; exact List.mem_cons_self .., by rw [← e2]; exact List.mem_cons_of_mem _ h2⟩
        · exact .inr ⟨l, List.mem_cons_of_mem _ h3, h2⟩

/-- The records so far, those of one path together. -/
def addG (G : List (List (R × Nat))) (p : R × Nat) : List (List (R × Nat)) := match G.getLast? with
  | none => G ++ [[p]]
  | some g => if g.head?.map (fun x => x.1.p) = some p.1.p then G.dropLast ++ [g ++ [p]] else G ++ [[p]]
structure Grouped (G : List (List (R × Nat))) (S : List (R × Nat)) : Prop where
  flat : G.flatten = S
  ne : ∀ g ∈ G, g ≠ []
  one : ∀ g ∈ G, ∀ p ∈ g, ∀ p' ∈ g, p.1.p = p'.1.p
  ord : G.Pairwise fun g h => ∀ p ∈ g, ∀ p' ∈ h, lessR p.1 p'.1 = true
theorem grouped_nil : Grouped [] [] := ⟨rfl, fun _ h => (by cases h), fun _ h => (by cases h), List.Pairwise.nil⟩
theorem grouped_step {G : List (List (R × Nat))} {S : List (R × Nat)} {p : R × Nat} (h : Grouped G S) (hp : ∀ a ∈ S, klt (kR a) (kR p) = true) : Grouped (addG G p) (S ++ [p]) := by
  have hS : ∀ g ∈ G, ∀ a ∈ g, a ∈ S := fun g hg a ha => by rw [← h.flat]; exact List.mem_flatten.2 ⟨g, hg, ha⟩
  have snoc : (∀ g ∈ G, ∀ a ∈ g, lessR a.1 p.1 = true) → Grouped (G ++ [[p]]) (S ++ [p]) := fun hl => by
    refine ⟨by rw [List.flatten_append, h.flat]; rfl, fun g hg => ?_, fun g hg => ?_, ?_⟩
    · rcases List.mem_append.1 hg with hg | hg
      · exact h.ne g hg
      · rw [List.mem_singleton.1 hg]; simp
    · rcases List.mem_append.1 hg with hg | hg
      · exact h.one g hg
      · rw [List.mem_singleton.1 hg]
        intro a ha b hb
        rw [List.mem_singleton.1 ha, List.mem_singleton.1 hb]
    · rw [List.pairwise_append]
      refine ⟨h.ord, List.pairwise_singleton _ _, fun g hg g' hg' a ha b hb => ?_⟩
      rw [List.mem_singleton.1 hg'] at hb
      rw [List.mem_singleton.1 hb]
      exact hl g hg a ha
  unfold addG
  cases hg : G.getLast? with
  | none =>
    have : G = [] := by simpa using hg
    refine snoc fun g hgm => ?_
    rw [this] at hgm
    cases hgm
  | some g =>
    have hgm : g ∈ G := List.mem_of_getLast? hg
    have hne := h.ne g hgm
    obtain ⟨a, t, rfl⟩ : ∃ a t, g = a :: t := by cases g with | nil => exact absurd rfl hne | cons a t => exact ⟨a, t, rfl⟩
    have hD : G = G.dropLast ++ [a :: t] := by
      obtain ⟨D, hD'⟩ := List.getLast?_eq_some_iff.1 hg
      rw [hD', List.dropLast_concat]
    have ham : a ∈ a :: t := List.mem_cons_self ..
    show Grouped (if some a.1.p = some p.1.p then _ else _) _
    by_cases hq : a.1.p = p.1.p
    · rw [if_pos (by rw [hq])]
      generalize G.dropLast = D at *
      subst hD
      have ho := List.pairwise_append.1 h.ord
      have hall : ∀ b ∈ (a :: t) ++ [p], b.1.p = p.1.p := fun b hb => by
        rcases List.mem_append.1 hb with hb | hb
        · rw [h.one _ hgm b hb a ham, hq]
        · rw [List.mem_singleton.1 hb]
      refine ⟨?_, fun g' hg' => ?_, fun g' hg' => ?_, ?_⟩
      · rw [← h.flat]
        simp
      · rcases List.mem_append.1 hg' with hg' | hg'
        · exact h.ne g' (List.mem_append_left _ hg')
        · rw [List.mem_singleton.1 hg']; simp
      · rcases List.mem_append.1 hg' with hg' | hg'
        · exact h.one g' (List.mem_append_left _ hg')
        · rw [List.mem_singleton.1 hg']
          intro b hb c hc
          rw [hall b hb, hall c hc]
      · rw [List.pairwise_append]
        refine ⟨ho.1, List.pairwise_singleton _ _, fun g1 hg1 g2 hg2 b hb c hc => ?_⟩
        rw [List.mem_singleton.1 hg2] at hc
        have h1 := ho.2.2 g1 hg1 (a :: t) (List.mem_singleton.2 rfl) b hb a ham
        rw [less_path (show c.1.p = a.1.p by rw [hall c hc, hq])]
        exact h1
    · rw [if_neg (fun e => hq (Option.some.inj e))]
      have hap : lessR a.1 p.1 = true := by
        have := hp a (hS _ hgm a ham)
        rw [klt_iff] at this
        rcases this with h1 | ⟨h1, _⟩
        · exact h1
        · exact absurd (pk_inj h1) hq
      refine snoc fun g' hg' b hb => ?_
      rw [hD] at hg'
      have ho := h.ord
      rw [hD] at ho
      have ho := List.pairwise_append.1 ho
      rcases List.mem_append.1 hg' with hg' | hg'
      · exact lessP_trans _ _ _ (ho.2.2 g' hg' (a :: t) (List.mem_singleton.2 rfl) b hb a ham) hap
      · rw [List.mem_singleton.1 hg'] at hb
        rw [less_path' (h.one _ hgm b hb a ham)]
        exact hap

theorem lessQ_irr (a : ByteArray) : ¬ lessQ a a = true := by unfold lessQ; rw [lessP_irrefl]; decide
theorem pathsL_ups (LL : List (List R)) : Ups (pathsL LL) := (fold_ins _ [] List.Pairwise.nil).1
theorem ups_ext {P Q : List ByteArray} (hp : Ups P) (hq : Ups Q) (h : ∀ x, x ∈ P ↔ x ∈ Q) : P = Q := pw_ext lessQ_irr lessQ_trans P Q hp hq h

theorem grpN_up : ∀ (s : List (List R)) (n : Nat) (q : ByteArray), (grpN s n q).Pairwise fun a b => a.2 < b.2
  | [], _, _ => List.Pairwise.nil
  | l :: s, n, q => by
    have ih := grpN_up s (n + 1) q
    simp only [grpN]
    cases recAt l q with
    | none => exact ih
    | some r =>
      refine List.pairwise_cons.2 ⟨fun b hb => ?_, ih⟩
      have := (grpN_num _ _ _ b hb).1
      dsimp only
      omega
/-- When all has been passed through, the groups are those of all paths. -/
theorem groups_all {LL : List (List R)} {G : List (List (R × Nat))} {S : List (R × Nat)} (hs : ∀ l ∈ LL, Sorted l) (hg : Grouped G S) (hd : S.Pairwise fun a b => klt (kR a) (kR b) = true) (ha : ∀ p, InAll LL p ↔ p ∈ S) : G = (pathsL LL).map (grp LL) := by
  have hm : ∀ g ∈ G, ∀ a ∈ g, g = grp LL a.1.p := fun g hgm a ham => by
    refine pw_ext (lt := fun a b => klt (kR a) (kR b) = true) (fun a => klt_irr _) (fun a b c => klt_trans _ _ _) _ _ ?_ ?_ fun p => ?_
    · rw [← hg.flat] at hd
      exact hd.sublist (List.sublist_flatten_of_mem hgm)
    · refine (grpN_up LL 0 a.1.p).imp_of_mem fun {x y} hx hy h => ?_
      have h1 := ((grp_all hs _ x).1 hx).1
      have h2 := ((grp_all hs _ y).1 hy).1
      rw [klt_iff]
      refine .inr ⟨?_, h⟩
      show pk x.1 = pk y.1
      unfold pk
      rw [h1, h2]
    · rw [grp_all hs]
      constructor
      · intro hp
        exact ⟨hg.one g hgm p hp a ham, (ha p).2 (by rw [← hg.flat]; exact List.mem_flatten.2 ⟨g, hgm, hp⟩)⟩
      · rintro ⟨h1, h2⟩
        have h3 := (ha p).1 h2
        rw [← hg.flat] at h3
        obtain ⟨g', hg', hp⟩ := List.mem_flatten.1 h3
        by_cases e : g' = g
        · rw [← e]; exact hp
        · have : (∀ p ∈ g, ∀ p' ∈ g', lessR p.1 p'.1 = true) ∨ (∀ p ∈ g', ∀ p' ∈ g, lessR p.1 p'.1 = true) := by
            obtain ⟨i, hi, rfl⟩ := List.getElem_of_mem hgm
            obtain ⟨j, hj, rfl⟩ := List.getElem_of_mem hg'
            have ho := List.pairwise_iff_getElem.1 hg.ord
            rcases Nat.lt_trichotomy i j with h | h | h
            · exact .inl (ho i j hi hj h)
            · subst h; exact absurd rfl e
            · exact .inr (ho j i hj hi h)
          rcases this with h | h
          · exact absurd h1.symm (less_ne (h a ham p hp))
          · exact absurd h1 (less_ne (h p hp a ham))
  have hP : G.map (fun g => (g.head?.getD (zR, 0)).1.p) = pathsL LL := by
    refine ups_ext ?_ (pathsL_ups LL) fun x => ?_
    · unfold Ups
      rw [List.pairwise_map]
      refine hg.ord.imp_of_mem fun {g h} hgm hhm hgh => ?_
      have h1 := hg.ne g hgm
      have h2 := hg.ne h hhm
      cases g with
      | nil => exact absurd rfl h1
      | cons a t =>
        cases h with
        | nil => exact absurd rfl h2
        | cons b u => exact hgh a (List.mem_cons_self ..) b (List.mem_cons_self ..)
    · rw [pathsL_mem, List.mem_map]
      constructor
      · rintro ⟨g, hgm, rfl⟩
        have h1 := hg.ne g hgm
        cases g with
        | nil => exact absurd rfl h1
        | cons a t =>
          obtain ⟨l, _, h3, h4⟩ := (ha a).2 (by rw [← hg.flat]; exact List.mem_flatten.2 ⟨_, hgm, List.mem_cons_self ..⟩)
          exact ⟨l, List.mem_of_getElem? h3, a.1, h4, rfl⟩
      · rintro ⟨l, hl, r, hr, rfl⟩
        obtain ⟨i, hi, rfl⟩ := List.getElem_of_mem hl
        have h1 := (ha (r, i + 1)).1 ⟨LL[i], Nat.succ_pos _, by simp [hi], hr⟩
        rw [← hg.flat] at h1
        obtain ⟨g, hgm, h2⟩ := List.mem_flatten.1 h1
        refine ⟨g, hgm, ?_⟩
        have h3 := hg.ne g hgm
        cases g with
        | nil => exact absurd rfl h3
        | cons a t => exact hg.one _ hgm a (List.mem_cons_self ..) _ h2
  rw [← hP, List.map_map]
  conv => lhs; rw [← List.map_id G]
  refine List.map_congr_left fun g hgm => ?_
  have h1 := hg.ne g hgm
  cases g with
  | nil => exact absurd rfl h1
  | cons a t => exact hm _ hgm a (List.mem_cons_self ..)
end Go.Proofs.YtibekkfbpmloiaaGreatDoor.Recs

/- What is seen at all paths of a stack, plain: its canonical form is the combination of the stack; combining parts of a stack first. -/
namespace Go.Proofs.YtibekkfbpmloiaaGreatDoor.Recs
set_option maxRecDepth 100000
open Go.RowKit Paths

theorem insP_len (q : ByteArray) : ∀ P : List ByteArray, (insP q P).length ≤ P.length + 1
  | [] => by simp [insP]
  | a :: t => by
    have := insP_len q t
    unfold insP
    split
    · simp
    · split
      · simp
      · simp; exact this
theorem fold_len (l : List R) : ∀ P : List ByteArray, (l.foldl (fun P r => insP r.p P) P).length ≤ P.length + l.length := by
  induction l with
  | nil => intro P; simp
  | cons a t ih =>
    intro P
    have h1 := ih (insP a.p P)
    have h2 := insP_len a.p P
    simp only [List.foldl_cons, List.length_cons]
    omega
theorem flat_16 : ∀ {LL : List (List R)}, (∀ l ∈ LL, l.length ≤ 16) → LL.flatten.length ≤ 16 * LL.length
  | [], _ => by simp
  | a :: t, h => by
    have ih := flat_16 (LL := t) (fun l hm => h l (List.mem_cons_of_mem _ hm))
    have ha := h a (List.mem_cons_self ..)
    simp only [List.flatten_cons, List.length_append, List.length_cons]
    omega
theorem pathsL_len {LL : List (List R)} (h : ∀ l ∈ LL, l.length ≤ 16) (h5 : LL.length ≤ 5) : (pathsL LL).length ≤ 80 := by
  have h1 := fold_len LL.flatten []
  have h2 := flat_16 h
  unfold pathsL
  simp only [List.length_nil] at h1
  omega
theorem wins_len (LL : List (List R)) : (wins LL).length ≤ (pathsL LL).length := by
  unfold wins
  have := List.length_filter_le (fun p : R × Nat => decide (0 < p.2)) ((pathsL LL).map (winC LL))
  rw [List.length_map] at this
  exact this
theorem path_of_path {LL : List (List R)} (hs : ∀ l ∈ LL, Fine l) {q : ByteArray} (hq : q ∈ pathsL LL) : pathB q.data.toList = true := by
  obtain ⟨l, hl, r, hr, rfl⟩ := (pathsL_mem LL q).1 hq
  exact (hs l hl).layer.path r hr
theorem down_all : ∀ (s : List (List R)) (t : List R), applyDown s t = applyAllL s.reverse t
  | [], t => rfl
  | l :: s, t => by
    unfold applyAllL
    rw [List.reverse_cons, List.foldl_append]
    show applyL l (applyDown s t) = applyL l _
    rw [down_all s t]
    rfl
end Go.Proofs.YtibekkfbpmloiaaGreatDoor.Recs

/- Trees with what is directly below each node, plain. -/
namespace Go.Proofs.YtibekkfbpmloiaaGreatDoor.Recs
open Go.RowKit Paths

/-- The last part of a path. -/
def lastB (p : ByteArray) : ByteArray := ⟨((cutAt 47 p.data.toList).getLast (cutAt_ne 47 _)).toArray⟩
/-- What is directly below a path. -/
def kids (t : List R) (p : ByteArray) : List R := t.filter fun c => decide (parO c.p = p)
theorem parO_empty {q : ByteArray} : parO q = ByteArray.empty ↔ parentL q.data.toList = [] := by
  constructor
  · intro h
    have := congrArg (fun b : ByteArray => b.data.toList) h
    rw [parO_data] at this
    exact this
  · intro h
    unfold parO
    rw [h]
    rfl
theorem path_nonempty {q : ByteArray} (h : pathB q.data.toList = true) : q ≠ ByteArray.empty := fun e => by
  rw [e] at h
  exact pathB_ne h rfl
/-- All that is below a path. -/
def subT (t : List R) (p : ByteArray) : List R := t.filter fun c => isUp p c.p
theorem mem_sub {t : List R} {p : ByteArray} {c : R} : c ∈ subT t p ↔ c ∈ t ∧ p ∈ ups c.p := by unfold subT; rw [List.mem_filter, isUp_iff]
/-- The same of the root. -/
def allT (t : List R) (p : ByteArray) : List R := if p = ByteArray.empty then t else subT t p
theorem ups_of_par {q : ByteArray} (h : pathB q.data.toList = true) (hp : parO q ≠ ByteArray.empty) : ups q = parO q :: ups (parO q) := by
  rw [ups_step h, if_neg (fun e => hp (parO_empty.2 e))]
end Go.Proofs.YtibekkfbpmloiaaGreatDoor.Recs

/- Trees, plain: all that is below a path, by what is directly below it; what putting a node in and taking one out do to what is directly below. -/
namespace Go.Proofs.YtibekkfbpmloiaaGreatDoor.Recs
open Go.RowKit Paths

theorem deep_kid {c : ByteArray} (h : pathB c.data.toList = true) : deep c = deep (parO c) + 1 ∧ deep c ≤ 4 := by
  have h4 := (pathB_parts h).1
  unfold deep
  rw [if_neg (path_nonempty h)]
  by_cases hp : parO c = ByteArray.empty
  · rw [if_pos hp]
    rcases parent_cases h with ⟨_, h2, _⟩ | ⟨_, _, h3, _⟩
    · unfold nparts
      rw [h2]
      exact ⟨rfl, by simp⟩
    · exact absurd (parO_empty.1 hp) h3
  · rw [if_neg hp]
    have := (parts_parent h (fun e => hp (parO_empty.2 e))).2
    unfold nparts
    exact ⟨this.symm, h4⟩

end Go.Proofs.YtibekkfbpmloiaaGreatDoor.Recs

/- Applying a layer record by record upon a set of nodes. -/
namespace Go.Proofs.YtibekkfbpmloiaaGreatDoor.Recs
open Paths

theorem isUp_isBelow {p q : ByteArray} (hp : pathB p.data.toList = true) (hq : pathB q.data.toList = true) : isBelowB p q = isUp q p := by
  unfold isBelowB
  rw [hp, hq, isUp_below hp]
  have : ¬ q.size = 0 := by rw [Lib.size_eq]; exact fun e => pathB_ne hq (List.eq_nil_of_length_eq_zero e)
  rw [decide_eq_false this]
  simp
end Go.Proofs.YtibekkfbpmloiaaGreatDoor.Recs

/- Queries of a stack, plain: what is visible as a tree; resolving a path; what is below it, and directly below it. -/
namespace Go.Proofs.YtibekkfbpmloiaaGreatDoor.Recs
set_option maxRecDepth 100000
open Go.RowKit Paths

/-- The paths that are visible, in order. -/
def visP (LL : List (List R)) : List ByteArray := (pathsL LL).filter fun q => seenP (winC LL q)
/-- What is visible, as nodes. -/
def visT (LL : List (List R)) : List R := (visP LL).map fun q => nodeOf (winC LL q).1
theorem node_p (r : R) : (nodeOf r).p = r.p := rfl
theorem visP_mem {LL : List (List R)} (hs : ∀ l ∈ LL, Fine l) {q : ByteArray} : q ∈ visP LL ↔ seenP (winC LL q) = true := by
  unfold visP
  rw [List.mem_filter]
  exact ⟨fun h => h.2, fun h => ⟨seen_in hs h, h⟩⟩
theorem visP_path {LL : List (List R)} (hs : ∀ l ∈ LL, Fine l) : ∀ q ∈ visP LL, pathB q.data.toList = true := fun _ hq => path_of_path hs (List.mem_filter.1 hq).1
theorem visT_mem {LL : List (List R)} (hs : ∀ l ∈ LL, Fine l) {x : R} : x ∈ visT LL ↔ seenP (winC LL x.p) = true ∧ x = nodeOf (winC LL x.p).1 := by
  unfold visT
  rw [List.mem_map]
  constructor
  · rintro ⟨q, hq, rfl⟩
    have h := (visP_mem hs).1 hq
    rw [node_p, seen_p h]
    exact ⟨h, rfl⟩
  · rintro ⟨h, e⟩
    exact ⟨x.p, (visP_mem hs).2 h, e.symm⟩
theorem visT_p {LL : List (List R)} : (visT LL).map (fun r => r.p) = visP LL := by
  unfold visT
  rw [List.map_map]
  have : ∀ P : List ByteArray, (∀ q ∈ P, seenP (winC LL q) = true) → P.map ((fun r : R => r.p) ∘ fun q => nodeOf (winC LL q).1) = P := by
    intro P
    induction P with
    | nil => intro _; rfl
    | cons a t ih =>
      intro h
      rw [List.map_cons, ih fun q hq => h q (List.mem_cons_of_mem _ hq)]
      show (nodeOf (winC LL a).1).p :: t = _
      rw [node_p, seen_p (h a (List.mem_cons_self ..))]
  exact this _ fun q hq => (List.mem_filter.1 hq).2
/-- What is visible is what the stack makes of the empty tree. -/
theorem vis_view {LL : List (List R)} (hs : ∀ l ∈ LL, Fine l) : visT LL = applyAllL LL [] := by
  have hs' : ∀ l ∈ LL.reverse, Fine l := fun l hl => hs l (List.mem_reverse.1 hl)
  have h0 : IsTree ([] : List R) := ⟨List.Pairwise.nil, (fun _ h => by cases h), fun _ h => by cases h⟩
  have hd := down_all LL.reverse []
  rw [List.reverse_reverse] at hd
  rw [← hd]
  refine sorted_ext _ _ ?_ (applyDown_tree _ hs' h0).sorted fun x => ?_
  · unfold visT visP Sorted
    rw [List.pairwise_map]
    rw [List.pairwise_filter]
    refine (pathsL_ups LL).imp fun {a b} h h1 h2 => ?_
    unfold lessR
    rw [node_p, node_p, seen_p h1, seen_p h2]
    exact h
  · rw [visT_mem hs, mem_down _ hs' h0]
    have hw := winner_win LL.reverse x.p
    rw [List.reverse_reverse] at hw
    constructor
    · rintro ⟨h, e⟩
      cases hx : winner LL.reverse x.p with
      | none =>
        rw [hx] at hw
        have h1 : winC LL x.p = (zR, 0) := hw.1
        rw [h1] at h
        cases h
      | some r =>
        rw [hx] at hw
        have h1 : winC LL x.p = (r, (winC LL x.p).2) := hw.1
        have h2 : (winC LL x.p).1 = r := congrArg Prod.fst h1
        refine .inl ⟨r, rfl, ?_, by rw [← h2]; exact e⟩
        rw [← h2]
        exact (seenP_iff.1 h).2
    · rintro (⟨r, hr, hk, e⟩ | ⟨h, _⟩)
      · rw [hr] at hw
        have h1 : winC LL x.p = (r, (winC LL x.p).2) := hw.1
        have h2 : (winC LL x.p).1 = r := congrArg Prod.fst h1
        refine ⟨seenP_iff.2 ⟨hw.2 rfl, by rw [h2]; exact hk⟩, by rw [h2]; exact e⟩
      · cases h
theorem vis_tree {LL : List (List R)} (hs : ∀ l ∈ LL, Fine l) : IsTree (visT LL) := by
  have h0 : IsTree ([] : List R) := ⟨List.Pairwise.nil, (fun _ h => by cases h), fun _ h => by cases h⟩
  have hd := down_all LL.reverse []
  rw [List.reverse_reverse] at hd
  rw [vis_view hs, ← hd]
  exact applyDown_tree _ (fun l hl => hs l (List.mem_reverse.1 hl)) h0
theorem vis_len {LL : List (List R)} : (visT LL).length ≤ (pathsL LL).length := by
  unfold visT visP
  rw [List.length_map]
  exact List.length_filter_le _ _

/-- The paths below a path that are visible, of the winners so far. -/
def walkP (W : List (R × Nat)) (q : ByteArray) : List ByteArray := (W.filter fun p => seenP p && isBelowB p.1.p q).map fun p => p.1.p
theorem walk_step {W : List (R × Nat)} {k : Nat} (hk : k < W.length) (q : ByteArray) : walkP (W.take (k + 1)) q = if seenP W[k] && isBelowB W[k].1.p q then walkP (W.take k) q ++ [W[k].1.p] else walkP (W.take k) q := by
  unfold walkP
  rw [List.take_add_one, List.getElem?_eq_getElem hk, List.filter_append, List.map_append]
  cases h : seenP W[k] && isBelowB W[k].1.p q <;> simp [h]
theorem wins_vis (LL : List (List R)) : (wins LL).filter seenP = (visP LL).map (winC LL) := by
  unfold wins visP
  rw [List.filter_filter, List.filter_map]
  congr 1
  apply List.filter_congr
  intro x _
  simp only [Function.comp]
  unfold seenP
  cases decide (0 < (winC LL x).2) <;> simp
/-- What is below a path, of the tree that is visible. -/
def walkT (LL : List (List R)) (q : ByteArray) : List ByteArray := (allT (visT LL) q).map fun r => r.p
theorem walk_all {LL : List (List R)} (hs : ∀ l ∈ LL, Fine l) {q : ByteArray} (hq : q.size = 0 ∨ pathB q.data.toList = true) : walkP (wins LL) q = walkT LL q := by
  have e1 : walkP (wins LL) q = (visP LL).filter fun p => isBelowB p q := by
    unfold walkP
    have : ((wins LL).filter fun p => seenP p && isBelowB p.1.p q) = ((wins LL).filter seenP).filter fun p => isBelowB p.1.p q := by
      rw [List.filter_filter]
      apply List.filter_congr
      intro x _
      rw [Bool.and_comm]
    rw [this, wins_vis]
    have hP : ∀ p ∈ visP LL, (winC LL p).1.p = p := fun p hp => seen_p (List.mem_filter.1 hp).2
    generalize visP LL = P at *
    clear this
    induction P with
    | nil => rfl
    | cons a t ih =>
      have ih := ih fun p hp => hP p (List.mem_cons_of_mem _ hp)
      have ha := hP a (List.mem_cons_self ..)
      rw [List.map_cons, List.filter_cons, List.filter_cons, ha]
      split
      · rw [List.map_cons, ih, ha]
      · exact ih
  have hpath := visP_path hs
  rw [e1, ← visT_p]
  rw [← visT_p] at hpath
  unfold walkT allT
  by_cases h0 : q = ByteArray.empty
  · subst h0
    rw [if_pos rfl]
    rw [List.filter_eq_self]
    intro p hp
    rw [below_root rfl]
    exact hpath p hp
  · rw [if_neg h0]
    have hqp : pathB q.data.toList = true := by
      rcases hq with h | h
      · exact absurd (ByteArray.ext (Array.eq_empty_of_size_eq_zero h)) h0
      · exact h
    unfold subT
    have hpT : ∀ r ∈ visT LL, pathB r.p.data.toList = true := fun r hr => hpath _ (List.mem_map.2 ⟨r, hr, rfl⟩)
    generalize visT LL = T at *
    clear e1 hpath
    induction T with
    | nil => rfl
    | cons a t ih =>
      have ih := ih fun r hr => hpT r (List.mem_cons_of_mem _ hr)
      have ha := isUp_isBelow (hpT a (List.mem_cons_self ..)) hqp
      rw [List.map_cons, List.filter_cons, List.filter_cons, ha]
      split
      · rw [List.map_cons, ih]
      · exact ih
/-- The last parts of what is directly below a path. -/
def dirT (LL : List (List R)) (q : ByteArray) : List ByteArray := (kids (visT LL) q).map fun r => lastB r.p
/-- The same, of the paths of the stack (the model). -/
def namesP (LL : List (List R)) (P : List ByteArray) (q : ByteArray) : List ByteArray := (P.filter fun p => decide (parO p = q) && seenP (winC LL p)).map lastB
theorem names_step {LL : List (List R)} {P : List ByteArray} {k : Nat} (hk : k < P.length) (q : ByteArray) : namesP LL (P.take (k + 1)) q = if decide (parO P[k] = q) && seenP (winC LL P[k]) then namesP LL (P.take k) q ++ [lastB P[k]] else namesP LL (P.take k) q := by
  unfold namesP
  rw [List.take_add_one, List.getElem?_eq_getElem hk, List.filter_append, List.map_append]
  cases h : decide (parO P[k] = q) && seenP (winC LL P[k]) <;> simp [h]
theorem kids_vis {LL : List (List R)} (q : ByteArray) : (kids (visT LL) q).map (fun r => r.p) = (visP LL).filter fun p => decide (parO p = q) := by
  rw [← visT_p]
  unfold kids
  generalize visT LL = T
  induction T with
  | nil => rfl
  | cons a t ih =>
    rw [List.map_cons, List.filter_cons, List.filter_cons]
    split
    · rw [List.map_cons, ih]
    · exact ih
theorem names_all (LL : List (List R)) (q : ByteArray) : namesP LL (pathsL LL) q = dirT LL q := by
  have e : dirT LL q = ((kids (visT LL) q).map fun r => r.p).map lastB := by unfold dirT; rw [List.map_map]; rfl
  rw [e, kids_vis]
  unfold namesP visP
  rw [List.filter_filter]
end Go.Proofs.YtibekkfbpmloiaaGreatDoor.Recs

/- Layers: UnderOpaque, of the program and of its model. Conditions (of the program's): the table of kinds, the two sentinels. -/
namespace Go.Proofs.YtibekkfbpmloiaaGreatDoor.Recs
set_option maxRecDepth 100000
open Go.RowKit Paths Errs

def pm : Value → Nat
  | .string s => if s.size = 0 then 0 else (cutAt 47 s.data.toList).length
  | _ => 0
end Go.Proofs.YtibekkfbpmloiaaGreatDoor.Recs

/- slices.Insert of one pointer into a row of pointers of the call's own: what comes out, wherever it goes. -/
namespace Go.Proofs.YtibekkfbpmloiaaGreatDoor.Recs
set_option maxRecDepth 100000
open Go.RowKit Paths

/-- 'copy' for the walk, where its run is known. -/
theorem wp_copy_known (w : World) {P : Program} {o : Oper} {a : Act} {K : Act → World → Prop} {Q : Exit → Act → World → Prop} (d s : Operand) (t t' : TypeId)
    (ho : o.op = .call { callee := .builtin .copy, args := #[d, s], argTypes := #[t, t'] }) (v u : Value) (hd : a.eval d = v) (hs : a.eval s = u) {v' : Value} {w' : World}
    (hr : (Builtin.copy_ #[t, t'] o.type #[v, u]).run P w = .ok v' w') (h : K (a.put o.dst v') w') : o.wp P a w K Q := by
  unfold Oper.wp execOp
  simp only [ho, resolve, invoke, builtin, Sem.run_bind, Sem.run_pure, Result.andThen_ok, List.map_toArray, List.map_cons, List.map_nil, hd, hs, hr]
  exact h
theorem wpList_copy_known (w : World) {P : Program} {ops : Array Oper} {rest : List Oper} {o : Oper} {a : Act} {Q : Exit → Act → World → Prop} (hgd : o.guard = none) (d s : Operand) (t t' : TypeId)
    (ho : o.op = .call { callee := .builtin .copy, args := #[d, s], argTypes := #[t, t'] }) (v u : Value) (hd : a.eval d = v) (hs : a.eval s = u) {v' : Value} {w' : World}
    (hr : (Builtin.copy_ #[t, t'] o.type #[v, u]).run P w = .ok v' w') (h : wpList P ops Q rest (a.put o.dst v') w') : wpList P ops Q (o :: rest) a w :=
  wpList_plain hgd fun _ hK => wp_copy_known w d s t t' ho v u hd hs hr (hK _ _ h)
end Go.Proofs.YtibekkfbpmloiaaGreatDoor.Recs

/- A tree in memory: attach, of the program. -/
namespace Go.Proofs.YtibekkfbpmloiaaGreatDoor.Recs
set_option maxRecDepth 100000
open Go.RowKit Paths

theorem last_cell {q : ByteArray} (h : 0 < (cutAt 47 q.data.toList).length) : strV ((cutAt 47 q.data.toList)[(cutAt 47 q.data.toList).length - 1]'(by omega)) = .string (lastB q) := by
  unfold strV lastB
  rw [List.getLast_eq_getElem]
end Go.Proofs.YtibekkfbpmloiaaGreatDoor.Recs
