/- Parts of several texts of mine in one file (each begins with its own remark). -/
import Derived.Test.YtibekkfbpmloiabGreatDoorHA1
import Derived.Test.YtibekkfbpmloiabGreatDoorHA2
import Derived.Test.YtibekkfbpmloiabGreatDoorHA3
import Derived.Test.YtibekkfbpmloiabGreatDoorHA4
import Derived.Test.YtibekkfbpmloiabGreatDoorHA5
import Derived.Test.YtibekkfbpmloiabGreatDoorHA6
import Derived.Test.YtibekkfbpmloiabGreatDoorHA7
import Derived.Test.YtibekkfbpmloiabGreatDoorChecked
import Derived.Deep.Slices
import Derived.OpenShut
import Derived.ShutString
import Derived.ChangeArms
import Derived.WideShapes
import Derived.Lib.LaidTab
import Derived.BigQuiet
import Derived.Deep.QuietTactic
import Derived.Deep.RegionHeld3
import Derived.StillTailTactics
import Derived.Deep.Draws
import Derived.Deep.LoopGhost
import Derived.WalkKit
import Derived.WalkSpells
import Derived.WalkSmall
import Derived.Lib.OthersKept
import Derived.Lib.Hide
import Derived.Lib.Strings
import Derived.Lib.Join
import Derived.Laws.OwnMore
import Derived.BigRegion
import Derived.Laws.BytesArg
/- All layers passed through at once, plain: the order of records by path and layer, the cursors, the groups of records of one path. -/
namespace Go.Proofs.YtibekkfbpmloiabGreatDoor.Recs
set_option maxRecDepth 100000
open Go.RowKit Paths Heap

/-- By path, then by layer. -/
def klt (a b : List (List UInt8) × Nat) : Bool := lessP a.1 b.1 || (decide (a.1 = b.1) && decide (a.2 < b.2))
theorem klt_iff (a b : List (List UInt8) × Nat) : klt a b = true ↔ lessP a.1 b.1 = true ∨ a.1 = b.1 ∧ a.2 < b.2 := by
  unfold klt
  rw [Bool.or_eq_true, Bool.and_eq_true, decide_eq_true_eq, decide_eq_true_eq]
theorem klt_irr (a : List (List UInt8) × Nat) : ¬ klt a a = true := by
  rw [klt_iff, lessP_irrefl]
  rintro (h | h)
  · cases h
  · omega
theorem klt_trans (a b c : List (List UInt8) × Nat) (h : klt a b = true) (k : klt b c = true) : klt a c = true := by
  rw [klt_iff] at h k ⊢
  rcases h with h | ⟨h1, h2⟩
  · rcases k with k | ⟨k1, k2⟩
    · exact .inl (lessP_trans _ _ _ h k)
    · exact .inl (k1 ▸ h)
  · rcases k with k | ⟨k1, k2⟩
    · exact .inl (h1 ▸ k)
    · exact .inr ⟨h1.trans k1, Nat.lt_trans h2 k2⟩
theorem klt_asymm (a b : List (List UInt8) × Nat) (h : klt a b = true) : klt b a = false := by
  cases k : klt b a with
  | false => rfl
  | true => exact absurd (klt_trans _ _ _ h k) (klt_irr a)
theorem klt_total (a b : List (List UInt8) × Nat) (h : a ≠ b) : klt a b = true ∨ klt b a = true := by
  rw [klt_iff, klt_iff]
  cases h1 : lessP a.1 b.1 with
  | true => exact .inl (.inl rfl)
  | false =>
    cases h2 : lessP b.1 a.1 with
    | true => exact .inr (.inl rfl)
    | false =>
      have e := lessP_total _ _ h1 h2
      rcases Nat.lt_trichotomy a.2 b.2 with h3 | h3 | h3
      · exact .inl (.inr ⟨e, h3⟩)
      · exact absurd (Prod.ext e h3) h
      · exact .inr (.inr ⟨e.symm, h3⟩)
theorem klt_neg (a b c : List (List UInt8) × Nat) (h : klt a c = true) : klt a b = true ∨ klt b c = true := by
  by_cases e : a = b
  · subst e; exact .inr h
  · rcases klt_total a b e with h1 | h1
    · exact .inl h1
    · exact .inr (klt_trans _ _ _ h1 h)
def pk (r : R) : List (List UInt8) := cutAt 47 r.p.data.toList
theorem pk_inj {x y : R} (h : pk x = pk y) : x.p = y.p := bytes_cut h
def kR (p : R × Nat) : List (List UInt8) × Nat := (pk p.1, p.2)
/-- A cursor stands at its first record. -/
def kC (c : Nat × List R) : List (List UInt8) × Nat := (pk (c.2.head?.getD zR), c.1)
def befC (a b : Nat × List R) : Bool := klt (kC a) (kC b)
theorem befC_asymm (a b : Nat × List R) (h : befC a b = true) : befC b a = false := klt_asymm _ _ h
theorem befC_neg (a b c : Nat × List R) (h : befC a c = true) : befC a b = true ∨ befC b c = true := klt_neg _ _ _ h
/-- The records of a stack, with the numbers of their layers. -/
def InAll (LL : List (List R)) (p : R × Nat) : Prop := ∃ l, 0 < p.2 ∧ LL[p.2 - 1]? = some l ∧ p.1 ∈ l

structure HInv (LL : List (List R)) (cs : List (Nat × List R)) (S : List (R × Nat)) : Prop where
  heap : Heap befC 0 cs
  ne : ∀ c ∈ cs, c.2 ≠ []
  srt : ∀ c ∈ cs, Sorted c.2
  num : (cs.map Prod.fst).Nodup
  done : S.Pairwise fun a b => klt (kR a) (kR b) = true
  ahead : ∀ p ∈ S, ∀ c ∈ cs, ∀ r ∈ c.2, klt (kR p) (kR (r, c.1)) = true
  all : ∀ p : R × Nat, InAll LL p ↔ p ∈ S ∨ ∃ l, (p.2, l) ∈ cs ∧ p.1 ∈ l
theorem hinv_first {LL : List (List R)} {tl : List (Nat × List R)} {S : List (R × Nat)} {n : Nat} {x : R} {left : List R} (h : HInv LL ((n, x :: left) :: tl) S) : (∀ r ∈ left, klt (kR (x, n)) (kR (r, n)) = true) ∧ ∀ c ∈ tl, ∀ r ∈ c.2, klt (kR (x, n)) (kR (r, c.1)) = true := by
  refine ⟨fun r hr => ?_, fun c hc r hr => ?_⟩
  · have := (List.pairwise_cons.1 (h.srt _ (List.mem_cons_self ..))).1 r hr
    rw [klt_iff]
    exact .inl this
  · have hne := h.ne c (List.mem_cons_of_mem _ hc)
    have hsr := h.srt c (List.mem_cons_of_mem _ hc)
    obtain ⟨i, hi, hci⟩ := List.getElem_of_mem hc
    have h1 := heap_first befC befC_asymm befC_neg h.heap (i + 1) (i + 1) (Nat.le_refl _) c (n, x :: left) (by rw [List.getElem?_cons_succ, List.getElem?_eq_getElem hi, hci]) rfl
    have hnn : c.1 ≠ n := by
      have := (List.nodup_cons.1 h.num).1
      intro e
      exact this (by rw [← e]; exact List.mem_map.2 ⟨c, hc, rfl⟩)
    obtain ⟨m, l⟩ := c
    cases l with
    | nil => exact absurd rfl hne
    | cons y t =>
      have h2 : klt (kR (x, n)) (kR (y, m)) = true := by
        rcases klt_total (kR (x, n)) (kR (y, m)) (fun e => hnn (congrArg Prod.snd e).symm) with h2 | h2
        · exact h2
        · have h1' : klt (kR (y, m)) (kR (x, n)) = false := h1
          rw [h2] at h1'
          cases h1'
      rcases List.mem_cons.1 hr with rfl | hr
      · exact h2
      · refine klt_trans _ _ _ h2 ?_
        rw [klt_iff]
        exact .inl ((List.pairwise_cons.1 hsr).1 r hr)
theorem hinv_step {LL : List (List R)} {tl cs' : List (Nat × List R)} {S : List (R × Nat)} {n : Nat} {x : R} {left : List R} (h : HInv LL ((n, x :: left) :: tl) S) (hh : Heap befC 0 cs')
    (hp : cs'.Perm (if left = [] then tl else (n, left) :: tl)) : HInv LL cs' (S ++ [(x, n)]) := by
  obtain ⟨f1, f2⟩ := hinv_first h
  have hmem : ∀ c, c ∈ cs' ↔ (left ≠ [] ∧ c = (n, left)) ∨ c ∈ tl := fun c => by
    rw [hp.mem_iff]
    by_cases hl : left = []
    · simp [hl]
    · simp [hl]
  refine ⟨hh, fun c hc => ?_, fun c hc => ?_, ?_, ?_, fun p hp1 c hc r hr => ?_, fun p => ?_⟩
  · rcases (hmem c).1 hc with ⟨h1, rfl⟩ | h1
    · exact h1
    · exact h.ne c (List.mem_cons_of_mem _ h1)
  · rcases (hmem c).1 hc with ⟨h1, rfl⟩ | h1
    · exact (List.pairwise_cons.1 (h.srt _ (List.mem_cons_self ..))).2
    · exact h.srt c (List.mem_cons_of_mem _ h1)
  · rw [(hp.map Prod.fst).nodup_iff]
    have := h.num
    rw [List.map_cons] at this
    split
    · exact (List.nodup_cons.1 this).2
    · rw [List.map_cons]
      exact this
  · rw [List.pairwise_append]
    refine ⟨h.done, List.pairwise_singleton _ _, fun a ha b hb => ?_⟩
    rw [List.mem_singleton.1 hb]
    exact h.ahead a ha _ (List.mem_cons_self ..) x (List.mem_cons_self ..)
  · rcases List.mem_append.1 hp1 with h1 | h1
    · rcases (hmem c).1 hc with ⟨h2, rfl⟩ | h2
      · exact h.ahead p h1 _ (List.mem_cons_self ..) r (List.mem_cons_of_mem _ hr)
      · exact h.ahead p h1 c (List.mem_cons_of_mem _ h2) r hr
    · rw [List.mem_singleton.1 h1]
      rcases (hmem c).1 hc with ⟨h2, rfl⟩ | h2
      · exact f1 r hr
      · exact f2 c h2 r hr
  · rw [h.all p, List.mem_append, List.mem_singleton]
    constructor
    · rintro (h1 | ⟨l, h1, h2⟩)
      · exact .inl (.inl h1)
      · rcases List.mem_cons.1 h1 with e | h1
        · have e1 : p.2 = n := congrArg Prod.fst e
          have e2 : l = x :: left := congrArg Prod.snd e
          rw [e2] at h2
          rcases List.mem_cons.1 h2 with h3 | h3
          · exact .inl (.inr (Prod.ext h3 e1))
          · refine .inr ⟨left, (hmem _).2 (.inl ⟨?_, by rw [e1]⟩), h3⟩
            intro hl
            rw [hl] at h3
            cases h3
        · exact .inr ⟨l, (hmem _).2 (.inr h1), h2⟩
    · rintro ((h1 | h1) | ⟨l, h1, h2⟩)
      · exact .inl h1
      · rw [h1]
        exact .inr ⟨x :: left, List.mem_cons_self .., List.mem_cons_self ..⟩
      · rcases (hmem _).1 h1 with ⟨_, e⟩ | h3
        · have e1 : p.2 = n := congrArg Prod.fst e
          have e2 : l = left := congrArg Prod.snd e
          exact .inr ⟨x :: left, by rw [e1]; exact List.mem_cons_self .., by rw [← e2]; exact List.mem_cons_of_mem _ h2⟩
        · exact .inr ⟨l, List.mem_cons_of_mem _ h3, h2⟩

/-- The records so far, those of one path together. -/
def addG (G : List (List (R × Nat))) (p : R × Nat) : List (List (R × Nat)) := match G.getLast? with
  | none => G ++ [[p]]
  | some g => if g.head?.map (fun x => x.1.p) = some p.1.p then G.dropLast ++ [g ++ [p]] else G ++ [[p]]
structure Grouped (G : List (List (R × Nat))) (S : List (R × Nat)) : Prop where
  flat : G.flatten = S
  ne : ∀ g ∈ G, g ≠ []
  one : ∀ g ∈ G, ∀ p ∈ g, ∀ p' ∈ g, p.1.p = p'.1.p
  ord : G.Pairwise fun g h => ∀ p ∈ g, ∀ p' ∈ h, lessR p.1 p'.1 = true
theorem grouped_nil : Grouped [] [] := ⟨rfl, fun _ h => (by cases h), fun _ h => (by cases h), List.Pairwise.nil⟩
theorem grouped_step {G : List (List (R × Nat))} {S : List (R × Nat)} {p : R × Nat} (h : Grouped G S) (hp : ∀ a ∈ S, klt (kR a) (kR p) = true) : Grouped (addG G p) (S ++ [p]) := by
  have hS : ∀ g ∈ G, ∀ a ∈ g, a ∈ S := fun g hg a ha => by rw [← h.flat]; exact List.mem_flatten.2 ⟨g, hg, ha⟩
  have snoc : (∀ g ∈ G, ∀ a ∈ g, lessR a.1 p.1 = true) → Grouped (G ++ [[p]]) (S ++ [p]) := fun hl => by
    refine ⟨by rw [List.flatten_append, h.flat]; rfl, fun g hg => ?_, fun g hg => ?_, ?_⟩
    · rcases List.mem_append.1 hg with hg | hg
      · exact h.ne g hg
      · rw [List.mem_singleton.1 hg]; simp
    · rcases List.mem_append.1 hg with hg | hg
      · exact h.one g hg
      · rw [List.mem_singleton.1 hg]
        intro a ha b hb
        rw [List.mem_singleton.1 ha, List.mem_singleton.1 hb]
    · rw [List.pairwise_append]
      refine ⟨h.ord, List.pairwise_singleton _ _, fun g hg g' hg' a ha b hb => ?_⟩
      rw [List.mem_singleton.1 hg'] at hb
      rw [List.mem_singleton.1 hb]
      exact hl g hg a ha
  unfold addG
  cases hg : G.getLast? with
  | none =>
    have : G = [] := by simpa using hg
    refine snoc fun g hgm => ?_
    rw [this] at hgm
    cases hgm
  | some g =>
    have hgm : g ∈ G := List.mem_of_getLast? hg
    have hne := h.ne g hgm
    obtain ⟨a, t, rfl⟩ : ∃ a t, g = a :: t := by cases g with | nil => exact absurd rfl hne | cons a t => exact ⟨a, t, rfl⟩
    have hD : G = G.dropLast ++ [a :: t] := by
      obtain ⟨D, hD'⟩ := List.getLast?_eq_some_iff.1 hg
      rw [hD', List.dropLast_concat]
    have ham : a ∈ a :: t := List.mem_cons_self ..
    show Grouped (if some a.1.p = some p.1.p then _ else _) _
    by_cases hq : a.1.p = p.1.p
    · rw [if_pos (by rw [hq])]
      generalize G.dropLast = D at *
      subst hD
      have ho := List.pairwise_append.1 h.ord
      have hall : ∀ b ∈ (a :: t) ++ [p], b.1.p = p.1.p := fun b hb => by
        rcases List.mem_append.1 hb with hb | hb
        · rw [h.one _ hgm b hb a ham, hq]
        · rw [List.mem_singleton.1 hb]
      refine ⟨?_, fun g' hg' => ?_, fun g' hg' => ?_, ?_⟩
      · rw [← h.flat]
        simp
      · rcases List.mem_append.1 hg' with hg' | hg'
        · exact h.ne g' (List.mem_append_left _ hg')
        · rw [List.mem_singleton.1 hg']; simp
      · rcases List.mem_append.1 hg' with hg' | hg'
        · exact h.one g' (List.mem_append_left _ hg')
        · rw [List.mem_singleton.1 hg']
          intro b hb c hc
          rw [hall b hb, hall c hc]
      · rw [List.pairwise_append]
        refine ⟨ho.1, List.pairwise_singleton _ _, fun g1 hg1 g2 hg2 b hb c hc => ?_⟩
        rw [List.mem_singleton.1 hg2] at hc
        have h1 := ho.2.2 g1 hg1 (a :: t) (List.mem_singleton.2 rfl) b hb a ham
        rw [less_path (show c.1.p = a.1.p by rw [hall c hc, hq])]
        exact h1
    · rw [if_neg (fun e => hq (Option.some.inj e))]
      have hap : lessR a.1 p.1 = true := by
        have := hp a (hS _ hgm a ham)
        rw [klt_iff] at this
        rcases this with h1 | ⟨h1, _⟩
        · exact h1
        · exact absurd (pk_inj h1) hq
      refine snoc fun g' hg' b hb => ?_
      rw [hD] at hg'
      have ho := h.ord
      rw [hD] at ho
      have ho := List.pairwise_append.1 ho
      rcases List.mem_append.1 hg' with hg' | hg'
      · exact lessP_trans _ _ _ (ho.2.2 g' hg' (a :: t) (List.mem_singleton.2 rfl) b hb a ham) hap
      · rw [List.mem_singleton.1 hg'] at hb
        rw [less_path' (h.one _ hgm b hb a ham)]
        exact hap

/-- The paths of all records, each once, in order. -/
def lessQ (a b : ByteArray) : Bool := lessP (cutAt 47 a.data.toList) (cutAt 47 b.data.toList)
def insP (q : ByteArray) : List ByteArray → List ByteArray
  | [] => [q]
  | a :: t => if a = q then a :: t else if lessQ q a then q :: a :: t else a :: insP q t
def pathsL (LL : List (List R)) : List ByteArray := LL.flatten.foldl (fun P r => insP r.p P) []
def Ups (P : List ByteArray) : Prop := P.Pairwise fun a b => lessQ a b = true
theorem lessQ_irr (a : ByteArray) : ¬ lessQ a a = true := by unfold lessQ; rw [lessP_irrefl]; decide
theorem lessQ_trans (a b c : ByteArray) (h : lessQ a b = true) (k : lessQ b c = true) : lessQ a c = true := lessP_trans _ _ _ h k
theorem lessQ_total {a b : ByteArray} (h : a ≠ b) : lessQ a b = true ∨ lessQ b a = true := by
  cases h1 : lessQ a b with
  | true => exact .inl rfl
  | false =>
    cases h2 : lessQ b a with
    | true => exact .inr rfl
    | false => exact absurd (bytes_cut (lessP_total _ _ h1 h2)) h
theorem insP_mem (q : ByteArray) : ∀ (P : List ByteArray) (x : ByteArray), x ∈ insP q P ↔ x = q ∨ x ∈ P
  | [], x => by simp [insP]
  | a :: t, x => by
    have ih := insP_mem q t x
    unfold insP
    split
    · rename_i h
      subst h
      simp
    · split
      · simp
      · simp only [List.mem_cons, ih]
        constructor
        · rintro (h | h | h)
          · exact .inr (.inl h)
          · exact .inl h
          · exact .inr (.inr h)
        · rintro (h | h | h)
          · exact .inr (.inl h)
          · exact .inl h
          · exact .inr (.inr h)
theorem insP_ups (q : ByteArray) : ∀ (P : List ByteArray), Ups P → Ups (insP q P)
  | [], _ => List.pairwise_singleton _ _
  | a :: t, h => by
    obtain ⟨h1, h2⟩ := List.pairwise_cons.1 h
    unfold insP
    split
    · exact h
    · rename_i hne
      split
      · rename_i hl
        refine List.pairwise_cons.2 ⟨fun b hb => ?_, h⟩
        rcases List.mem_cons.1 hb with rfl | hb
        · exact hl
        · exact lessQ_trans _ _ _ hl (h1 b hb)
      · rename_i hl
        have hl2 : lessQ a q = true := by
          rcases lessQ_total (a := a) (b := q) hne with h | h
          · exact h
          · exact absurd h hl
        refine List.pairwise_cons.2 ⟨fun b hb => ?_, insP_ups q t h2⟩
        rcases (insP_mem q t b).1 hb with rfl | hb
        · exact hl2
        · exact h1 b hb
theorem fold_ins (l : List R) : ∀ P, Ups P → Ups (l.foldl (fun P r => insP r.p P) P) ∧ ∀ x, x ∈ l.foldl (fun P r => insP r.p P) P ↔ x ∈ P ∨ ∃ r ∈ l, r.p = x := by
  induction l with
  | nil => exact fun P h => ⟨h, fun x => by simp⟩
  | cons a t ih =>
    intro P h
    obtain ⟨h1, h2⟩ := ih (insP a.p P) (insP_ups _ _ h)
    refine ⟨h1, fun x => ?_⟩
    show x ∈ t.foldl _ (insP a.p P) ↔ _
    rw [h2 x, insP_mem]
    simp only [List.mem_cons]
    constructor
    · rintro ((h | h) | ⟨r, hr, e⟩)
      · exact .inr ⟨a, .inl rfl, h.symm⟩
      · exact .inl h
      · exact .inr ⟨r, .inr hr, e⟩
    · rintro (h | ⟨r, hr | hr, e⟩)
      · exact .inl (.inr h)
      · rw [hr] at e; exact .inl (.inl e.symm)
      · exact .inr ⟨r, hr, e⟩
theorem pathsL_ups (LL : List (List R)) : Ups (pathsL LL) := (fold_ins _ [] List.Pairwise.nil).1
theorem pathsL_mem (LL : List (List R)) (q : ByteArray) : q ∈ pathsL LL ↔ ∃ l ∈ LL, ∃ r ∈ l, r.p = q := by
  unfold pathsL
  rw [(fold_ins _ [] List.Pairwise.nil).2 q]
  constructor
  · rintro (h | ⟨r, hr, e⟩)
    · cases h
    · obtain ⟨l, hl, hrl⟩ := List.mem_flatten.1 hr
      exact ⟨l, hl, r, hrl, e⟩
  · rintro ⟨l, hl, r, hr, e⟩
    exact .inr ⟨r, List.mem_flatten.2 ⟨l, hl, hr⟩, e⟩
theorem ups_ext {P Q : List ByteArray} (hp : Ups P) (hq : Ups Q) (h : ∀ x, x ∈ P ↔ x ∈ Q) : P = Q := pw_ext lessQ_irr lessQ_trans P Q hp hq h

theorem grpN_all : ∀ (s : List (List R)) (n : Nat) (q : ByteArray), (∀ l ∈ s, Sorted l) → ∀ p, p ∈ grpN s n q ↔ p.1.p = q ∧ n < p.2 ∧ ∃ l, s[p.2 - n - 1]? = some l ∧ p.1 ∈ l
  | [], n, q, _, p => by simp [grpN]
  | l :: s, n, q, hs, p => by
    have ih := grpN_all s (n + 1) q (fun a ha => hs a (List.mem_cons_of_mem _ ha)) p
    have hsl := hs l (List.mem_cons_self ..)
    have tl : (p.1.p = q ∧ n + 1 < p.2 ∧ ∃ l', s[p.2 - (n + 1) - 1]? = some l' ∧ p.1 ∈ l') ↔ (p.1.p = q ∧ n + 1 < p.2 ∧ ∃ l', (l :: s)[p.2 - n - 1]? = some l' ∧ p.1 ∈ l') := by
      constructor
      · rintro ⟨h1, h2, h3⟩
        have e : p.2 - n - 1 = p.2 - (n + 1) - 1 + 1 := by omega
        rw [e, List.getElem?_cons_succ]
        exact ⟨h1, h2, h3⟩
      · rintro ⟨h1, h2, h3⟩
        have e : p.2 - n - 1 = p.2 - (n + 1) - 1 + 1 := by omega
        rw [e, List.getElem?_cons_succ] at h3
        exact ⟨h1, h2, h3⟩
    have hd : p.2 = n + 1 → ((l :: s)[p.2 - n - 1]? = some l) := fun e => by
      have : p.2 - n - 1 = 0 := by omega
      rw [this]
      rfl
    simp only [grpN]
    cases hr : recAt l q with
    | none =>
      dsimp only
      rw [ih, tl]
      constructor
      · rintro ⟨h1, h2, h3⟩
        exact ⟨h1, by omega, h3⟩
      · rintro ⟨h1, h2, l', h3, h4⟩
        rcases Nat.lt_or_ge (n + 1) p.2 with h5 | h5
        · exact ⟨h1, h5, l', h3, h4⟩
        · have e : p.2 = n + 1 := by omega
          rw [hd e] at h3
          cases h3
          exact absurd h1 (recAt_none hr _ h4)
    | some r =>
      dsimp only
      obtain ⟨hm, hrp⟩ := recAt_mem hr
      rw [List.mem_cons, ih, tl]
      constructor
      · rintro (rfl | ⟨h1, h2, h3⟩)
        · exact ⟨hrp, Nat.lt_succ_self _, l, hd rfl, hm⟩
        · exact ⟨h1, by omega, h3⟩
      · rintro ⟨h1, h2, l', h3, h4⟩
        rcases Nat.lt_or_ge (n + 1) p.2 with h5 | h5
        · exact .inr ⟨h1, h5, l', h3, h4⟩
        · have e : p.2 = n + 1 := by omega
          rw [hd e] at h3
          cases h3
          have := sorted_mem_once hsl h4 hm (h1.trans hrp.symm)
          exact .inl (Prod.ext this e)
theorem grpN_up : ∀ (s : List (List R)) (n : Nat) (q : ByteArray), (grpN s n q).Pairwise fun a b => a.2 < b.2
  | [], _, _ => List.Pairwise.nil
  | l :: s, n, q => by
    have ih := grpN_up s (n + 1) q
    simp only [grpN]
    cases recAt l q with
    | none => exact ih
    | some r =>
      refine List.pairwise_cons.2 ⟨fun b hb => ?_, ih⟩
      have := (grpN_num _ _ _ b hb).1
      dsimp only
      omega
theorem grp_all {LL : List (List R)} (hs : ∀ l ∈ LL, Sorted l) (q : ByteArray) (p : R × Nat) : p ∈ grp LL q ↔ p.1.p = q ∧ InAll LL p := by
  unfold grp InAll
  rw [grpN_all LL 0 q hs p]
  constructor
  · rintro ⟨h1, h2, l, h3, h4⟩
    exact ⟨h1, l, h2, h3, h4⟩
  · rintro ⟨h1, l, h2, h3, h4⟩
    exact ⟨h1, h2, l, h3, h4⟩
/-- When all has been passed through, the groups are those of all paths. -/
theorem groups_all {LL : List (List R)} {G : List (List (R × Nat))} {S : List (R × Nat)} (hs : ∀ l ∈ LL, Sorted l) (hg : Grouped G S) (hd : S.Pairwise fun a b => klt (kR a) (kR b) = true) (ha : ∀ p, InAll LL p ↔ p ∈ S) : G = (pathsL LL).map (grp LL) := by
  have hm : ∀ g ∈ G, ∀ a ∈ g, g = grp LL a.1.p := fun g hgm a ham => by
    refine pw_ext (lt := fun a b => klt (kR a) (kR b) = true) (fun a => klt_irr _) (fun a b c => klt_trans _ _ _) _ _ ?_ ?_ fun p => ?_
    · rw [← hg.flat] at hd
      exact hd.sublist (List.sublist_flatten_of_mem hgm)
    · refine (grpN_up LL 0 a.1.p).imp_of_mem fun {x y} hx hy h => ?_
      have h1 := ((grp_all hs _ x).1 hx).1
      have h2 := ((grp_all hs _ y).1 hy).1
      rw [klt_iff]
      refine .inr ⟨?_, h⟩
      show pk x.1 = pk y.1
      unfold pk
      rw [h1, h2]
    · rw [grp_all hs]
      constructor
      · intro hp
        exact ⟨hg.one g hgm p hp a ham, (ha p).2 (by rw [← hg.flat]; exact List.mem_flatten.2 ⟨g, hgm, hp⟩)⟩
      · rintro ⟨h1, h2⟩
        have h3 := (ha p).1 h2
        rw [← hg.flat] at h3
        obtain ⟨g', hg', hp⟩ := List.mem_flatten.1 h3
        by_cases e : g' = g
        · rw [← e]; exact hp
        · have : (∀ p ∈ g, ∀ p' ∈ g', lessR p.1 p'.1 = true) ∨ (∀ p ∈ g', ∀ p' ∈ g, lessR p.1 p'.1 = true) := by
            obtain ⟨i, hi, rfl⟩ := List.getElem_of_mem hgm
            obtain ⟨j, hj, rfl⟩ := List.getElem_of_mem hg'
            have ho := List.pairwise_iff_getElem.1 hg.ord
            rcases Nat.lt_trichotomy i j with h | h | h
            · exact .inl (ho i j hi hj h)
            · subst h; exact absurd rfl e
            · exact .inr (ho j i hj hi h)
          rcases this with h | h
          · exact absurd h1.symm (less_ne (h a ham p hp))
          · exact absurd h1 (less_ne (h p hp a ham))
  have hP : G.map (fun g => (g.head?.getD (zR, 0)).1.p) = pathsL LL := by
    refine ups_ext ?_ (pathsL_ups LL) fun x => ?_
    · unfold Ups
      rw [List.pairwise_map]
      refine hg.ord.imp_of_mem fun {g h} hgm hhm hgh => ?_
      have h1 := hg.ne g hgm
      have h2 := hg.ne h hhm
      cases g with
      | nil => exact absurd rfl h1
      | cons a t =>
        cases h with
        | nil => exact absurd rfl h2
        | cons b u => exact hgh a (List.mem_cons_self ..) b (List.mem_cons_self ..)
    · rw [pathsL_mem, List.mem_map]
      constructor
      · rintro ⟨g, hgm, rfl⟩
        have h1 := hg.ne g hgm
        cases g with
        | nil => exact absurd rfl h1
        | cons a t =>
          obtain ⟨l, _, h3, h4⟩ := (ha a).2 (by rw [← hg.flat]; exact List.mem_flatten.2 ⟨_, hgm, List.mem_cons_self ..⟩)
          exact ⟨l, List.mem_of_getElem? h3, a.1, h4, rfl⟩
      · rintro ⟨l, hl, r, hr, rfl⟩
        obtain ⟨i, hi, rfl⟩ := List.getElem_of_mem hl
        have h1 := (ha (r, i + 1)).1 ⟨LL[i], Nat.succ_pos _, by simp [hi], hr⟩
        rw [← hg.flat] at h1
        obtain ⟨g, hgm, h2⟩ := List.mem_flatten.1 h1
        refine ⟨g, hgm, ?_⟩
        have h3 := hg.ne g hgm
        cases g with
        | nil => exact absurd rfl h3
        | cons a t => exact hg.one _ hgm a (List.mem_cons_self ..) _ h2
  rw [← hP, List.map_map]
  conv => lhs; rw [← List.map_id G]
  refine List.map_congr_left fun g hgm => ?_
  have h1 := hg.ne g hgm
  cases g with
  | nil => exact absurd rfl h1
  | cons a t => exact hm _ hgm a (List.mem_cons_self ..)
end Go.Proofs.YtibekkfbpmloiabGreatDoor.Recs

/- What is seen at all paths of a stack, plain: its canonical form is the combination of the stack; combining parts of a stack first. -/
namespace Go.Proofs.YtibekkfbpmloiabGreatDoor.Recs
set_option maxRecDepth 100000
open Go.RowKit Paths

def wins (LL : List (List R)) : List (R × Nat) := ((pathsL LL).map (winC LL)).filter fun p => decide (0 < p.2)
def winL (LL : List (List R)) : List R := (wins LL).map Prod.fst
theorem last_mem {C : List (R × Nat)} (h : 0 < (overC C).2) : ∃ p ∈ C, (overC C).2 = p.2 ∧ ((overC C).1 = p.1 ∨ p.1.k = 3 ∧ (overC C).1 = { p.1 with o := true }) := by
  unfold overC at h ⊢
  cases hl : C.getLast? with
  | none => rw [hl] at h; simp at h
  | some p =>
    refine ⟨p, List.mem_of_getLast? hl, rfl, ?_⟩
    dsimp only
    split
    · rename_i hh; exact .inr ⟨hh.1, rfl⟩
    · exact .inl rfl
theorem win_rec {LL : List (List R)} {q : ByteArray} (h : 0 < (winC LL q).2) : (winC LL q).1.p = q ∧ cutD LL q ≤ (winC LL q).2 ∧ ∃ y, (y, (winC LL q).2) ∈ consd LL q ∧ ((winC LL q).1 = y ∨ y.k = 3 ∧ (winC LL q).1 = { y with o := true }) := by
  obtain ⟨p, hp, h2, h3⟩ := last_mem (C := consd LL q) h
  have hpq := (grpN_mem _ _ _ p hp).1
  have hcut : cutD LL q ≤ p.2 := by
    rw [consd_filter] at hp
    simpa using (List.mem_filter.1 hp).2
  refine ⟨?_, ?_, p.1, ?_, h3⟩
  · show (overC (consd LL q)).1.p = q
    rcases h3 with h3 | ⟨_, h3⟩ <;> rw [h3] <;> exact hpq
  · show cutD LL q ≤ (overC (consd LL q)).2
    rw [h2]; exact hcut
  · show (p.1, (overC (consd LL q)).2) ∈ _
    rw [h2]; exact hp
theorem consd_all {LL : List (List R)} (hs : ∀ l ∈ LL, Sorted l) {q : ByteArray} {p : R × Nat} (h : p ∈ consd LL q) : p.1.p = q ∧ InAll LL p := by
  rw [consd_filter] at h
  exact (grp_all hs q p).1 (List.mem_filter.1 h).1
theorem opaque_fault {y : R} (h : y.fault = 0) (hk : y.k = 3) : ({ y with o := true } : R).fault = 0 := by
  have e : overO [{ y with k := 1 }] y = { y with o := true } := by
    unfold overO
    rw [recAt_cons_eq rfl]
    show overR _ y = _
    unfold overR
    rw [if_pos ⟨hk, by simp [stops]⟩]
  rw [← e]
  exact over_fault h
theorem wins_mem {LL : List (List R)} {p : R × Nat} : p ∈ wins LL ↔ ∃ q ∈ pathsL LL, winC LL q = p ∧ 0 < p.2 := by
  unfold wins
  rw [List.mem_filter, List.mem_map]
  constructor
  · rintro ⟨⟨q, hq, rfl⟩, h⟩
    exact ⟨q, hq, rfl, by simpa using h⟩
  · rintro ⟨q, hq, rfl, h⟩
    exact ⟨⟨q, hq, rfl⟩, by simpa using h⟩
theorem winL_sorted (LL : List (List R)) : Sorted (winL LL) := by
  unfold winL wins Sorted
  rw [List.pairwise_map, List.pairwise_filter, List.pairwise_map]
  refine (pathsL_ups LL).imp fun {a b} h h1 h2 => ?_
  have e1 := (win_rec (LL := LL) (q := a) (by simpa using h1)).1
  have e2 := (win_rec (LL := LL) (q := b) (by simpa using h2)).1
  unfold lessR
  rw [e1, e2]
  exact h
theorem winL_fault {LL : List (List R)} (hs : ∀ l ∈ LL, Fine l) : ∀ r ∈ winL LL, r.fault = 0 := by
  intro r hr
  obtain ⟨p, hp, rfl⟩ := List.mem_map.1 hr
  obtain ⟨q, hq, rfl, h0⟩ := wins_mem.1 hp
  obtain ⟨_, _, y, hy, h3⟩ := win_rec h0
  obtain ⟨_, l, _, hl, hm⟩ := consd_all (fun l hl => (hs l hl).layer.sorted) hy
  have hf := (hs l (List.mem_of_getElem? hl)).fine y hm
  rcases h3 with h3 | ⟨hk, h3⟩ <;> rw [h3]
  · exact hf
  · exact opaque_fault hf hk
theorem insP_len (q : ByteArray) : ∀ P : List ByteArray, (insP q P).length ≤ P.length + 1
  | [] => by simp [insP]
  | a :: t => by
    have := insP_len q t
    unfold insP
    split
    · simp
    · split
      · simp
      · simp; exact this
theorem fold_len (l : List R) : ∀ P : List ByteArray, (l.foldl (fun P r => insP r.p P) P).length ≤ P.length + l.length := by
  induction l with
  | nil => intro P; simp
  | cons a t ih =>
    intro P
    have h1 := ih (insP a.p P)
    have h2 := insP_len a.p P
    simp only [List.foldl_cons, List.length_cons]
    omega
theorem flat_16 : ∀ {LL : List (List R)}, (∀ l ∈ LL, l.length ≤ 16) → LL.flatten.length ≤ 16 * LL.length
  | [], _ => by simp
  | a :: t, h => by
    have ih := flat_16 (LL := t) (fun l hm => h l (List.mem_cons_of_mem _ hm))
    have ha := h a (List.mem_cons_self ..)
    simp only [List.flatten_cons, List.length_append, List.length_cons]
    omega
theorem pathsL_len {LL : List (List R)} (h : ∀ l ∈ LL, l.length ≤ 16) (h5 : LL.length ≤ 5) : (pathsL LL).length ≤ 80 := by
  have h1 := fold_len LL.flatten []
  have h2 := flat_16 h
  unfold pathsL
  simp only [List.length_nil] at h1
  omega
theorem wins_len (LL : List (List R)) : (wins LL).length ≤ (pathsL LL).length := by
  unfold wins
  have := List.length_filter_le (fun p : R × Nat => decide (0 < p.2)) ((pathsL LL).map (winC LL))
  rw [List.length_map] at this
  exact this
theorem path_of_path {LL : List (List R)} (hs : ∀ l ∈ LL, Fine l) {q : ByteArray} (hq : q ∈ pathsL LL) : pathB q.data.toList = true := by
  obtain ⟨l, hl, r, hr, rfl⟩ := (pathsL_mem LL q).1 hq
  exact (hs l hl).layer.path r hr
end Go.Proofs.YtibekkfbpmloiabGreatDoor.Recs

/- For laws over lists of records: the laws' own sizes with their sums; blocks between two numbers; two equal rows of strings. -/
namespace Go.Proofs.YtibekkfbpmloiabGreatDoor.Recs
set_option maxRecDepth 100000
open Go.RowKit Paths

/-- From w to w' nothing has turned but blocks from base on, below top; and new ones came. -/
structure Betw (base top : Nat) (w w' : World) : Prop where
  os : w'.os = w.os
  tape : w'.tape = w.tape
  output : w'.output = w.output
  size : w.heap.size ≤ w'.heap.size
  block : ∀ k, k < w.heap.size → (k < base ∨ top ≤ k) → w'.heap[k]? = w.heap[k]?
theorem Betw.refl (base top : Nat) (w : World) : Betw base top w w := ⟨rfl, rfl, rfl, Nat.le_refl _, fun _ _ _ => rfl⟩
theorem Betw.trans {base top : Nat} {a b c : World} (h : Betw base top a b) (k : Betw base top b c) : Betw base top a c :=
  ⟨k.os.trans h.os, k.tape.trans h.tape, k.output.trans h.output, Nat.le_trans h.size k.size, fun i hi hk => (k.block i (Nat.lt_of_lt_of_le hi h.size) hk).trans (h.block i hi hk)⟩
theorem Betw.below {base top B : Nat} {a w w' : World} (h : Below B a w) (hb : Betw base top w w') (hB : B ≤ base) (hB2 : B ≤ w.heap.size) : Below B a w' :=
  h.trans ⟨hb.os, hb.tape, hb.output, hb.size, fun k hk => hb.block k (by omega) (.inl (by omega))⟩
theorem Betw.own {base top : Nat} {w w' : World} (hb : Betw base top w w') {b : Nat} {e : TypeId} {s : Nat} {v : Value} {n : Nat} {xs : List Value} (h : w.ownsRow b e s v n xs) (hk : ∀ k, v.ownBlock = some k → k < base ∨ top ≤ k) : w'.ownsRow b e s v n xs := by
  obtain ⟨h1, h2⟩ := h
  refine ⟨h1, ?_⟩
  rcases h2 with h2 | ⟨g, cap, cur, rfl, b1, c, d⟩
  · exact .inl h2
  · exact .inr ⟨g, cap, cur, rfl, b1, by rw [hb.block g (Array.getElem?_eq_some_iff.1 c).1 (hk g rfl)]; exact c, d⟩
end Go.Proofs.YtibekkfbpmloiabGreatDoor.Recs
