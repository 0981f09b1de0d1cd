/- Parts of several texts of mine in one file (each begins with its own remark). -/
import Derived.Test.YtibekkfbpmloiaaGreatDoorCA1
import Derived.Test.YtibekkfbpmloiaaGreatDoorCA2
import Derived.Test.YtibekkfbpmloiaaGreatDoorCA4
import Derived.Test.YtibekkfbpmloiaaGreatDoorCA5
import Derived.Test.YtibekkfbpmloiaaGreatDoorChecked
import Derived.Test.YtibekkfbpmloiaaGreatDoorShelf
import Derived.Deep.Slices
import Derived.OpenShut
import Derived.ShutString
import Derived.ChangeArms
import Derived.WideShapes
import Derived.Lib.LaidTab
import Derived.BigQuiet
import Derived.Deep.QuietTactic
import Derived.Deep.RegionHeld3
import Derived.StillTailTactics
import Derived.Deep.Draws
import Derived.Deep.LoopGhost
import Derived.WalkKit
import Derived.WalkSpells
import Derived.WalkSmall
import Derived.Lib.OthersKept
import Derived.Lib.Hide
import Derived.Lib.Strings
import Derived.Lib.Join
import Derived.Laws.OwnMore
import Derived.BigRegion
import Derived.Laws.BytesArg
/- Combining many layers, plain: the highest layer that cuts a path off; the records considered at a path; what is seen there. -/
namespace Go.Proofs.YtibekkfbpmloiaaGreatDoor.Recs
set_option maxRecDepth 100000
open Go.RowKit Paths

/-- The number of the highest layer that cuts a path off, highest layer first. -/
def cutR : List (List R) → ByteArray → Nat
  | [], _ => 0
  | l :: s, q => if cutsL l q then s.length + 1 else cutR s q
def cutD (LL : List (List R)) (q : ByteArray) : Nat := cutR LL.reverse q
theorem cut_snoc (M : List (List R)) (l : List R) (q : ByteArray) : cutD (M ++ [l]) q = if cutsL l q then M.length + 1 else cutD M q := by
  unfold cutD
  rw [List.reverse_append]
  show cutR (l :: M.reverse) q = _
  rw [cutR, List.length_reverse]
theorem cut_take {LL : List (List R)} {k : Nat} (h : k < LL.length) (q : ByteArray) : cutD (LL.take (k + 1)) q = if cutsL LL[k] q then k + 1 else cutD (LL.take k) q := by
  rw [List.take_succ_eq_append_getElem h, cut_snoc, List.length_take, Nat.min_eq_left (by omega)]
theorem cutR_le : ∀ (s : List (List R)) (q : ByteArray), cutR s q ≤ s.length
  | [], _ => Nat.le_refl _
  | l :: s, q => by
    rw [cutR]
    have := cutR_le s q
    split
    · exact Nat.le_refl _
    · simp only [List.length_cons]; omega
theorem cut_le (LL : List (List R)) (q : ByteArray) : cutD LL q ≤ LL.length := by
  have := cutR_le LL.reverse q
  rw [List.length_reverse] at this
  exact this

/-- The records of a path, with the numbers of their layers. -/
def grpN : List (List R) → Nat → ByteArray → List (R × Nat)
  | [], _, _ => []
  | l :: s, n, q => match recAt l q with
    | some r => (r, n + 1) :: grpN s (n + 1) q
    | none => grpN s (n + 1) q
theorem grpN_append : ∀ (a b : List (List R)) (n : Nat) (q : ByteArray), grpN (a ++ b) n q = grpN a n q ++ grpN b (n + a.length) q
  | [], b, n, q => rfl
  | l :: a, b, n, q => by
    have ih := grpN_append a b (n + 1) q
    simp only [List.cons_append, grpN]
    rw [ih]
    have e : n + 1 + a.length = n + (l :: a).length := by simp only [List.length_cons]; omega
    rw [e]
    cases recAt l q <;> rfl
theorem grpN_num : ∀ (s : List (List R)) (n : Nat) (q : ByteArray), ∀ p ∈ grpN s n q, n < p.2 ∧ p.2 ≤ n + s.length
  | [], _, _, _, h => by cases h
  | l :: s, n, q, p, h => by
    simp only [grpN] at h
    have ih := grpN_num s (n + 1) q
    simp only [List.length_cons]
    cases hr : recAt l q with
    | none =>
      rw [hr] at h
      have := ih p h
      omega
    | some r =>
      rw [hr] at h
      rcases List.mem_cons.1 h with rfl | h
      · dsimp only; omega
      · have := ih p h
        omega
theorem grpN_mem : ∀ (s : List (List R)) (n : Nat) (q : ByteArray), ∀ p ∈ grpN s n q, p.1.p = q ∧ ∃ h : p.2 - n - 1 < s.length, p.1 ∈ s[p.2 - n - 1]
  | [], _, _, _, h => by cases h
  | l :: s, n, q, p, h => by
    simp only [grpN] at h
    have ih := grpN_mem s (n + 1) q
    have tl : p ∈ grpN s (n + 1) q → p.1.p = q ∧ ∃ h : p.2 - n - 1 < (l :: s).length, p.1 ∈ (l :: s)[p.2 - n - 1] := fun h => by
      obtain ⟨h1, h2, h3⟩ := ih p h
      have h4 := grpN_num s (n + 1) q p h
      have e : p.2 - n - 1 = p.2 - (n + 1) - 1 + 1 := by omega
      refine ⟨h1, by rw [e]; simp only [List.length_cons]; omega, ?_⟩
      have e2 : (l :: s)[p.2 - n - 1]? = some s[p.2 - (n + 1) - 1] := by rw [e, List.getElem?_cons_succ, List.getElem?_eq_getElem h2]
      have e3 := (List.getElem?_eq_some_iff.1 e2).2
      rw [e3]
      exact h3
    cases hr : recAt l q with
    | none =>
      rw [hr] at h
      exact tl h
    | some r =>
      rw [hr] at h
      rcases List.mem_cons.1 h with rfl | h
      · obtain ⟨h1, h2⟩ := recAt_mem hr
        have e : n + 1 - n - 1 = 0 := by omega
        refine ⟨h2, by dsimp only; rw [e]; simp, ?_⟩
        dsimp only
        have e2 : (l :: s)[n + 1 - n - 1]? = some l := by rw [e]; rfl
        have e3 := (List.getElem?_eq_some_iff.1 e2).2
        rw [e3]
        exact h1
      · exact tl h
def grp (LL : List (List R)) (q : ByteArray) : List (R × Nat) := grpN LL 0 q
theorem grp_take {LL : List (List R)} {k : Nat} (h : k < LL.length) (q : ByteArray) : grp (LL.take (k + 1)) q = match recAt LL[k] q with | some r => grp (LL.take k) q ++ [(r, k + 1)] | none => grp (LL.take k) q := by
  unfold grp
  rw [List.take_succ_eq_append_getElem h, grpN_append, List.length_take, Nat.min_eq_left (by omega), Nat.zero_add]
  simp only [grpN]
  cases recAt LL[k] q
  · exact List.append_nil _
  · rfl
/-- Those of the layers from the one that cuts the path off upwards. -/
def consd (LL : List (List R)) (q : ByteArray) : List (R × Nat) := grpN (LL.drop (cutD LL q - 1)) (cutD LL q - 1) q
theorem consd_filter (LL : List (List R)) (q : ByteArray) : consd LL q = (grp LL q).filter fun p => decide (cutD LL q ≤ p.2) := by
  have hc := cut_le LL q
  unfold consd
  generalize cutD LL q = c at *
  have e : grp LL q = grpN (LL.take (c - 1)) 0 q ++ grpN (LL.drop (c - 1)) (c - 1) q := by
    have := grpN_append (LL.take (c - 1)) (LL.drop (c - 1)) 0 q
    rw [List.take_append_drop, List.length_take, Nat.min_eq_left (by omega), Nat.zero_add] at this
    exact this
  rw [e, List.filter_append]
  have h1 : (grpN (LL.take (c - 1)) 0 q).filter (fun p => decide (c ≤ p.2)) = [] := by
    rw [List.filter_eq_nil_iff]
    intro p hp
    have := grpN_num _ _ _ p hp
    rw [List.length_take] at this
    simp only [decide_eq_true_eq]
    omega
  have h2 : (grpN (LL.drop (c - 1)) (c - 1) q).filter (fun p => decide (c ≤ p.2)) = grpN (LL.drop (c - 1)) (c - 1) q := by
    rw [List.filter_eq_self]
    intro p hp
    have := grpN_num _ _ _ p hp
    simp only [decide_eq_true_eq]
    omega
  rw [h1, h2, List.nil_append]
/-- The last of them; a directory is opaque if one of them stops. -/
def overC (C : List (R × Nat)) : R × Nat := match C.getLast? with
  | none => (zR, 0)
  | some p => (if p.1.k = 3 ∧ C.any (fun x => stops x.1) = true then { p.1 with o := true } else p.1, p.2)
def winC (LL : List (List R)) (q : ByteArray) : R × Nat := overC (consd LL q)

/-- The program's way: from the lowest on. -/
def wst (cut : Nat) (st : (R × Nat) × Bool) (p : R × Nat) : (R × Nat) × Bool := if cut ≤ p.2 then (p, st.2 || stops p.1) else st
theorem wst_snoc (cut : Nat) (G : List (R × Nat)) (p : R × Nat) (st : (R × Nat) × Bool) : (G ++ [p]).foldl (wst cut) st = wst cut (G.foldl (wst cut) st) p := by rw [List.foldl_append]; rfl
theorem wst_all (cut : Nat) (G : List (R × Nat)) : G.foldl (wst cut) ((zR, 0), false) = (((G.filter fun p => decide (cut ≤ p.2)).getLast?).getD (zR, 0), (G.filter fun p => decide (cut ≤ p.2)).any fun x => stops x.1) := by
  rw [← List.reverse_reverse G]
  generalize G.reverse = H
  induction H with
  | nil => rfl
  | cons p H ih =>
    rw [List.reverse_cons, wst_snoc, ih, List.filter_append]
    unfold wst
    by_cases h : cut ≤ p.2
    · have e : [p].filter (fun p => decide (cut ≤ p.2)) = [p] := by simp [h]
      rw [if_pos h, e]
      simp
    · have e : [p].filter (fun p => decide (cut ≤ p.2)) = [] := by simp [h]
      rw [if_neg h, e, List.append_nil]
def placedL (r : R) (c : Bool) : R := if r.k = 3 ∧ c = true then { r with o := true } else r
theorem over_fold (cut : Nat) (G : List (R × Nat)) : (placedL (G.foldl (wst cut) ((zR, 0), false)).1.1 (G.foldl (wst cut) ((zR, 0), false)).2, (G.foldl (wst cut) ((zR, 0), false)).1.2) = overC (G.filter fun p => decide (cut ≤ p.2)) := by
  rw [wst_all]
  unfold overC placedL
  cases (G.filter fun p => decide (cut ≤ p.2)).getLast? with
  | none => simp [zR]
  | some p => rfl
theorem win_fold (LL : List (List R)) (q : ByteArray) : (placedL ((grp LL q).foldl (wst (cutD LL q)) ((zR, 0), false)).1.1 ((grp LL q).foldl (wst (cutD LL q)) ((zR, 0), false)).2, ((grp LL q).foldl (wst (cutD LL q)) ((zR, 0), false)).1.2) = winC LL q := by
  rw [over_fold, ← consd_filter]
  rfl

/-- The model's way: from the highest on. What has been looked at from layer i on. -/
def topG (LL : List (List R)) (q : ByteArray) (i : Nat) : List (R × Nat) := grpN (LL.drop i) i q
theorem top_end (LL : List (List R)) (q : ByteArray) : topG LL q LL.length = [] := by
  unfold topG
  rw [List.drop_eq_nil_of_le (Nat.le_refl _)]
  rfl
theorem top_step {LL : List (List R)} {i : Nat} (h : i < LL.length) (q : ByteArray) : topG LL q i = match recAt LL[i] q with | some r => (r, i + 1) :: topG LL q (i + 1) | none => topG LL q (i + 1) := by
  unfold topG
  rw [List.drop_eq_getElem_cons h]
  simp only [grpN]
theorem top_consd (LL : List (List R)) (q : ByteArray) : topG LL q (cutD LL q - 1) = consd LL q := rfl
theorem top_split {LL : List (List R)} {i j : Nat} (h : i ≤ j) (hj : j ≤ LL.length) (q : ByteArray) : ∃ P, topG LL q i = P ++ topG LL q j := by
  refine ⟨grpN ((LL.drop i).take (j - i)) i q, ?_⟩
  unfold topG
  have := grpN_append ((LL.drop i).take (j - i)) ((LL.drop i).drop (j - i)) i q
  rw [List.take_append_drop, List.drop_drop, List.length_take, List.length_drop, Nat.min_eq_left (by omega)] at this
  have e : i + (j - i) = j := by omega
  rw [e] at this
  exact this
/-- The last one of a list, or the zero record. -/
def lastG (C : List (R × Nat)) : R × Nat := C.getLast?.getD (zR, 0)
theorem last_cons (p : R × Nat) (C : List (R × Nat)) : lastG (p :: C) = if (lastG C).2 = 0 ∧ C = [] then p else lastG C := by
  unfold lastG
  cases C with
  | nil => simp
  | cons a t => simp
theorem over_quiet {C : List (R × Nat)} (h : C.any (fun x => stops x.1) = false) : overC C = lastG C := by
  unfold overC lastG
  cases C.getLast? with
  | none => rfl
  | some p => simp [h]
theorem over_stop {P C : List (R × Nat)} {x : R × Nat} (hs : stops x.1 = true) (ho : ∀ p ∈ x :: C, p.1.k ≠ 3 → p.1.o = false) : overC (P ++ x :: C) = ({ (lastG (x :: C)).1 with o := decide ((lastG (x :: C)).1.k = 3) }, (lastG (x :: C)).2) := by
  have hl : (P ++ x :: C).getLast? = (x :: C).getLast? := by rw [List.getLast?_append]; cases h : (x :: C).getLast? with | none => simp at h | some p => rfl
  have ha : (P ++ x :: C).any (fun x => stops x.1) = true := by rw [List.any_append, List.any_cons, hs]; simp
  unfold overC lastG
  rw [hl, ha]
  cases h : (x :: C).getLast? with
  | none => simp at h
  | some p =>
    have hm : p ∈ x :: C := List.mem_of_getLast? h
    by_cases hk : p.1.k = 3
    · simp [hk]
    · have := ho p hm hk
      simp [hk]
      cases hp : p.1
      rw [hp] at this
      simp at this
      simp [this]
theorem last_num {LL : List (List R)} {q : ByteArray} {i : Nat} : (topG LL q i = [] ∧ lastG (topG LL q i) = (zR, 0)) ∨ (topG LL q i ≠ [] ∧ i < (lastG (topG LL q i)).2 ∧ (lastG (topG LL q i)).2 ≤ i + (LL.drop i).length) := by
  cases h : topG LL q i with
  | nil => exact .inl ⟨rfl, rfl⟩
  | cons a t =>
    refine .inr ⟨by simp, ?_⟩
    have hm : lastG (topG LL q i) ∈ topG LL q i := by
      unfold lastG
      cases hg : (topG LL q i).getLast? with
      | none => rw [h] at hg; simp at hg
      | some p => exact List.mem_of_getLast? hg
    rw [← h]
    exact grpN_num _ _ _ _ hm

end Go.Proofs.YtibekkfbpmloiaaGreatDoor.Recs

/- All layers passed through at once, plain: the order of records by path and layer, the cursors, the groups of records of one path. -/
namespace Go.Proofs.YtibekkfbpmloiaaGreatDoor.Recs
set_option maxRecDepth 100000
open Go.RowKit Paths Heap

/-- The records of a stack, with the numbers of their layers. -/
def InAll (LL : List (List R)) (p : R × Nat) : Prop := ∃ l, 0 < p.2 ∧ LL[p.2 - 1]? = some l ∧ p.1 ∈ l

/-- The paths of all records, each once, in order. -/
def lessQ (a b : ByteArray) : Bool := lessP (cutAt 47 a.data.toList) (cutAt 47 b.data.toList)
def insP (q : ByteArray) : List ByteArray → List ByteArray
  | [] => [q]
  | a :: t => if a = q then a :: t else if lessQ q a then q :: a :: t else a :: insP q t
def pathsL (LL : List (List R)) : List ByteArray := LL.flatten.foldl (fun P r => insP r.p P) []
def Ups (P : List ByteArray) : Prop := P.Pairwise fun a b => lessQ a b = true
theorem lessQ_trans (a b c : ByteArray) (h : lessQ a b = true) (k : lessQ b c = true) : lessQ a c = true := lessP_trans _ _ _ h k
theorem lessQ_total {a b : ByteArray} (h : a ≠ b) : lessQ a b = true ∨ lessQ b a = true := by
  cases h1 : lessQ a b with
  | true => exact .inl rfl
  | false =>
    cases h2 : lessQ b a with
    | true => exact .inr rfl
    | false => exact absurd (bytes_cut (lessP_total _ _ h1 h2)) h
theorem insP_mem (q : ByteArray) : ∀ (P : List ByteArray) (x : ByteArray), x ∈ insP q P ↔ x = q ∨ x ∈ P
  | [], x => by simp [insP]
  | a :: t, x => by
    have ih := insP_mem q t x
    unfold insP
    split
    · rename_i h
      subst h
      simp
    · split
      · simp
      · simp only [List.mem_cons, ih]
        constructor
        · rintro (h | h | h)
          · exact .inr (.inl h)
          · exact .inl h
          · exact .inr (.inr h)
        · rintro (h | h | h)
          · exact .inr (.inl h)
          · exact .inl h
          · exact .inr (.inr h)
theorem insP_ups (q : ByteArray) : ∀ (P : List ByteArray), Ups P → Ups (insP q P)
  | [], _ => List.pairwise_singleton _ _
  | a :: t, h => by
    obtain ⟨h1, h2⟩ := List.pairwise_cons.1 h
    unfold insP
    split
    · exact h
    · rename_i hne
      split
      · rename_i hl
        refine List.pairwise_cons.2 ⟨fun b hb => ?_, h⟩
        rcases List.mem_cons.1 hb with rfl | hb
        · exact hl
        · exact lessQ_trans _ _ _ hl (h1 b hb)
      · rename_i hl
        have hl2 : lessQ a q = true := by
          rcases lessQ_total (a := a) (b := q) hne with h | h
          · exact h
          · exact absurd h hl
        refine List.pairwise_cons.2 ⟨fun b hb => ?_, insP_ups q t h2⟩
        rcases (insP_mem q t b).1 hb with rfl | hb
        · exact hl2
        · exact h1 b hb
theorem fold_ins (l : List R) : ∀ P, Ups P → Ups (l.foldl (fun P r => insP r.p P) P) ∧ ∀ x, x ∈ l.foldl (fun P r => insP r.p P) P ↔ x ∈ P ∨ ∃ r ∈ l, r.p = x := by
  induction l with
  | nil => exact fun P h => ⟨h, fun x => by simp⟩
  | cons a t ih =>
    intro P h
    obtain ⟨h1, h2⟩ := ih (insP a.p P) (insP_ups _ _ h)
    refine ⟨h1, fun x => ?_⟩
    show x ∈ t.foldl _ (insP a.p P) ↔ _
    rw [h2 x, insP_mem]
    simp only [List.mem_cons]
    constructor
    · rintro ((h | h) | ⟨r, hr, e⟩)
      · exact .inr ⟨a, .inl rfl, h.symm⟩
      · exact .inl h
      · exact .inr ⟨r, .inr hr, e⟩
    · rintro (h | ⟨r, hr | hr, e⟩)
      · exact .inl (.inr h)
      · rw [hr] at e; exact .inl (.inl e.symm)
      · exact .inr ⟨r, hr, e⟩
theorem pathsL_mem (LL : List (List R)) (q : ByteArray) : q ∈ pathsL LL ↔ ∃ l ∈ LL, ∃ r ∈ l, r.p = q := by
  unfold pathsL
  rw [(fold_ins _ [] List.Pairwise.nil).2 q]
  constructor
  · rintro (h | ⟨r, hr, e⟩)
    · cases h
    · obtain ⟨l, hl, hrl⟩ := List.mem_flatten.1 hr
      exact ⟨l, hl, r, hrl, e⟩
  · rintro ⟨l, hl, r, hr, e⟩
    exact .inr ⟨r, List.mem_flatten.2 ⟨l, hl, hr⟩, e⟩
theorem grpN_all : ∀ (s : List (List R)) (n : Nat) (q : ByteArray), (∀ l ∈ s, Sorted l) → ∀ p, p ∈ grpN s n q ↔ p.1.p = q ∧ n < p.2 ∧ ∃ l, s[p.2 - n - 1]? = some l ∧ p.1 ∈ l
  | [], n, q, _, p => by simp [grpN]
  | l :: s, n, q, hs, p => by
    have ih := grpN_all s (n + 1) q (fun a ha => hs a (List.mem_cons_of_mem _ ha)) p
    have hsl := hs l (List.mem_cons_self ..)
    have tl : (p.1.p = q ∧ n + 1 < p.2 ∧ ∃ l', s[p.2 - (n + 1) - 1]? = some l' ∧ p.1 ∈ l') ↔ (p.1.p = q ∧ n + 1 < p.2 ∧ ∃ l', (l :: s)[p.2 - n - 1]? = some l' ∧ p.1 ∈ l') := by
      constructor
      · rintro ⟨h1, h2, h3⟩
        have e : p.2 - n - 1 = p.2 - (n + 1) - 1 + 1 := by omega
        rw [e, List.getElem?_cons_succ]
        exact ⟨h1, h2, h3⟩
      · rintro ⟨h1, h2, h3⟩
        have e : p.2 - n - 1 = p.2 - (n + 1) - 1 + 1 := by omega
        rw [e, List.getElem?_cons_succ] at h3
        exact ⟨h1, h2, h3⟩
    have hd : p.2 = n + 1 → ((l :: s)[p.2 - n - 1]? = some l) := fun e => by
      have : p.2 - n - 1 = 0 := by omega
      rw [this]
      rfl
    simp only [grpN]
    cases hr : recAt l q with
    | none =>
      dsimp only
      rw [ih, tl]
      constructor
      · rintro ⟨h1, h2, h3⟩
        exact ⟨h1, by omega, h3⟩
      · rintro ⟨h1, h2, l', h3, h4⟩
        rcases Nat.lt_or_ge (n + 1) p.2 with h5 | h5
        · exact ⟨h1, h5, l', h3, h4⟩
        · have e : p.2 = n + 1 := by omega
          rw [hd e] at h3
          cases h3
          exact absurd h1 (recAt_none hr _ h4)
    | some r =>
      dsimp only
      obtain ⟨hm, hrp⟩ := recAt_mem hr
      rw [List.mem_cons, ih, tl]
      constructor
      · rintro (rfl | ⟨h1, h2, h3⟩)
        · exact ⟨hrp, Nat.lt_succ_self _, l, hd rfl, hm⟩
        · exact ⟨h1, by omega, h3⟩
      · rintro ⟨h1, h2, l', h3, h4⟩
        rcases Nat.lt_or_ge (n + 1) p.2 with h5 | h5
        · exact .inr ⟨h1, h5, l', h3, h4⟩
        · have e : p.2 = n + 1 := by omega
          rw [hd e] at h3
          cases h3
          have := sorted_mem_once hsl h4 hm (h1.trans hrp.symm)
          exact .inl (Prod.ext this e)
theorem grp_all {LL : List (List R)} (hs : ∀ l ∈ LL, Sorted l) (q : ByteArray) (p : R × Nat) : p ∈ grp LL q ↔ p.1.p = q ∧ InAll LL p := by
  unfold grp InAll
  rw [grpN_all LL 0 q hs p]
  constructor
  · rintro ⟨h1, h2, l, h3, h4⟩
    exact ⟨h1, l, h2, h3, h4⟩
  · rintro ⟨h1, l, h2, h3, h4⟩
    exact ⟨h1, h2, l, h3, h4⟩
end Go.Proofs.YtibekkfbpmloiaaGreatDoor.Recs

/- What is seen at all paths of a stack, plain: its canonical form is the combination of the stack; combining parts of a stack first. -/
namespace Go.Proofs.YtibekkfbpmloiaaGreatDoor.Recs
set_option maxRecDepth 100000
open Go.RowKit Paths

def wins (LL : List (List R)) : List (R × Nat) := ((pathsL LL).map (winC LL)).filter fun p => decide (0 < p.2)
def winL (LL : List (List R)) : List R := (wins LL).map Prod.fst
theorem last_mem {C : List (R × Nat)} (h : 0 < (overC C).2) : ∃ p ∈ C, (overC C).2 = p.2 ∧ ((overC C).1 = p.1 ∨ p.1.k = 3 ∧ (overC C).1 = { p.1 with o := true }) := by
  unfold overC at h ⊢
  cases hl : C.getLast? with
  | none => rw [hl] at h; simp at h
  | some p =>
    refine ⟨p, List.mem_of_getLast? hl, rfl, ?_⟩
    dsimp only
    split
    · rename_i hh; exact .inr ⟨hh.1, rfl⟩
    · exact .inl rfl
theorem win_rec {LL : List (List R)} {q : ByteArray} (h : 0 < (winC LL q).2) : (winC LL q).1.p = q ∧ cutD LL q ≤ (winC LL q).2 ∧ ∃ y, (y, (winC LL q).2) ∈ consd LL q ∧ ((winC LL q).1 = y ∨ y.k = 3 ∧ (winC LL q).1 = { y with o := true }) := by
  obtain ⟨p, hp, h2, h3⟩ := last_mem (C := consd LL q) h
  have hpq := (grpN_mem _ _ _ p hp).1
  have hcut : cutD LL q ≤ p.2 := by
    rw [consd_filter] at hp
    simpa using (List.mem_filter.1 hp).2
  refine ⟨?_, ?_, p.1, ?_, h3⟩
  · show (overC (consd LL q)).1.p = q
    rcases h3 with h3 | ⟨_, h3⟩ <;> rw [h3] <;> exact hpq
  · show cutD LL q ≤ (overC (consd LL q)).2
    rw [h2]; exact hcut
  · show (p.1, (overC (consd LL q)).2) ∈ _
    rw [h2]; exact hp
theorem consd_all {LL : List (List R)} (hs : ∀ l ∈ LL, Sorted l) {q : ByteArray} {p : R × Nat} (h : p ∈ consd LL q) : p.1.p = q ∧ InAll LL p := by
  rw [consd_filter] at h
  exact (grp_all hs q p).1 (List.mem_filter.1 h).1
theorem opaque_fault {y : R} (h : y.fault = 0) (hk : y.k = 3) : ({ y with o := true } : R).fault = 0 := by
  have e : overO [{ y with k := 1 }] y = { y with o := true } := by
    unfold overO
    rw [recAt_cons_eq rfl]
    show overR _ y = _
    unfold overR
    rw [if_pos ⟨hk, by simp [stops]⟩]
  rw [← e]
  exact over_fault h
theorem wins_mem {LL : List (List R)} {p : R × Nat} : p ∈ wins LL ↔ ∃ q ∈ pathsL LL, winC LL q = p ∧ 0 < p.2 := by
  unfold wins
  rw [List.mem_filter, List.mem_map]
  constructor
  · rintro ⟨⟨q, hq, rfl⟩, h⟩
    exact ⟨q, hq, rfl, by simpa using h⟩
  · rintro ⟨q, hq, rfl, h⟩
    exact ⟨⟨q, hq, rfl⟩, by simpa using h⟩
theorem winL_fault {LL : List (List R)} (hs : ∀ l ∈ LL, Fine l) : ∀ r ∈ winL LL, r.fault = 0 := by
  intro r hr
  obtain ⟨p, hp, rfl⟩ := List.mem_map.1 hr
  obtain ⟨q, hq, rfl, h0⟩ := wins_mem.1 hp
  obtain ⟨_, _, y, hy, h3⟩ := win_rec h0
  obtain ⟨_, l, _, hl, hm⟩ := consd_all (fun l hl => (hs l hl).layer.sorted) hy
  have hf := (hs l (List.mem_of_getElem? hl)).fine y hm
  rcases h3 with h3 | ⟨hk, h3⟩ <;> rw [h3]
  · exact hf
  · exact opaque_fault hf hk
end Go.Proofs.YtibekkfbpmloiaaGreatDoor.Recs

/- Trees as plain lists of nodes (records of which Opaque is false): the model's check, record by record, and what it says at once. -/
namespace Go.Proofs.YtibekkfbpmloiaaGreatDoor.Recs
open Go.RowKit Paths

/-- What a tree is. -/
structure Tree (t : List R) : Prop where
  len : t.length ≤ 24
  kind : ∀ r ∈ t, r.k ≠ 4
  fault : ∀ r ∈ t, r.fault = 0
  sorted : Sorted t
  housed : Housed t
theorem Tree.is {t : List R} (h : Tree t) : IsTree t := ⟨h.sorted, h.housed, fun x hx => (fault_path (h.fault x hx)).1⟩
end Go.Proofs.YtibekkfbpmloiaaGreatDoor.Recs

/- What is above a path, by its parts: the paths of which the parts are the first parts of it. -/
namespace Go.Proofs.YtibekkfbpmloiaaGreatDoor.Recs
open Go.RowKit Paths

theorem up_below {p : ByteArray} (h : pathB p.data.toList = true) (q : ByteArray) : q ∈ ups p ↔ belowP (cutAt 47 p.data.toList) (cutAt 47 q.data.toList) = true := by
  have hq : 0 < (cutAt 47 q.data.toList).length := by
    rcases Nat.eq_zero_or_pos (cutAt 47 q.data.toList).length with h0 | h0
    · exact absurd (List.eq_nil_of_length_eq_zero h0) (cutAt_ne 47 _)
    · exact h0
  refine path_ind (P := fun p => q ∈ ups p ↔ belowP (cutAt 47 p.data.toList) (cutAt 47 q.data.toList) = true) ?_ ?_ p h
  · intro p hp hn
    rw [ups_step hp, if_pos hn]
    rcases parent_cases hp with ⟨_, h2, _⟩ | ⟨_, _, h3, _⟩
    · rw [h2]
      unfold belowP
      constructor
      · intro hm; cases hm
      · intro hm
        simp only [Bool.and_eq_true, decide_eq_true_eq, List.length_singleton] at hm
        omega
    · exact absurd hn h3
  · intro p hp hn h1 ih
    rw [ups_step hp, if_neg hn]
    rcases parent_cases hp with ⟨h2, _⟩ | ⟨_, h2, _, _, _⟩
    · exact absurd h2 hn
    · have e := cut_parent p.data.toList
      rw [← h2] at e
      have ih' := ih
      rw [parO_data] at ih'
      generalize hA : cutAt 47 (parentL p.data.toList) = A at e ih'
      generalize hB : cutAt 47 q.data.toList = B at ih' hq ⊢
      rw [e]
      rw [List.mem_cons, ih']
      unfold belowP
      simp only [Bool.and_eq_true, decide_eq_true_eq, beq_iff_eq, List.length_append, List.length_singleton]
      constructor
      · rintro (rfl | ⟨h3, h4⟩)
        · rw [parO_data, hA] at hB
          subst hB
          exact ⟨by omega, by simp⟩
        · refine ⟨by omega, ?_⟩
          rw [List.take_append_of_le_length (by omega)]
          exact h4
      · rintro ⟨h3, h4⟩
        rcases Nat.lt_or_ge B.length A.length with h5 | h5
        · rw [List.take_append_of_le_length (by omega)] at h4
          exact .inr ⟨h5, h4⟩
        · left
          have h6 : B.length = A.length := by omega
          rw [h6, List.take_left'  rfl] at h4
          apply bytes_cut
          rw [parO_data, hA, hB, h4]
/-- The same by the strings' own function. -/
theorem isUp_below {p q : ByteArray} (h : pathB p.data.toList = true) : isUp q p = belowL p.data.toList q.data.toList := by
  rw [Bool.eq_iff_iff, isUp_iff, up_below h, below_cut]
end Go.Proofs.YtibekkfbpmloiaaGreatDoor.Recs

/- Resolving a path in a tree, part by part, and what comes out at once. -/
namespace Go.Proofs.YtibekkfbpmloiaaGreatDoor.Recs
open Go.RowKit Paths

/-- The first i + 1 parts of a path. -/
def pre (q : ByteArray) (i : Nat) : ByteArray := ⟨(Lib.join ((cutAt 47 q.data.toList).take (i + 1)) [47]).toArray⟩
def nparts (q : ByteArray) : Nat := (cutAt 47 q.data.toList).length
theorem pre_data (q : ByteArray) (i : Nat) : (pre q i).data.toList = Lib.join ((cutAt 47 q.data.toList).take (i + 1)) [47] := rfl
theorem nparts_pos (q : ByteArray) : 0 < nparts q := cutAt_pos 47 _
theorem pre_cut {q : ByteArray} (h : pathB q.data.toList = true) (i : Nat) : cutAt 47 (pre q i).data.toList = (cutAt 47 q.data.toList).take (i + 1) := by
  rw [pre_data]
  refine clean_of_all ?_ ?_
  · have := (pathB_parts h).2
    rw [List.all_eq_true] at this ⊢
    exact fun x hx => this x (List.mem_of_mem_take hx)
  · intro e
    have h1 := congrArg List.length e
    have h2 := nparts_pos q
    unfold nparts at h2
    rw [List.length_take, List.length_nil] at h1
    omega
theorem pre_path {q : ByteArray} (h : pathB q.data.toList = true) (i : Nat) : pathB (pre q i).data.toList = true := by
  unfold pathB
  rw [pre_cut h]
  obtain ⟨h1, h2⟩ := pathB_parts h
  simp only [Bool.and_eq_true, decide_eq_true_eq]
  refine ⟨by rw [List.length_take]; omega, ?_⟩
  rw [List.all_eq_true] at h2 ⊢
  exact fun x hx => h2 x (List.mem_of_mem_take hx)
theorem pre_last {q : ByteArray} (i : Nat) (hi : nparts q ≤ i + 1) : pre q i = q := by
  apply ByteArray.ext
  apply Array.toList_inj.1
  rw [pre_data, List.take_of_length_le hi, join_cut]
end Go.Proofs.YtibekkfbpmloiaaGreatDoor.Recs

/- Trees with what is directly below each node, plain. -/
namespace Go.Proofs.YtibekkfbpmloiaaGreatDoor.Recs
open Go.RowKit Paths

theorem bytes_ext {a b : ByteArray} (h : a.data.toList = b.data.toList) : a = b := ByteArray.ext (Array.toList_inj.1 h)
end Go.Proofs.YtibekkfbpmloiaaGreatDoor.Recs

/- Trees, plain: all that is below a path, by what is directly below it; what putting a node in and taking one out do to what is directly below. -/
namespace Go.Proofs.YtibekkfbpmloiaaGreatDoor.Recs
open Go.RowKit Paths

/-- How deep a path lies. -/
def deep (p : ByteArray) : Nat := if p = ByteArray.empty then 0 else nparts p
end Go.Proofs.YtibekkfbpmloiaaGreatDoor.Recs

/- Paths: ParentOf and JoinPath, of the program and of its model. -/
namespace Go.Proofs.YtibekkfbpmloiaaGreatDoor.Paths
open Go.RowKit

/-- strings.Join with a stroke between, at a slice that reads as L. -/
theorem join_any (v : Value) (L : List (List UInt8)) (w : World) (h : Strs w v L) (hl : (Lib.join L [47]).length ≤ 140737488355328) (hL : L.length ≤ 140737488355328) :
    Calls Tryz.prog 102 #[v, .string ⟨#[47]⟩] w fun e w' => e = .returned (strV (Lib.join L [47])) ∧ Below w.heap.size w w' := by
  obtain ⟨A, cap, rfl, hcap, h⟩ := h
  cases L with
  | nil =>
    refine (Tryz.strings_Join_none A cap _ w).mono ?_
    rintro e w' ⟨rfl, rfl⟩
    exact ⟨rfl, Below.refl _ _⟩
  | cons p r =>
    obtain ⟨b, off, rfl, hb, hc⟩ := h (by simp)
    have hm : ((p :: r).map fun l => (⟨l.toArray⟩ : ByteArray)).map (·.data.toList) = p :: r := by simp [Function.comp_def]
    have := Tryz.strings_Join b off cap ((p :: r).map fun l => (⟨l.toArray⟩ : ByteArray)) ⟨#[47]⟩ w (fun j x hx => by
      simp only [List.getElem?_map, Option.map_eq_some_iff] at hx
      obtain ⟨l, hl, rfl⟩ := hx
      exact hc j l hl) hb (by simpa using hL) (by simpa using hcap) (by rw [hm]; exact hl)
    rw [hm, List.length_map] at this
    exact this

theorem Strs.take {w : World} {A : Option Addr} {cap : Nat} {L : List (List UInt8)} {k : Nat} (h : Strs w (.slice A L.length cap) L) (hk : k ≤ L.length) : Strs w (.slice A k cap) (L.take k) := by
  obtain ⟨A', cap', e, hc, h⟩ := h
  cases e
  refine ⟨A, cap, by rw [List.length_take, Nat.min_eq_left hk], by rw [List.length_take]; omega, fun hn => ?_⟩
  rw [List.length_take] at hn
  obtain ⟨b, off, e, hb, hcell⟩ := h (by omega)
  refine ⟨b, off, e, hb, fun j p hj => hcell j p ?_⟩
  rw [List.getElem?_take] at hj
  split at hj
  · exact hj
  · cases hj

def parS (s : ByteArray) : List UInt8 := if pathB s.data.toList then parentL s.data.toList else []
theorem parS_yes {s : ByteArray} (h : pathB s.data.toList = true) : parS s = Lib.join (cutAt 47 s.data.toList).dropLast [47] := by unfold parS; rw [h]; rfl
theorem parS_no {s : ByteArray} (h : pathB s.data.toList = false) : parS s = [] := by unfold parS; rw [h]; rfl
theorem askC_zero {s : ByteArray} (h : askC s = 0) : s.size ≤ 65536 ∧ pathB s.data.toList = true := by
  unfold askC at h
  split at h
  · cases h
  · split at h
    · exact ⟨by omega, ‹_›⟩
    · cases h
theorem askC_bad {s : ByteArray} (h : askC s ≠ 0) : pathB s.data.toList = false := by
  unfold askC at h
  split at h
  · exact pathB_long (by omega)
  · split at h
    · exact absurd rfl h
    · rename_i h2; simpa using h2
theorem join_dropLast_len (l : List UInt8) : (Lib.join (cutAt 47 l).dropLast [47]).length ≤ l.length := by
  have h := cutAt_ne 47 l
  conv => rhs; rw [← join_cut l]
  rw [← List.dropLast_concat_getLast h, List.dropLast_concat]
  by_cases hd : (cutAt 47 l).dropLast = []
  · rw [hd]; simp [Lib.join_nil]
  · rw [join_snoc _ hd]; simp

set_option maxHeartbeats 400000 in
theorem parentOf_impl (s : ByteArray) (w : World) (hs : s.size ≤ maxLen) : Calls Tryz.prog 119 #[.string s] w fun e w' => e = .returned (.tuple #[strV (parS s), .int .i64 (askC s)]) ∧ Below w.heap.size w w' := by
  go_enter Tryz.func119, Tryz.ntmps119
  go_wp2_with fail
  refine (partsOf_impl _ _ hs).mono ?_
  rintro e w1 ⟨v, rfl, hb1, ho1⟩
  by_cases h0 : askC s = 0
  · have hB := askC_zero h0
    have HP := Lib.hid (parS_yes hB.2)
    have H0 := Lib.hid h0
    rw [partsOf_yes hB.2] at ho1
    have hpos := cutAt_pos 47 s.data.toList
    have hlen := (pathB_parts hB.2).1
    have hjl := join_dropLast_len s.data.toList
    rw [← Lib.size_eq] at hjl
    generalize hL : cutAt 47 s.data.toList = L at *
    have HL := Lib.hid hL
    clear hL
    obtain ⟨g, cap, rfl, hcap, hg0, hg1, hcell⟩ := own_slice ho1 (by omega)
    have hst := (Strs.own ho1).take (k := L.length - 1) (by omega)
    rw [← List.dropLast_eq_take] at hst
    have HS := Lib.hid hst
    clear hcell hst
    have hc1 : (1 : Int) ≤ (L.length : Int) := by omega
    rw [h0]
    clear h0
    go_wp2_with fail
    refine (join_any _ _ _ HS.out (by omega) (by rw [List.length_dropLast]; omega)).mono ?_
    rintro e w2 ⟨rfl, hb2⟩
    go_wp2_with fail
    go_ret2
    exact ⟨by rw [HP.out, H0.out]; rfl, hb1.trans (hb2.mono hb1.size)⟩
  · have HP := Lib.hid (parS_no (askC_bad h0))
    have hne : (askC s != 0) = true := by simpa using h0
    clear h0
    go_wp2_with fail
    go_ret2
    exact ⟨by rw [HP.out]; rfl, hb1⟩

set_option maxHeartbeats 400000 in
theorem l01Parent_any (s : ByteArray) (w : World) (hs : s.size ≤ maxLen) : Calls Tryz.prog 54 #[.string s] w fun e w' => e = .returned (strV (parentL s.data.toList)) ∧ w = w' := by
  unfold maxLen at hs
  go_enter Tryz.func54, Tryz.ntmps54
  go_wp2
  go_loop [3] (fun i => ∃ k : Nat, k ≤ s.size ∧ i = .int .i64 ((k : Int) - 1) ∧ Hid (Clear s.data.toList k)) (fun i => (intOf i + 1).toNat)
  case atStart => exact ⟨s.size, by omega, rfl, Clear.start s⟩
  case round =>
    obtain ⟨k, hk, rfl, HC⟩ := hrel
    cases k with
    | zero =>
      have HN := Lib.hid (Clear.none HC.out)
      go_wp2
      go_ret
      exact ⟨by rw [HN.out]; rfl, rfl⟩
    | succ k =>
      have e1 : (((k + 1 : Nat) : Int) - 1) = (k : Int) := by omega
      rw [e1]
      clear e1
      have hlt : k < s.size := by omega
      rcases Bool.eq_false_or_eq_true ((s[k].toNat : Int) == 47) with he | he
      · have HE : Hid (parentL s.data.toList = s.data.toList.take k) := HC.out.hit hlt (by simp at he; exact UInt8.toNat_inj.1 (by show _ = 47; omega))
        go_wp2
        go_ret
        exact ⟨by rw [HE.out, ← strV_take]; rfl, rfl⟩
      · have HD := Lib.hid (HC.out.down hlt (fun e => by rw [e] at he; exact absurd he (by decide)))
        go_wp2
        exact ⟨⟨k, by omega, rfl, HD⟩, by simp [intOf]⟩

end Go.Proofs.YtibekkfbpmloiaaGreatDoor.Paths
