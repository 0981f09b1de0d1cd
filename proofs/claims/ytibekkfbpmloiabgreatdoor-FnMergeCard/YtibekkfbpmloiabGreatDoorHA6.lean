/- Parts of several texts of mine in one file (each begins with its own remark). -/
import Derived.Test.YtibekkfbpmloiabGreatDoorHA1
import Derived.Test.YtibekkfbpmloiabGreatDoorHA2
import Derived.Test.YtibekkfbpmloiabGreatDoorHA3
import Derived.Test.YtibekkfbpmloiabGreatDoorHA4
import Derived.Test.YtibekkfbpmloiabGreatDoorHA5
import Derived.Test.YtibekkfbpmloiabGreatDoorChecked
import Derived.Deep.Slices
import Derived.OpenShut
import Derived.ShutString
import Derived.ChangeArms
import Derived.WideShapes
import Derived.Lib.LaidTab
import Derived.BigQuiet
import Derived.Deep.QuietTactic
import Derived.Deep.RegionHeld3
import Derived.StillTailTactics
import Derived.Deep.Draws
import Derived.Deep.LoopGhost
import Derived.WalkKit
import Derived.WalkSpells
import Derived.WalkSmall
import Derived.Lib.OthersKept
import Derived.Lib.Hide
import Derived.Lib.Strings
import Derived.Lib.Join
import Derived.BigRegion
import Derived.Laws.BytesArg
import Derived.Laws.OwnMore
/- A heap as a list, plain: sinking, building it up, replacing and taking away its first one. -/
namespace Go.Proofs.YtibekkfbpmloiabGreatDoor.Heap
set_option maxRecDepth 100000

/-- The place above another one. -/
def par (c : Nat) : Nat := (c - 1) / 2
section
variable {α : Type} (lt : α → α → Bool)
/-- Which of a place and the two below it is first. -/
def pick (h : List α) (a c : Nat) : Nat := match h[c]?, h[a]? with
  | some x, some y => if lt x y then c else a
  | _, _ => a
def least (h : List α) (i : Nat) : Nat := pick lt h (pick lt h i (2 * i + 1)) (2 * i + 2)
def swapL (h : List α) (i j : Nat) : List α := match h[i]?, h[j]? with
  | some x, some y => (h.set i y).set j x
  | _, _ => h
def sinkF : Nat → List α → Nat → List α
  | 0, h, _ => h
  | f + 1, h, i => if least lt h i = i then h else sinkF f (swapL h i (least lt h i)) (least lt h i)
def sinkL (h : List α) (i : Nat) : List α := sinkF lt h.length h i

theorem pick_cases (h : List α) (a c : Nat) : (pick lt h a c = c ∧ ∃ x y, h[c]? = some x ∧ h[a]? = some y ∧ lt x y = true) ∨ (pick lt h a c = a ∧ ∀ x y, h[c]? = some x → h[a]? = some y → lt x y = false) := by
  unfold pick
  cases hc : h[c]? with
  | none => exact .inr ⟨rfl, fun x y e => by cases e⟩
  | some x =>
    cases ha : h[a]? with
    | none => exact .inr ⟨rfl, fun x y _ e => by cases e⟩
    | some y =>
      cases hl : lt x y with
      | true => exact .inl ⟨by simp [hl], x, y, rfl, rfl, hl⟩
      | false => exact .inr ⟨by simp [hl], fun x' y' e e' => by cases e; cases e'; exact hl⟩
theorem swap_len (h : List α) (i j : Nat) : (swapL h i j).length = h.length := by
  unfold swapL
  split
  · simp
  · rfl
theorem swap_get {h : List α} {i j : Nat} {x y : α} (hi : h[i]? = some x) (hj : h[j]? = some y) (hij : i ≠ j) (c : Nat) : (swapL h i j)[c]? = if c = i then some y else if c = j then some x else h[c]? := by
  have hil := (List.getElem?_eq_some_iff.1 hi).1
  have hjl := (List.getElem?_eq_some_iff.1 hj).1
  unfold swapL
  rw [hi, hj]
  show ((h.set i y).set j x)[c]? = _
  by_cases hci : c = i
  · subst hci
    rw [if_pos rfl, List.getElem?_set_ne (by omega), List.getElem?_set_self hil]
  · rw [if_neg hci]
    by_cases hcj : c = j
    · subst hcj
      rw [if_pos rfl, List.getElem?_set_self (by simpa using hjl)]
    · rw [if_neg hcj, List.getElem?_set_ne (by omega), List.getElem?_set_ne (by omega)]
theorem swap_perm {h : List α} {i j : Nat} {x y : α} (hi : h[i]? = some x) (hj : h[j]? = some y) (hij : i < j) : (swapL h i j).Perm h := by
  have hil := (List.getElem?_eq_some_iff.1 hi).1
  obtain ⟨hjl, hjx⟩ := List.getElem?_eq_some_iff.1 hj
  have e1 : h = h.take i ++ x :: h.drop (i + 1) := by
    have := (List.getElem?_eq_some_iff.1 hi).2
    rw [← this]
    simp
  have ej : (h.drop (i + 1))[j - i - 1]? = some y := by rw [List.getElem?_drop, ← hj]; congr 1; omega
  have e2 : h.drop (i + 1) = (h.drop (i + 1)).take (j - i - 1) ++ y :: (h.drop (i + 1)).drop (j - i - 1 + 1) := by
    obtain ⟨hlt, hv⟩ := List.getElem?_eq_some_iff.1 ej
    have h1 := List.drop_eq_getElem_cons hlt
    rw [hv] at h1
    rw [← h1, List.take_append_drop]
  generalize hA : h.take i = A at e1
  generalize hB : (h.drop (i + 1)).take (j - i - 1) = B at e2
  generalize hC : (h.drop (i + 1)).drop (j - i - 1 + 1) = C at e2
  have hAl : A.length = i := by rw [← hA, List.length_take]; omega
  have hBl : B.length = j - i - 1 := by rw [← hB, List.length_take, List.length_drop]; omega
  have e3 : h = A ++ x :: (B ++ y :: C) := by rw [e1, e2]
  have e4 : swapL h i j = A ++ y :: (B ++ x :: C) := by
    apply List.ext_getElem?
    intro c
    rw [swap_get hi hj (by omega)]
    rcases Nat.lt_trichotomy c i with h1 | h1 | h1
    · rw [if_neg (by omega), if_neg (by omega), e3, List.getElem?_append_left (by omega), List.getElem?_append_left (by omega)]
    · subst h1
      rw [if_pos rfl, List.getElem?_append_right (by omega), hAl, Nat.sub_self]
      rfl
    · rw [if_neg (by omega)]
      have ec : c - A.length = (c - i - 1) + 1 := by omega
      rw [List.getElem?_append_right (by omega), ec, List.getElem?_cons_succ]
      rcases Nat.lt_trichotomy c j with h2 | h2 | h2
      · rw [if_neg (by omega), e3, List.getElem?_append_right (by omega), ec, List.getElem?_cons_succ, List.getElem?_append_left (by omega), List.getElem?_append_left (by omega)]
      · subst h2
        rw [if_pos rfl, List.getElem?_append_right (by omega), hBl, Nat.sub_self]
        rfl
      · have ed : c - i - 1 - B.length = (c - j - 1) + 1 := by omega
        rw [if_neg (by omega), e3, List.getElem?_append_right (by omega), ec, List.getElem?_cons_succ, List.getElem?_append_right (by omega), ed, List.getElem?_append_right (by omega), ed, List.getElem?_cons_succ, List.getElem?_cons_succ]
  rw [e4]
  conv => rhs; rw [e3]
  refine List.Perm.append_left A ?_
  have p1 : (y :: (B ++ x :: C)).Perm (y :: x :: (B ++ C)) := List.Perm.cons y List.perm_middle
  have p2 : (x :: (B ++ y :: C)).Perm (x :: y :: (B ++ C)) := List.Perm.cons x List.perm_middle
  exact p1.trans ((List.Perm.swap x y _).trans p2.symm)

/-- From place s on no one is before the one above it. -/
def Heap (s : Nat) (h : List α) : Prop := ∀ c x y, 0 < c → s ≤ par c → h[c]? = some x → h[par c]? = some y → lt x y = false
/-- The same but at one place. -/
def HeapX (s : Nat) (h : List α) (i : Nat) : Prop := (∀ c x y, 0 < c → s ≤ par c → par c ≠ i → h[c]? = some x → h[par c]? = some y → lt x y = false) ∧
  (0 < i → s ≤ par i → ∀ c x y, 0 < c → par c = i → h[c]? = some x → h[par i]? = some y → lt x y = false)
variable (has : ∀ a b, lt a b = true → lt b a = false) (hnt : ∀ a b c, lt a c = true → lt a b = true ∨ lt b c = true)
theorem par_of (i : Nat) : par (2 * i + 1) = i ∧ par (2 * i + 2) = i := by unfold par; omega
theorem par_child {c i : Nat} (h : par c = i) (hc : 0 < c) : c = 2 * i + 1 ∨ c = 2 * i + 2 := by unfold par at h; omega
theorem par_lt {c : Nat} (h : 0 < c) : par c < c := by unfold par; omega
include has hnt in
theorem least_spec (h : List α) (i : Nat) : (least lt h i = i ∧ ∀ c x y, 0 < c → par c = i → h[c]? = some x → h[i]? = some y → lt x y = false) ∨
    (∃ x y, (least lt h i = 2 * i + 1 ∨ least lt h i = 2 * i + 2) ∧ h[least lt h i]? = some x ∧ h[i]? = some y ∧ lt x y = true ∧ ∀ c z, 0 < c → par c = i → h[c]? = some z → lt z x = false) := by
  unfold least
  have irr : ∀ a, lt a a = false := fun a => by
    cases h : lt a a with
    | false => rfl
    | true => exact absurd h (by rw [has a a h]; decide)
  rcases pick_cases lt h i (2 * i + 1) with ⟨e1, x, y, hx, hy, hl⟩ | ⟨e1, h1⟩
  · rw [e1]
    rcases pick_cases lt h (2 * i + 1) (2 * i + 2) with ⟨e2, x2, y2, hx2, hy2, hl2⟩ | ⟨e2, h2⟩
    · rw [e2]
      rw [hx] at hy2
      cases hy2
      have l3 : lt x2 y = true := by
        rcases hnt x2 y x hl2 with h | h
        · exact h
        · exact absurd h (by rw [has _ _ hl]; decide)
      refine .inr ⟨x2, y, .inr rfl, hx2, hy, l3, fun c z hc hp hz => ?_⟩
      rcases par_child hp hc with rfl | rfl
      · rw [hx] at hz; cases hz; exact has _ _ hl2
      · rw [hx2] at hz; cases hz; exact irr _
    · rw [e2]
      refine .inr ⟨x, y, .inl rfl, hx, hy, hl, fun c z hc hp hz => ?_⟩
      rcases par_child hp hc with rfl | rfl
      · rw [hx] at hz; cases hz; exact irr _
      · exact h2 z x hz hx
  · rw [e1]
    rcases pick_cases lt h i (2 * i + 2) with ⟨e2, x2, y2, hx2, hy2, hl2⟩ | ⟨e2, h2⟩
    · rw [e2]
      refine .inr ⟨x2, y2, .inr rfl, hx2, hy2, hl2, fun c z hc hp hz => ?_⟩
      rcases par_child hp hc with rfl | rfl
      · have h3 := h1 z y2 hz hy2
        cases h4 : lt z x2 with
        | false => rfl
        | true =>
          rcases hnt z y2 x2 h4 with h | h
          · rw [h] at h3; cases h3
          · rw [has _ _ hl2] at h; cases h
      · rw [hx2] at hz; cases hz; exact irr _
    · rw [e2]
      refine .inl ⟨rfl, fun c x y hc hp hx hy => ?_⟩
      rcases par_child hp hc with rfl | rfl
      · exact h1 x y hx hy
      · exact h2 x y hx hy
include has hnt in
theorem sinkF_spec : ∀ (f : Nat) (h : List α) (i s : Nat), h.length ≤ f + i → HeapX lt s h i → Heap lt s (sinkF lt f h i) ∧ (sinkF lt f h i).Perm h
  | 0, h, i, s, hf, hx => by
    show Heap lt s h ∧ h.Perm h
    refine ⟨fun c x y hc hs h1 h2 => ?_, List.Perm.refl _⟩
    by_cases hp : par c = i
    · have := (List.getElem?_eq_some_iff.1 h1).1
      have := par_lt hc
      omega
    · exact hx.1 c x y hc hs hp h1 h2
  | f + 1, h, i, s, hf, hx => by
    rw [sinkF]
    rcases least_spec lt has hnt h i with ⟨e, h1⟩ | ⟨x, y, hm, hx1, hy1, hl, hr⟩
    · rw [if_pos e]
      refine ⟨fun c x y hc hs h2 h3 => ?_, List.Perm.refl _⟩
      by_cases hp : par c = i
      · rw [hp] at h3; exact h1 c x y hc hp h2 h3
      · exact hx.1 c x y hc hs hp h2 h3
    · have hpm : par (least lt h i) = i := by rcases hm with e | e <;> rw [e] <;> simp [par_of]
      have hlt : i < least lt h i := by rcases hm with e | e <;> omega
      rw [if_neg (by omega)]
      generalize least lt h i = m at *
      have hg := swap_get hy1 hx1 (by omega : i ≠ m)
      have ih := sinkF_spec f (swapL h i m) m s (by rw [swap_len]; omega) ⟨fun c u v hc hs hp hu hv => ?_, fun hm0 hs c u v hc hp hu hv => ?_⟩
      · exact ⟨ih.1, ih.2.trans (swap_perm hy1 hx1 hlt)⟩
      · rw [hg] at hu hv
        by_cases hci : c = i
        · subst hci
          have := par_lt hc
          rw [if_pos rfl] at hu
          rw [if_neg (by omega), if_neg (by omega)] at hv
          cases hu
          exact hx.2 hc hs m x v (by omega) hpm hx1 hv
        · rw [if_neg hci] at hu
          by_cases hcm : c = m
          · subst hcm
            rw [if_pos rfl] at hu
            rw [hpm, if_pos rfl] at hv
            cases hu
            cases hv
            exact has _ _ hl
          · rw [if_neg hcm] at hu
            by_cases hpi : par c = i
            · rw [hpi, if_pos rfl] at hv
              cases hv
              exact hr c u hc hpi hu
            · rw [if_neg hpi, if_neg hp] at hv
              exact hx.1 c u v hc hs hpi hu hv
      · have := par_lt hc
        rw [hg, if_neg (by omega), if_neg (by omega)] at hu
        rw [hg, hpm, if_pos rfl] at hv
        cases hv
        rw [hpm] at hs
        refine hx.1 c u x hc (by omega) (by omega) hu ?_
        rw [hp]
        exact hx1
include has hnt in
theorem sinkL_spec {h : List α} {i s : Nat} (hx : HeapX lt s h i) : Heap lt s (sinkL lt h i) ∧ (sinkL lt h i).Perm h := sinkF_spec lt has hnt _ h i s (by omega) hx
include has hnt in
/-- The first one of a heap is before all others, or like them. -/
theorem heap_first {h : List α} (hh : Heap lt 0 h) : ∀ (n c : Nat), c ≤ n → ∀ x y, h[c]? = some x → h[0]? = some y → lt x y = false
  | 0, c, hc, x, y, hx, hy => by
    obtain rfl : c = 0 := by omega
    rw [hx] at hy
    cases hy
    cases h : lt x x with
    | false => rfl
    | true => exact absurd h (by rw [has _ _ h]; decide)
  | n + 1, c, hc, x, y, hx, hy => by
    rcases Nat.eq_zero_or_pos c with rfl | h0
    · exact heap_first hh 0 0 (Nat.le_refl _) x y hx hy
    · have hp := par_lt h0
      have hcl := (List.getElem?_eq_some_iff.1 hx).1
      have hz : h[par c]? = some (h[par c]'(by omega)) := List.getElem?_eq_getElem _
      have h1 := hh c x _ h0 (Nat.zero_le _) hx hz
      have h2 := heap_first hh n (par c) (by omega) _ y hz hy
      cases h3 : lt x y with
      | false => rfl
      | true =>
        rcases hnt x (h[par c]'(by omega)) y h3 with h4 | h4
        · rw [h4] at h1; cases h1
        · rw [h4] at h2; cases h2
theorem heap_low (h : List α) (s : Nat) (hs : h.length ≤ 2 * s + 1) : Heap lt s h := fun c x y hc hsc hx _ => by
  have := (List.getElem?_eq_some_iff.1 hx).1
  unfold par at hsc
  omega
theorem heap_next {h : List α} {s : Nat} (hh : Heap lt (s + 1) h) : HeapX lt s h s :=
  ⟨fun c x y hc hs hp hx hy => hh c x y hc (by omega) hx hy, fun h0 hs => absurd hs (by have := par_lt h0; omega)⟩
theorem heap_set {h : List α} (hh : Heap lt 0 h) (v : α) : HeapX lt 0 (h.set 0 v) 0 :=
  ⟨fun c x y hc hs hp hx hy => by
    rw [List.getElem?_set_ne (by omega)] at hx hy
    exact hh c x y hc hs hx hy, fun h0 => absurd h0 (Nat.lt_irrefl _)⟩
theorem heap_take {h : List α} {i k : Nat} (hh : HeapX lt 0 h i) : HeapX lt 0 (h.take k) i := by
  have key : ∀ c (x : α), (h.take k)[c]? = some x → h[c]? = some x := fun c x hx => by
    have hl := (List.getElem?_eq_some_iff.1 hx).1
    rw [List.length_take] at hl
    rw [List.getElem?_take_of_lt (by omega)] at hx
    exact hx
  exact ⟨fun c x y hc hs hp hx hy => hh.1 c x y hc hs hp (key _ _ hx) (key _ _ hy), fun h0 hs c x y hc hp hx hy => hh.2 h0 hs c x y hc hp (key _ _ hx) (key _ _ hy)⟩
end
/-- Two lists in strict order with the same members are one. -/
theorem pw_ext {α : Type} {lt : α → α → Prop} (irr : ∀ a, ¬ lt a a) (tr : ∀ a b c, lt a b → lt b c → lt a c) : ∀ a b : List α, a.Pairwise lt → b.Pairwise lt → (∀ x, x ∈ a ↔ x ∈ b) → a = b
  | [], [], _, _, _ => rfl
  | [], y :: b, _, _, h => absurd ((h y).2 (List.mem_cons_self ..)) (by simp)
  | x :: a, [], _, _, h => absurd ((h x).1 (List.mem_cons_self ..)) (by simp)
  | x :: a, y :: b, ha, hb, h => by
    obtain ⟨ha1, ha2⟩ := List.pairwise_cons.1 ha
    obtain ⟨hb1, hb2⟩ := List.pairwise_cons.1 hb
    have hxy : x = y := by
      rcases List.mem_cons.1 ((h x).1 (List.mem_cons_self ..)) with e | hx
      · exact e
      · rcases List.mem_cons.1 ((h y).2 (List.mem_cons_self ..)) with e | hy
        · exact e.symm
        · exact absurd (tr _ _ _ (hb1 x hx) (ha1 y hy)) (irr y)
    subst hxy
    rw [pw_ext irr tr a b ha2 hb2 fun z => ?_]
    constructor
    · intro hz
      rcases List.mem_cons.1 ((h z).1 (List.mem_cons_of_mem _ hz)) with e | h2
      · subst e; exact absurd (ha1 z hz) (irr z)
      · exact h2
    · intro hz
      rcases List.mem_cons.1 ((h z).2 (List.mem_cons_of_mem _ hz)) with e | h2
      · subst e; exact absurd (hb1 z hz) (irr z)
      · exact h2
end Go.Proofs.YtibekkfbpmloiabGreatDoor.Heap

/- Layers: the place of a path, the first fault: the model's side. -/
namespace Go.Proofs.YtibekkfbpmloiabGreatDoor.Recs
set_option maxRecDepth 100000
open Go.RowKit Paths

theorem str_eq_of {a b : ByteArray} (h : (a.toList == b.toList) = true) : a = b := by
  have := eq_of_beq h
  rw [Lib.toList_data, Lib.toList_data] at this
  exact ByteArray.ext (Array.toList_inj.1 this)

set_option maxHeartbeats 400000 in
theorem l03At_any (v : Value) (l : List R) (q : ByteArray) (w : World) (h : RecSl w v l) (hl : l.length ≤ 1048576) :
    Calls Tryz.prog 138 #[v, .string q] w fun e w' => e = .returned (.int .i64 (atL l q)) ∧ w = w' := by
  obtain ⟨A, cap, rfl, hcap, h⟩ := h
  have H := Lib.hid h
  clear h
  go_enter Tryz.func138, Tryz.ntmps138
  go_wp2
  go_loop [5] (fun i => ∃ k : Nat, k ≤ l.length ∧ i = .int .i64 k ∧ Hid (atL l q = atFrom (l.drop k) k q)) (fun i => l.length - (intOf i).toNat)
  case atStart => exact ⟨0, by omega, rfl, rfl⟩
  case round =>
    obtain ⟨k, hk, rfl, HK⟩ := hrel
    by_cases hlt : k < l.length
    · obtain ⟨b, off, rfl, hb, hcell⟩ := H.out (by omega)
      obtain ⟨_, hc1, _⟩ := hcell k l[k] (by simp [hlt])
      have HS := Lib.hid (HK.out.trans (atFrom_step hlt q))
      clear hcell HK
      have hi1 : (k : Int) < (l.length : Int) := by omega
      have hi0 : (0 : Int) ≤ (k : Int) := by omega
      rcases Bool.eq_false_or_eq_true (l[k].p.toList == q.toList) with he | he
      · have HE : Hid (atL l q = k) := by show _ = _; rw [HS.out, if_pos (str_eq_of he)]
        go_wp2
        go_ret
        exact ⟨ret_int HE.out.symm, rfl⟩
      · have HE : Hid (atL l q = atFrom (l.drop (k + 1)) (k + 1) q) := by show _ = _; rw [HS.out, if_neg (fun e => by rw [e] at he; simp at he)]
        go_wp2
        exact ⟨⟨k + 1, by omega, by go_num, HE⟩, by simp [intOf]; omega⟩
    · have HE := Lib.hid (HK.out.trans (atFrom_end (by omega) q))
      go_wp2
      go_ret
      exact ⟨ret_int HE.out.symm, rfl⟩
end Go.Proofs.YtibekkfbpmloiabGreatDoor.Recs

/- The laws' own marks: markText, and the marks written into a row of strings and read again; eqStringS. -/
namespace Go.Proofs.YtibekkfbpmloiabGreatDoor.Paths
open Go.RowKit

/-- A slice that reads as the strings L, wherever it lies. -/
def Strs (w : World) (v : Value) (L : List (List UInt8)) : Prop :=
  ∃ A cap, v = .slice A L.length cap ∧ L.length ≤ cap ∧ (0 < L.length → ∃ b off, A = some ⟨b, off, none⟩ ∧ b < w.heap.size ∧ ∀ k p, L[k]? = some p → w.cell? ⟨b, off + k, none⟩ = some (strV p))
theorem Strs.own {w : World} {base : Nat} {v : Value} {L : List (List UInt8)} (h : w.ownsRow base 9 1 v L.length (L.map strV)) : Strs w v L := by
  rcases h.2 with ⟨rfl, hn⟩ | ⟨g, cap, cur, rfl, hb, hg, hc, _⟩
  · exact ⟨none, 0, by rw [hn], by omega, fun h => by omega⟩
  · refine ⟨_, cap, rfl, hc, fun _ => ⟨g, 0, rfl, (Array.getElem?_eq_some_iff.1 hg).1, fun k p hk => ?_⟩⟩
    have := h.cells (g := g) rfl k (strV p) (by simp [hk])
    simpa [Addr.add_lit] using this
theorem Strs.below {w w' : World} {v : Value} {L : List (List UInt8)} (h : Strs w v L) (hb : Below w.heap.size w w') : Strs w' v L := by
  obtain ⟨A, cap, rfl, hc, h⟩ := h
  refine ⟨A, cap, rfl, hc, fun hn => ?_⟩
  obtain ⟨b, off, rfl, hlt, hcell⟩ := h hn
  exact ⟨b, off, rfl, Nat.lt_of_lt_of_le hlt hb.size, fun k p hk => (hb.cell (p := ⟨b, off + k, none⟩) hlt).trans (hcell k p hk)⟩

theorem take_snoc_eq {α : Type} [DecidableEq α] {A B : List α} {k : Nat} (ha : k < A.length) (hb : k < B.length) (h : A.take k = B.take k) (he : A[k] = B[k]) : A.take (k + 1) = B.take (k + 1) := by
  rw [List.take_succ_eq_append_getElem ha, List.take_succ_eq_append_getElem hb, h, he]
theorem getElem_of_eq {α : Type} {A B : List α} {k : Nat} (ha : k < A.length) (hb : k < B.length) (h : A = B) : A[k] = B[k] := by subst h; rfl

theorem grown_trans {a b c : World} {row : Option Nat} (h : a.grownBy b row) (k : b.grownBy c row) : a.grownBy c row :=
  ⟨k.os.trans h.os, k.tape.trans h.tape, k.output.trans h.output, Nat.le_trans h.size k.size, fun i hi hne => (k.block i (Nat.lt_of_lt_of_le hi h.size) hne).trans (h.block i hi hne)⟩

end Go.Proofs.YtibekkfbpmloiabGreatDoor.Paths

/- Slices of records in memory of their own: what is written into one; the laws' own size, copy and comparison of such slices. -/
namespace Go.Proofs.YtibekkfbpmloiabGreatDoor.Recs
set_option maxRecDepth 100000
open Go.RowKit Paths

/-- A record's five cells. -/
def R.cs (r : R) : List Value := [.int .i64 r.k, .string r.p, .string r.b, .int .i64 r.m, .bool r.o]
def flat (l : List R) : List Value := l.flatMap R.cs
theorem flat_len (l : List R) : (flat l).length = l.length * 5 := by
  induction l with
  | nil => rfl
  | cons r t ih => simp only [flat, List.flatMap_cons, List.length_append, List.length_cons] at ih ⊢; rw [ih]; simp [R.cs]; omega
theorem flat_get : ∀ (l : List R) (j : Nat), (flat l)[j]? = (l[j / 5]?).bind fun r => r.cs[j % 5]?
  | [], j => by simp [flat]
  | r :: t, j => by
    have ih := flat_get t (j - 5)
    by_cases hj : j < 5
    · have e1 : j / 5 = 0 := by omega
      have e2 : j % 5 = j := by omega
      rw [e1, e2]
      simp only [flat, List.flatMap_cons]
      rw [List.getElem?_append_left (by simp [R.cs]; omega)]
      simp
    · have e1 : j / 5 = (j - 5) / 5 + 1 := by omega
      have e2 : j % 5 = (j - 5) % 5 := by omega
      rw [e1, e2]
      simp only [flat, List.flatMap_cons]
      rw [List.getElem?_append_right (by simp [R.cs]; omega)]
      simp only [R.cs, List.length_cons, List.length_nil]
      exact ih
theorem flat_field {M : List R} {i c : Nat} {r : R} {u : Value} (hi : i < M.length) (hc : c < 5) (h : r.cs = M[i].cs.set c u) : flat (M.set i r) = (flat M).set (i * 5 + c) u := by
  apply List.ext_getElem?
  intro j
  rw [flat_get, List.getElem?_set, List.getElem?_set, flat_len, flat_get]
  by_cases hj : i = j / 5
  · rw [if_pos hj, if_pos (by omega)]
    simp only [Option.bind_some]
    rw [h, List.getElem?_set]
    by_cases hk : c = j % 5
    · rw [if_pos hk, if_pos (by simp [R.cs]; omega), if_pos (by omega), if_pos (by omega)]
    · rw [if_neg hk, if_neg (by omega), ← hj, List.getElem?_eq_getElem hi]
      rfl
  · rw [if_neg hj, if_neg (by omega)]

/-- A slice in memory of its own that holds the records M. -/
def RowOf (w : World) (base : Nat) (v : Value) (n : Nat) (M : List R) : Prop := M.length = n ∧ w.ownsRow base 53 5 v n (flat M)
theorem RowOf.below {w w' : World} {base : Nat} {v : Value} {n : Nat} {M : List R} (h : RowOf w base v n M) (hb : Below w.heap.size w w') : RowOf w' base v n M := ⟨h.1, own_below h.2 hb⟩
theorem RowOf.sl {w : World} {base : Nat} {v : Value} {n : Nat} {M : List R} (h : RowOf w base v n M) : RecSl w v M := by
  obtain ⟨rfl, h⟩ := h
  rcases h.2 with ⟨rfl, hn⟩ | ⟨g, cap, cur, rfl, hb, hg, hc, _⟩
  · exact ⟨none, 0, by rw [hn], by omega, fun h => by omega⟩
  · refine ⟨_, cap, rfl, hc, fun _ => ⟨g, 0, rfl, (Array.getElem?_eq_some_iff.1 hg).1, fun i r hi => ?_⟩⟩
    have hlt : i < M.length := (List.getElem?_eq_some_iff.1 hi).1
    have one : ∀ c, c < 5 → w.cell? ⟨g, i * 5 + c, none⟩ = r.cs[c]? := fun c hc => by
      rw [h.cellAt (i * 5 + c) (by omega), flat_get]
      have e1 : (i * 5 + c) / 5 = i := by omega
      have e2 : (i * 5 + c) % 5 = c := by omega
      rw [e1, e2, hi]
      rfl
    rw [Nat.zero_add]
    exact ⟨one 0 (by omega), one 1 (by omega), one 2 (by omega), one 3 (by omega), one 4 (by omega)⟩
theorem RowOf.field {w : World} {base g cap n : Nat} {M : List R} {i c : Nat} {r : R} {u : Value} (h : RowOf w base (.slice (some ⟨g, 0, none⟩) n cap) n M) (hi : i < M.length) (hc : c < 5) (hr : r.cs = M[i].cs.set c u) :
    RowOf (w.setCell ⟨g, i * 5 + c, none⟩ u) base (.slice (some ⟨g, 0, none⟩) n cap) n (M.set i r) ∧ w.grownBy (w.setCell ⟨g, i * 5 + c, none⟩ u) (some g) := by
  obtain ⟨h1, h2⟩ := h.2.stored (i * 5 + c) u
  exact ⟨⟨by rw [List.length_set]; exact h.1, by rw [flat_field hi hc hr]; exact h1⟩, h2⟩
theorem RowOf.frozen {w : World} {base g cap n : Nat} {M : List R} (h : RowOf w base (.slice (some ⟨g, 0, none⟩) n cap) n M) (j : Nat) : w.frozen? ⟨g, j, none⟩ = false := h.2.frozenAt j
theorem RowOf.cells {w : World} {base g cap n : Nat} {M : List R} (h : RowOf w base (.slice (some ⟨g, 0, none⟩) n cap) n M) {i : Nat} (hi : i < M.length) : RecCells w g (i * 5) M[i] := by
  have one : ∀ c, c < 5 → w.cell? ⟨g, i * 5 + c, none⟩ = M[i].cs[c]? := fun c hc => by
    rw [h.2.cellAt (i * 5 + c) (by rw [← h.1]; omega), flat_get]
    have e1 : (i * 5 + c) / 5 = i := by omega
    have e2 : (i * 5 + c) % 5 = c := by omega
    rw [e1, e2, List.getElem?_eq_getElem hi]
    rfl
  exact ⟨one 0 (by omega), one 1 (by omega), one 2 (by omega), one 3 (by omega), one 4 (by omega)⟩
/-- A whole record written. -/
theorem RowOf.store {w : World} {base g cap n : Nat} {M : List R} {i : Nat} (r : R) (h : RowOf w base (.slice (some ⟨g, 0, none⟩) n cap) n M) (hi : i < M.length) :
    RowOf (((((w.setCell ⟨g, i * 5, none⟩ (.int .i64 r.k)).setCell ⟨g, i * 5 + 1, none⟩ (.string r.p)).setCell ⟨g, i * 5 + 2, none⟩ (.string r.b)).setCell ⟨g, i * 5 + 3, none⟩ (.int .i64 r.m)).setCell ⟨g, i * 5 + 4, none⟩ (.bool r.o)) base (.slice (some ⟨g, 0, none⟩) n cap) n (M.set i r) ∧
    w.grownBy (((((w.setCell ⟨g, i * 5, none⟩ (.int .i64 r.k)).setCell ⟨g, i * 5 + 1, none⟩ (.string r.p)).setCell ⟨g, i * 5 + 2, none⟩ (.string r.b)).setCell ⟨g, i * 5 + 3, none⟩ (.int .i64 r.m)).setCell ⟨g, i * 5 + 4, none⟩ (.bool r.o)) (some g) := by
  obtain ⟨a1, b1⟩ := h.field (i := i) (c := 0) (r := { M[i] with k := r.k }) (u := .int .i64 r.k) hi (by omega) rfl
  obtain ⟨a2, b2⟩ := a1.field (i := i) (c := 1) (r := { M[i] with k := r.k, p := r.p }) (u := .string r.p) (by simpa using hi) (by omega) (by simp [R.cs])
  obtain ⟨a3, b3⟩ := a2.field (i := i) (c := 2) (r := { M[i] with k := r.k, p := r.p, b := r.b }) (u := .string r.b) (by simpa using hi) (by omega) (by simp [R.cs])
  obtain ⟨a4, b4⟩ := a3.field (i := i) (c := 3) (r := { M[i] with k := r.k, p := r.p, b := r.b, m := r.m }) (u := .int .i64 r.m) (by simpa using hi) (by omega) (by simp [R.cs])
  obtain ⟨a5, b5⟩ := a4.field (i := i) (c := 4) (r := r) (u := .bool r.o) (by simpa using hi) (by omega) (by simp [R.cs])
  refine ⟨?_, grown_trans (grown_trans (grown_trans (grown_trans b1 b2) b3) b4) b5⟩
  simp only [List.set_set] at a5
  exact a5

theorem flat_snoc (M : List R) (r : R) : flat (M ++ [r]) = flat M ++ r.cs := by unfold flat; rw [List.flatMap_append]; simp
theorem rec_cells_new (w : World) (r : R) (t : TypeId) (j : Nat) (u : Value) (h : r.cs[j]? = some u) : (w.alloc (.cells #[.int .i64 r.k, .string r.p, .string r.b, .int .i64 r.m, .bool r.o] t)).cell? ((⟨w.heap.size, 0, none⟩ : Addr).add j) = some u := by
  rw [Addr.add_lit]
  match j, h with
  | 0, h => cases h; go_simp
  | 1, h => cases h; go_simp
  | 2, h => cases h; go_simp
  | 3, h => cases h; go_simp
  | 4, h => cases h; go_simp
  | j + 5, h => simp [R.cs] at h
theorem rec_one (r : R) : ∀ u ∈ r.cs, u.oneCell' = true := by
  intro u hu
  simp only [R.cs, List.mem_cons, List.not_mem_nil, or_false] at hu
  rcases hu with rfl | rfl | rfl | rfl | rfl <;> rfl
theorem RowOf.ne {w : World} {base : Nat} {v : Value} {n : Nat} {M : List R} (h : RowOf w base v n M) : v.ownBlock ≠ some w.heap.size := fun e => by
  have := (h.2.lt _ e).2
  omega
theorem RowOf.form {w : World} {base : Nat} {v : Value} {n : Nat} {M : List R} (h : RowOf w base v n M) : ∃ A cap, v = .slice A n cap := own_form h.2

theorem row_snoc {w : World} {base : Nat} {v : Value} {M : List R} {r : R} (h : w.ownsRow base 53 5 v (M.length + 1) (flat M ++ r.cs)) : RowOf w base v (M ++ [r]).length (M ++ [r]) :=
  ⟨rfl, by rw [flat_snoc, List.length_append]; exact h⟩
end Go.Proofs.YtibekkfbpmloiabGreatDoor.Recs

/- The laws' own copy of a slice of records, its size, its comparison. -/
namespace Go.Proofs.YtibekkfbpmloiabGreatDoor.Recs
set_option maxRecDepth 100000
open Go.RowKit Paths

theorem recInfo : (Tryz.prog.info? 53).map (fun i => (i.zero, i.size, i.bytes)) = some (some (.agg #[.int .i64 0, .string ByteArray.empty, .string ByteArray.empty, .int .i64 0, .bool false]), 5, 56) := by kernel_rfl
def zR : R := ⟨0, 0, ByteArray.empty, ByteArray.empty, false⟩
end Go.Proofs.YtibekkfbpmloiabGreatDoor.Recs
