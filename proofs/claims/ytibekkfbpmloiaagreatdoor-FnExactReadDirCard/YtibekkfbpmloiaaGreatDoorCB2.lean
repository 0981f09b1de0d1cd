/- Parts of several texts of mine in one file (each begins with its own remark). -/
import Derived.Test.YtibekkfbpmloiaaGreatDoorCA1
import Derived.Test.YtibekkfbpmloiaaGreatDoorCA2
import Derived.Test.YtibekkfbpmloiaaGreatDoorCA3
import Derived.Test.YtibekkfbpmloiaaGreatDoorCA4
import Derived.Test.YtibekkfbpmloiaaGreatDoorCA5
import Derived.Test.YtibekkfbpmloiaaGreatDoorCA6
import Derived.Test.YtibekkfbpmloiaaGreatDoorChecked
import Derived.Deep.Slices
import Derived.OpenShut
import Derived.ShutString
import Derived.ChangeArms
import Derived.WideShapes
import Derived.Lib.LaidTab
import Derived.BigQuiet
import Derived.Deep.QuietTactic
import Derived.Deep.RegionHeld3
import Derived.StillTailTactics
import Derived.Deep.Draws
import Derived.Deep.LoopGhost
import Derived.WalkKit
import Derived.WalkSpells
import Derived.WalkSmall
import Derived.Lib.OthersKept
import Derived.Lib.Hide
import Derived.Lib.Strings
import Derived.Lib.Join
import Derived.Laws.BytesArg
import Derived.Laws.OwnMore
import Derived.BigRegion
/- A heap as a list, plain: sinking, building it up, replacing and taking away its first one. -/
namespace Go.Proofs.YtibekkfbpmloiaaGreatDoor.Heap
set_option maxRecDepth 100000

section
variable {α : Type} (lt : α → α → Bool)
def swapL (h : List α) (i j : Nat) : List α := match h[i]?, h[j]? with
  | some x, some y => (h.set i y).set j x
  | _, _ => h
def sinkF : Nat → List α → Nat → List α
  | 0, h, _ => h
  | f + 1, h, i => if least lt h i = i then h else sinkF f (swapL h i (least lt h i)) (least lt h i)
def sinkL (h : List α) (i : Nat) : List α := sinkF lt h.length h i

theorem pick_cases (h : List α) (a c : Nat) : (pick lt h a c = c ∧ ∃ x y, h[c]? = some x ∧ h[a]? = some y ∧ lt x y = true) ∨ (pick lt h a c = a ∧ ∀ x y, h[c]? = some x → h[a]? = some y → lt x y = false) := by
  unfold pick
  cases hc : h[c]? with
  | none => exact .inr ⟨rfl, fun x y e => by cases e⟩
  | some x =>
    cases ha : h[a]? with
    | none => exact .inr ⟨rfl, fun x y _ e => by cases e⟩
    | some y =>
      cases hl : lt x y with
      | true => exact .inl ⟨by simp [hl], x, y, rfl, rfl, hl⟩
      | false => exact .inr ⟨by simp [hl], fun x' y' e e' => by cases e; cases e'; exact hl⟩
theorem swap_len (h : List α) (i j : Nat) : (swapL h i j).length = h.length := by
  unfold swapL
  split
  · simp
  · rfl
theorem swap_get {h : List α} {i j : Nat} {x y : α} (hi : h[i]? = some x) (hj : h[j]? = some y) (hij : i ≠ j) (c : Nat) : (swapL h i j)[c]? = if c = i then some y else if c = j then some x else h[c]? := by
  have hil := (List.getElem?_eq_some_iff.1 hi).1
  have hjl := (List.getElem?_eq_some_iff.1 hj).1
  unfold swapL
  rw [hi, hj]
  show ((h.set i y).set j x)[c]? = _
  by_cases hci : c = i
  · subst hci
    rw [if_pos rfl, List.getElem?_set_ne (by omega), List.getElem?_set_self hil]
  · rw [if_neg hci]
    by_cases hcj : c = j
    · subst hcj
      rw [if_pos rfl, List.getElem?_set_self (by simpa using hjl)]
    · rw [if_neg hcj, List.getElem?_set_ne (by omega), List.getElem?_set_ne (by omega)]
theorem swap_perm {h : List α} {i j : Nat} {x y : α} (hi : h[i]? = some x) (hj : h[j]? = some y) (hij : i < j) : (swapL h i j).Perm h := by
  have hil := (List.getElem?_eq_some_iff.1 hi).1
  obtain ⟨hjl, hjx⟩ := List.getElem?_eq_some_iff.1 hj
  have e1 : h = h.take i ++ x :: h.drop (i + 1) := by
    have := (List.getElem?_eq_some_iff.1 hi).2
    rw [← this]
    simp
  have ej : (h.drop (i + 1))[j - i - 1]? = some y := by rw [List.getElem?_drop, ← hj]; congr 1; omega
  have e2 : h.drop (i + 1) = (h.drop (i + 1)).take (j - i - 1) ++ y :: (h.drop (i + 1)).drop (j - i - 1 + 1) := by
    obtain ⟨hlt, hv⟩ := List.getElem?_eq_some_iff.1 ej
    have h1 := List.drop_eq_getElem_cons hlt
    rw [hv] at h1
    rw [← h1, List.take_append_drop]
  generalize hA : h.take i = A at e1
  generalize hB : (h.drop (i + 1)).take (j - i - 1) = B at e2
  generalize hC : (h.drop (i + 1)).drop (j - i - 1 + 1) = C at e2
  have hAl : A.length = i := by rw [← hA, List.length_take]; omega
  have hBl : B.length = j - i - 1 := by rw [← hB, List.length_take, List.length_drop]; omega
  have e3 : h = A ++ x :: (B ++ y :: C) := by rw [e1, e2]
  have e4 : swapL h i j = A ++ y :: (B ++ x :: C) := by
    apply List.ext_getElem?
    intro c
    rw [swap_get hi hj (by omega)]
    rcases Nat.lt_trichotomy c i with h1 | h1 | h1
    · rw [if_neg (by omega), if_neg (by omega), e3, List.getElem?_append_left (by omega), List.getElem?_append_left (by omega)]
    · subst h1
      rw [if_pos rfl, List.getElem?_append_right (by omega), hAl, Nat.sub_self]
      rfl
    · rw [if_neg (by omega)]
      have ec : c - A.length = (c - i - 1) + 1 := by omega
      rw [List.getElem?_append_right (by omega), ec, List.getElem?_cons_succ]
      rcases Nat.lt_trichotomy c j with h2 | h2 | h2
      · rw [if_neg (by omega), e3, List.getElem?_append_right (by omega), ec, List.getElem?_cons_succ, List.getElem?_append_left (by omega), List.getElem?_append_left (by omega)]
      · subst h2
        rw [if_pos rfl, List.getElem?_append_right (by omega), hBl, Nat.sub_self]
        rfl
      · have ed : c - i - 1 - B.length = (c - j - 1) + 1 := by omega
        rw [if_neg (by omega), e3, List.getElem?_append_right (by omega), ec, List.getElem?_cons_succ, List.getElem?_append_right (by omega), ed, List.getElem?_append_right (by omega), ed, List.getElem?_cons_succ, List.getElem?_cons_succ]
  rw [e4]
  conv => rhs; rw [e3]
  refine List.Perm.append_left A ?_
  have p1 : (y :: (B ++ x :: C)).Perm (y :: x :: (B ++ C)) := List.Perm.cons y List.perm_middle
  have p2 : (x :: (B ++ y :: C)).Perm (x :: y :: (B ++ C)) := List.Perm.cons x List.perm_middle
  exact p1.trans ((List.Perm.swap x y _).trans p2.symm)

/-- The same but at one place. -/
def HeapX (s : Nat) (h : List α) (i : Nat) : Prop := (∀ c x y, 0 < c → s ≤ par c → par c ≠ i → h[c]? = some x → h[par c]? = some y → lt x y = false) ∧
  (0 < i → s ≤ par i → ∀ c x y, 0 < c → par c = i → h[c]? = some x → h[par i]? = some y → lt x y = false)
variable (has : ∀ a b, lt a b = true → lt b a = false) (hnt : ∀ a b c, lt a c = true → lt a b = true ∨ lt b c = true)
theorem par_of (i : Nat) : par (2 * i + 1) = i ∧ par (2 * i + 2) = i := by unfold par; omega
theorem par_child {c i : Nat} (h : par c = i) (hc : 0 < c) : c = 2 * i + 1 ∨ c = 2 * i + 2 := by unfold par at h; omega
theorem par_lt {c : Nat} (h : 0 < c) : par c < c := by unfold par; omega
include has hnt in
theorem least_spec (h : List α) (i : Nat) : (least lt h i = i ∧ ∀ c x y, 0 < c → par c = i → h[c]? = some x → h[i]? = some y → lt x y = false) ∨
    (∃ x y, (least lt h i = 2 * i + 1 ∨ least lt h i = 2 * i + 2) ∧ h[least lt h i]? = some x ∧ h[i]? = some y ∧ lt x y = true ∧ ∀ c z, 0 < c → par c = i → h[c]? = some z → lt z x = false) := by
  unfold least
  have irr : ∀ a, lt a a = false := fun a => by
    cases h : lt a a with
    | false => rfl
    | true => exact absurd h (by rw [has a a h]; decide)
  rcases pick_cases lt h i (2 * i + 1) with ⟨e1, x, y, hx, hy, hl⟩ | ⟨e1, h1⟩
  · rw [e1]
    rcases pick_cases lt h (2 * i + 1) (2 * i + 2) with ⟨e2, x2, y2, hx2, hy2, hl2⟩ | ⟨e2, h2⟩
    · rw [e2]
      rw [hx] at hy2
      cases hy2
      have l3 : lt x2 y = true := by
        rcases hnt x2 y x hl2 with h | h
        · exact h
        · exact absurd h (by rw [has _ _ hl]; decide)
      refine .inr ⟨x2, y, .inr rfl, hx2, hy, l3, fun c z hc hp hz => ?_⟩
      rcases par_child hp hc with rfl | rfl
      · rw [hx] at hz; cases hz; exact has _ _ hl2
      · rw [hx2] at hz; cases hz; exact irr _
    · rw [e2]
      refine .inr ⟨x, y, .inl rfl, hx, hy, hl, fun c z hc hp hz => ?_⟩
      rcases par_child hp hc with rfl | rfl
      · rw [hx] at hz; cases hz; exact irr _
      · exact h2 z x hz hx
  · rw [e1]
    rcases pick_cases lt h i (2 * i + 2) with ⟨e2, x2, y2, hx2, hy2, hl2⟩ | ⟨e2, h2⟩
    · rw [e2]
      refine .inr ⟨x2, y2, .inr rfl, hx2, hy2, hl2, fun c z hc hp hz => ?_⟩
      rcases par_child hp hc with rfl | rfl
      · have h3 := h1 z y2 hz hy2
        cases h4 : lt z x2 with
        | false => rfl
        | true =>
          rcases hnt z y2 x2 h4 with h | h
          · rw [h] at h3; cases h3
          · rw [has _ _ hl2] at h; cases h
      · rw [hx2] at hz; cases hz; exact irr _
    · rw [e2]
      refine .inl ⟨rfl, fun c x y hc hp hx hy => ?_⟩
      rcases par_child hp hc with rfl | rfl
      · exact h1 x y hx hy
      · exact h2 x y hx hy
include has hnt in
theorem sinkF_spec : ∀ (f : Nat) (h : List α) (i s : Nat), h.length ≤ f + i → HeapX lt s h i → Heap lt s (sinkF lt f h i) ∧ (sinkF lt f h i).Perm h
  | 0, h, i, s, hf, hx => by
    show Heap lt s h ∧ h.Perm h
    refine ⟨fun c x y hc hs h1 h2 => ?_, List.Perm.refl _⟩
    by_cases hp : par c = i
    · have := (List.getElem?_eq_some_iff.1 h1).1
      have := par_lt hc
      omega
    · exact hx.1 c x y hc hs hp h1 h2
  | f + 1, h, i, s, hf, hx => by
    rw [sinkF]
    rcases least_spec lt has hnt h i with ⟨e, h1⟩ | ⟨x, y, hm, hx1, hy1, hl, hr⟩
    · rw [if_pos e]
      refine ⟨fun c x y hc hs h2 h3 => ?_, List.Perm.refl _⟩
      by_cases hp : par c = i
      · rw [hp] at h3; exact h1 c x y hc hp h2 h3
      · exact hx.1 c x y hc hs hp h2 h3
    · have hpm : par (least lt h i) = i := by rcases hm with e | e <;> rw [e] <;> simp [par_of]
      have hlt : i < least lt h i := by rcases hm with e | e <;> omega
      rw [if_neg (by omega)]
      generalize least lt h i = m at *
      have hg := swap_get hy1 hx1 (by omega : i ≠ m)
      have ih := sinkF_spec f (swapL h i m) m s (by rw [swap_len]; omega) ⟨fun c u v hc hs hp hu hv => ?_, fun hm0 hs c u v hc hp hu hv => ?_⟩
      · exact ⟨ih.1, ih.2.trans (swap_perm hy1 hx1 hlt)⟩
      · rw [hg] at hu hv
        by_cases hci : c = i
        · subst hci
          have := par_lt hc
          rw [if_pos rfl] at hu
          rw [if_neg (by omega), if_neg (by omega)] at hv
          cases hu
          exact hx.2 hc hs m x v (by omega) hpm hx1 hv
        · rw [if_neg hci] at hu
          by_cases hcm : c = m
          · subst hcm
            rw [if_pos rfl] at hu
            rw [hpm, if_pos rfl] at hv
            cases hu
            cases hv
            exact has _ _ hl
          · rw [if_neg hcm] at hu
            by_cases hpi : par c = i
            · rw [hpi, if_pos rfl] at hv
              cases hv
              exact hr c u hc hpi hu
            · rw [if_neg hpi, if_neg hp] at hv
              exact hx.1 c u v hc hs hpi hu hv
      · have := par_lt hc
        rw [hg, if_neg (by omega), if_neg (by omega)] at hu
        rw [hg, hpm, if_pos rfl] at hv
        cases hv
        rw [hpm] at hs
        refine hx.1 c u x hc (by omega) (by omega) hu ?_
        rw [hp]
        exact hx1
include has hnt in
theorem sinkL_spec {h : List α} {i s : Nat} (hx : HeapX lt s h i) : Heap lt s (sinkL lt h i) ∧ (sinkL lt h i).Perm h := sinkF_spec lt has hnt _ h i s (by omega) hx
include has hnt in
/-- The first one of a heap is before all others, or like them. -/
theorem heap_first {h : List α} (hh : Heap lt 0 h) : ∀ (n c : Nat), c ≤ n → ∀ x y, h[c]? = some x → h[0]? = some y → lt x y = false
  | 0, c, hc, x, y, hx, hy => by
    obtain rfl : c = 0 := by omega
    rw [hx] at hy
    cases hy
    cases h : lt x x with
    | false => rfl
    | true => exact absurd h (by rw [has _ _ h]; decide)
  | n + 1, c, hc, x, y, hx, hy => by
    rcases Nat.eq_zero_or_pos c with rfl | h0
    · exact heap_first hh 0 0 (Nat.le_refl _) x y hx hy
    · have hp := par_lt h0
      have hcl := (List.getElem?_eq_some_iff.1 hx).1
      have hz : h[par c]? = some (h[par c]'(by omega)) := List.getElem?_eq_getElem _
      have h1 := hh c x _ h0 (Nat.zero_le _) hx hz
      have h2 := heap_first hh n (par c) (by omega) _ y hz hy
      cases h3 : lt x y with
      | false => rfl
      | true =>
        rcases hnt x (h[par c]'(by omega)) y h3 with h4 | h4
        · rw [h4] at h1; cases h1
        · rw [h4] at h2; cases h2
theorem heap_low (h : List α) (s : Nat) (hs : h.length ≤ 2 * s + 1) : Heap lt s h := fun c x y hc hsc hx _ => by
  have := (List.getElem?_eq_some_iff.1 hx).1
  unfold par at hsc
  omega
theorem heap_next {h : List α} {s : Nat} (hh : Heap lt (s + 1) h) : HeapX lt s h s :=
  ⟨fun c x y hc hs hp hx hy => hh c x y hc (by omega) hx hy, fun h0 hs => absurd hs (by have := par_lt h0; omega)⟩
theorem heap_set {h : List α} (hh : Heap lt 0 h) (v : α) : HeapX lt 0 (h.set 0 v) 0 :=
  ⟨fun c x y hc hs hp hx hy => by
    rw [List.getElem?_set_ne (by omega)] at hx hy
    exact hh c x y hc hs hx hy, fun h0 => absurd h0 (Nat.lt_irrefl _)⟩
theorem heap_take {h : List α} {i k : Nat} (hh : HeapX lt 0 h i) : HeapX lt 0 (h.take k) i := by
  have key : ∀ c (x : α), (h.take k)[c]? = some x → h[c]? = some x := fun c x hx => by
    have hl := (List.getElem?_eq_some_iff.1 hx).1
    rw [List.length_take] at hl
    rw [List.getElem?_take_of_lt (by omega)] at hx
    exact hx
  exact ⟨fun c x y hc hs hp hx hy => hh.1 c x y hc hs hp (key _ _ hx) (key _ _ hy), fun h0 hs c x y hc hp hx hy => hh.2 h0 hs c x y hc hp (key _ _ hx) (key _ _ hy)⟩
end
/-- Two lists in strict order with the same members are one. -/
theorem pw_ext {α : Type} {lt : α → α → Prop} (irr : ∀ a, ¬ lt a a) (tr : ∀ a b c, lt a b → lt b c → lt a c) : ∀ a b : List α, a.Pairwise lt → b.Pairwise lt → (∀ x, x ∈ a ↔ x ∈ b) → a = b
  | [], [], _, _, _ => rfl
  | [], y :: b, _, _, h => absurd ((h y).2 (List.mem_cons_self ..)) (by simp)
  | x :: a, [], _, _, h => absurd ((h x).1 (List.mem_cons_self ..)) (by simp)
  | x :: a, y :: b, ha, hb, h => by
    obtain ⟨ha1, ha2⟩ := List.pairwise_cons.1 ha
    obtain ⟨hb1, hb2⟩ := List.pairwise_cons.1 hb
    have hxy : x = y := by
      rcases List.mem_cons.1 ((h x).1 (List.mem_cons_self ..)) with e | hx
      · exact e
      · rcases List.mem_cons.1 ((h y).2 (List.mem_cons_self ..)) with e | hy
        · exact e.symm
        · exact absurd (tr _ _ _ (hb1 x hx) (ha1 y hy)) (irr y)
    subst hxy
    rw [pw_ext irr tr a b ha2 hb2 fun z => ?_]
    constructor
    · intro hz
      rcases List.mem_cons.1 ((h z).1 (List.mem_cons_of_mem _ hz)) with e | h2
      · subst e; exact absurd (ha1 z hz) (irr z)
      · exact h2
    · intro hz
      rcases List.mem_cons.1 ((h z).2 (List.mem_cons_of_mem _ hz)) with e | h2
      · subst e; exact absurd (hb1 z hz) (irr z)
      · exact h2
end Go.Proofs.YtibekkfbpmloiaaGreatDoor.Heap

/- The laws' own marks: markText, and the marks written into a row of strings and read again; eqStringS. -/
namespace Go.Proofs.YtibekkfbpmloiaaGreatDoor.Paths
open Go.RowKit

/-- The digits of k ahead of some bytes (f: at most so many). -/
def digsF : Nat → Nat → List UInt8 → List UInt8
  | 0, _, out => out
  | f + 1, k, out => if k = 0 then out else digsF f (k / 10) (UInt8.ofNat (48 + k % 10) :: out)
def digs (k : Nat) (out : List UInt8) : List UInt8 := digsF k k out
theorem digsF_enough : ∀ (f g k : Nat) (out : List UInt8), k ≤ f → k ≤ g → digsF f k out = digsF g k out
  | 0, 0, _, _, _, _ => rfl
  | 0, g + 1, k, out, h, _ => by obtain rfl : k = 0 := by omega
                                 simp [digsF]
  | f + 1, 0, k, out, _, h => by obtain rfl : k = 0 := by omega
                                 simp [digsF]
  | f + 1, g + 1, k, out, h1, h2 => by
    simp only [digsF]
    split
    · rfl
    · exact digsF_enough f g (k / 10) _ (by omega) (by omega)
theorem digs_zero (out : List UInt8) : digs 0 out = out := rfl
theorem digs_pos {k : Nat} (h : 0 < k) (out : List UInt8) : digs k out = digs (k / 10) (UInt8.ofNat (48 + k % 10) :: out) := by
  obtain ⟨m, rfl⟩ : ∃ m, k = m + 1 := ⟨k - 1, by omega⟩
  unfold digs
  rw [digsF, if_neg (by omega)]
  exact digsF_enough _ _ _ _ (by omega) (by omega)
def markS (k : Int) : ByteArray := if k ≤ 0 then ⟨#[109, 48]⟩ else ⟨(109 :: digs k.toNat []).toArray⟩

def byte1 (x : Int) : ByteArray := ⟨[UInt8.ofNat x.toNat].toArray⟩
theorem byte1_size (x : Int) : (byte1 x).size = 1 := rfl
/-- 'string([]byte{x})' -/
theorem conv_one (x : Int) (w : World) : (convert 83 9 (.slice (some ⟨w.heap.size, 0, none⟩) 1 1)).run Tryz.prog (w.alloc (.cells #[.int .u8 x] 5)) = .ok (.string (byte1 x)) (w.alloc (.cells #[.int .u8 x] 5)) := by
  have := run_convert_bytes_arg (P := Tryz.prog) (w.alloc (.cells #[.int .u8 x] 5)) 83 5 Tryz.underlying83 Tryz.underlying5 w.heap.size 0 1 1 [x] rfl
    (by intro i hi; obtain rfl : i = 0 := by omega
        simp) 9 Tryz.underlying9
  exact this

theorem mark_step {n m : Nat} {O : ByteArray} (h : digs n [] = digs m O.data.toList) (hm : 0 < m) : digs n [] = digs (m / 10) (byte1 (48 + (m : Int) % 10) ++ O).data.toList := by
  rw [h, digs_pos hm]
  have e : (48 + (m : Int) % 10).toNat = 48 + m % 10 := by omega
  have e2 : (byte1 (48 + (m : Int) % 10) ++ O).data.toList = UInt8.ofNat (48 + m % 10) :: O.data.toList := by
    unfold byte1
    rw [e]
    simp
  rw [e2]
theorem mark_end {n : Nat} {O : ByteArray} (h : digs n [] = digs 0 O.data.toList) : (⟨(109 :: digs n []).toArray⟩ : ByteArray) = ⟨#[109]⟩ ++ O := by
  rw [h, digs_zero]
  apply ByteArray.ext
  simp

set_option maxHeartbeats 400000 in
theorem markText_any (k : Int) (w : World) (h0 : 0 ≤ k) (hk : k ≤ 1099511627776) : Calls Tryz.prog 39 #[.int .i64 k] w fun e w' => e = .returned (.string (markS k)) ∧ Below w.heap.size w w' := by
  obtain ⟨n, rfl⟩ := Int.eq_ofNat_of_zero_le h0
  by_cases hz : n = 0
  · subst hz
    go_enter Tryz.func39, Tryz.ntmps39
    go_wp2
    go_ret
    exact ⟨rfl, Below.refl _ _⟩
  · have HM : Hid (markS (n : Int) = ⟨(109 :: digs n []).toArray⟩) := by show _ = _; unfold markS; rw [if_neg (by omega)]; rfl
    have hd : decide ((n : Int) ≤ 0) = false := by simp; omega
    go_enter Tryz.func39, Tryz.ntmps39
    go_wp2
    go_loopw [0, 3] (fun v o wr => ∃ (m : Nat) (O : ByteArray), v = .int .i64 m ∧ o = .string O ∧ O.size + m ≤ n ∧ Hid (digs n [] = digs m O.data.toList) ∧ Below w.heap.size w wr) (fun v _ _ => (intOf v).toNat)
    case atStart => exact ⟨n, ⟨#[]⟩, rfl, rfl, by show 0 + n ≤ n; omega, rfl, Below.refl _ _⟩
    case round =>
      obtain ⟨m, O, rfl, rfl, hO, HD, hbw⟩ := hrel
      by_cases hm : 0 < m
      · have hd2 : decide ((0 : Int) < (m : Int)) = true := by simp; omega
        have HS := Lib.hid (mark_step HD.out hm)
        have hcv := conv_one
        have hb1 := byte1_size (48 + (m : Int) % 10)
        go_wp2
        go_roundw
        case rel => exact ⟨m / 10, _, by go_num, rfl, by simp [byte1_size]; omega, HS, hbw.alloc hbw.size _⟩
        case measure => simp [intOf]; omega
      · obtain rfl : m = 0 := by omega
        have HE := Lib.hid (mark_end HD.out)
        go_wp2
        go_ret
        exact ⟨by rw [HM.out, HE.out]; rfl, hbw⟩

theorem take_snoc_eq {α : Type} [DecidableEq α] {A B : List α} {k : Nat} (ha : k < A.length) (hb : k < B.length) (h : A.take k = B.take k) (he : A[k] = B[k]) : A.take (k + 1) = B.take (k + 1) := by
  rw [List.take_succ_eq_append_getElem ha, List.take_succ_eq_append_getElem hb, h, he]
theorem getElem_of_eq {α : Type} {A B : List α} {k : Nat} (ha : k < A.length) (hb : k < B.length) (h : A = B) : A[k] = B[k] := by subst h; rfl

set_option maxHeartbeats 400000 in
theorem eqStringS_any (v1 v2 : Value) (A B : List (List UInt8)) (w : World) (h1 : Strs w v1 A) (h2 : Strs w v2 B) (hl : A.length ≤ maxLen) : Calls Tryz.prog 17 #[v1, v2] w fun e w' => e = .returned (.bool (decide (A = B))) ∧ ∃ n, w' = w.drewN n := by
  unfold maxLen at hl
  obtain ⟨a1, c1, rfl, hc1, h1⟩ := h1
  obtain ⟨a2, c2, rfl, hc2, h2⟩ := h2
  by_cases hL : A.length = B.length
  · have hne : ((A.length : Int) != (B.length : Int)) = false := by simp [hL]
    have HL := Lib.hid hL
    have H1 := Lib.hid h1
    have H2 := Lib.hid h2
    clear hL h1 h2
    go_enter Tryz.func17, Tryz.ntmps17
    go_wp2
    go_loopw [5] (fun i wr => ∃ k n : Nat, k ≤ A.length ∧ i = .int .i64 k ∧ wr = w.drewN n ∧ Hid (A.take k = B.take k)) (fun i _ => A.length - (intOf i).toNat)
    case atStart => exact ⟨0, 0, by omega, rfl, rfl, rfl⟩
    case round =>
      obtain ⟨k, n, hk, rfl, rfl, HK⟩ := hrel
      by_cases hlt : k < A.length
      · obtain ⟨b1, o1, rfl, hb1, hcell1⟩ := H1.out (by omega)
        have hL2 := HL.out
        have hlt2 : k < B.length := by omega
        obtain ⟨b2, o2, rfl, hb2, hcell2⟩ := H2.out (by omega)
        have hk1 := hcell1 k A[k] (by simp [hlt])
        have hk2 := hcell2 k B[k] (by simp [hlt2])
        unfold strV at hk1 hk2
        clear hcell1 hcell2 hL2 H1 H2
        have hi1 : (k : Int) < (A.length : Int) := by omega
        have hi2 : (k : Int) < (B.length : Int) := by omega
        have hi0 : (0 : Int) ≤ (k : Int) := by omega
        go_wp2
        go_quiet (fail)
        go_wp2
        · have HF : Hid (¬ A = B) := fun e => by
            have h3 : (!A[k] == B[k]) = true := by assumption
            rw [getElem_of_eq hlt hlt2 e] at h3
            simp at h3
          go_ret
          exact ⟨ret_bool (by simp [HF.out]), n + nq, World.drewN_drewN _ _ _⟩
        · have h3 : (!A[k] == B[k]) = false := by assumption
          exact ⟨⟨k + 1, _, by omega, by go_num, rfl, take_snoc_eq hlt hlt2 HK.out (by simpa using h3)⟩, by simp [intOf]; omega⟩
      · have HE : Hid (A = B) := by
          have hL2 := HL.out
          have := HK.out
          rw [List.take_of_length_le (by omega), List.take_of_length_le (by omega)] at this
          exact this
        go_wp2
        go_ret
        exact ⟨ret_bool (by simp [HE.out]), _, rfl⟩
  · have hne : ((A.length : Int) != (B.length : Int)) = true := by simp; omega
    have HE : Hid (¬ A = B) := fun e => hL (by rw [e])
    clear hL
    go_enter Tryz.func17, Tryz.ntmps17
    go_wp2
    go_ret
    exact ⟨ret_bool (by simp [HE.out]), 0, rfl⟩

theorem grown_below {w w' : World} (h : Below w.heap.size w w') (row : Option Nat) : w.grownBy w' row := ⟨h.os, h.tape, h.output, h.size, fun k hk _ => h.block k hk⟩
/-- n marks from k on. -/
def markRow (k : Int) (n : Nat) : List Value := (List.range n).map fun (i : Nat) => .string (markS (k + (i : Int)))
theorem markRow_at {k : Int} {n j : Nat} (h : j < n) : (markRow k n)[j]? = some (.string (markS (k + j))) := by simp [markRow, h]
theorem markRow_len (k : Int) (n : Nat) : (markRow k n).length = n := by simp [markRow]
theorem markRow_snoc (k : Int) (n : Nat) : markRow k (n + 1) = markRow k n ++ [.string (markS (k + n))] := by simp [markRow, List.range_succ]
theorem mark_set {k : Int} {j : Nat} {xs : List Value} (h : j < xs.length) : (markRow k j ++ xs.drop j).set j (.string (markS (k + j))) = markRow k (j + 1) ++ xs.drop (j + 1) := by
  rw [markRow_snoc, List.set_append_right _ _ (by rw [markRow_len]; exact Nat.le_refl _), markRow_len, Nat.sub_self, List.drop_eq_getElem_cons h, List.set_cons_zero, List.append_assoc]
  rfl

set_option maxHeartbeats 400000 in
theorem markStringS_any (v : Value) (n base : Nat) (xs : List Value) (k : Int) (w : World) (hown : w.ownsRow base 9 1 v n xs) (h0 : 0 ≤ k) (hk : k + n ≤ 1099511627776) :
    Calls Tryz.prog 19 #[v, .int .i64 k] w fun e w' => e = .returned (.int .i64 (k + n)) ∧ w'.ownsRow base 9 1 v n (markRow k n) ∧ w.grownBy w' v.ownBlock := by
  have hxl : xs.length = n := by simpa using hown.1
  have HX := Lib.hid hxl
  clear hxl
  rcases hown.2 with ⟨rfl, rfl⟩ | ⟨g, cap, cur, rfl, hbg, hgg, hnc, hcm, _⟩
  · go_enter Tryz.func19, Tryz.ntmps19
    go_wp2
    refine wp_loop_rounds 1 ?_
    rw [rounds_succ]
    go_wp2
    go_ret
    exact ⟨by simp, World.ownsRow_nil _ _ _ _, World.grownBy.refl _ _⟩
  · unfold maxLen at hcm
    clear hgg
    go_enter Tryz.func19, Tryz.ntmps19
    go_wp2
    go_loopw [1, 5] (fun m i wr => ∃ j : Nat, j ≤ n ∧ i = .int .i64 j ∧ m = .int .i64 (k + j) ∧ wr.ownsRow base 9 1 (.slice (some ⟨g, 0, none⟩) n cap) n (markRow k j ++ xs.drop j) ∧ w.grownBy wr (some g)) (fun _ i _ => n - (intOf i).toNat)
    case atStart => exact ⟨0, by omega, rfl, by simp, by simpa [markRow] using hown, World.grownBy.refl _ _⟩
    case round =>
      obtain ⟨j, hj, rfl, rfl, hownj, hgr⟩ := hrel
      by_cases hlt : j < n
      · go_wp2_with fail
        refine (markText_any _ _ (by omega) (by omega)).mono ?_
        rintro e w1 ⟨rfl, hb1⟩
        have hown1 := own_below hownj hb1
        have hx := HX.out
        obtain ⟨u, hu⟩ : ∃ u, (markRow k j ++ xs.drop j)[j]? = some u := ⟨_, List.getElem?_eq_getElem (by rw [List.length_append, markRow_len, List.length_drop]; omega)⟩
        have hc := (hown1.cellAt j (by omega)).trans hu
        have hf := hown1.frozenAt j
        have HS := Lib.hid (hown1.stored j (.string (markS (k + j))))
        rw [mark_set (by omega)] at HS
        clear hx hu
        go_wp2
        go_roundw
        case rel => exact ⟨j + 1, by omega, by go_num, by go_num, HS.out.1, grown_trans (grown_trans hgr (grown_below hb1 _)) HS.out.2⟩
        case measure => simp [intOf]; omega
      · obtain rfl : j = n := by omega
        go_wp2
        go_ret
        refine ⟨rfl, ?_, hgr⟩
        rw [List.drop_of_length_le (by rw [HX.out]; exact Nat.le_refl _), List.append_nil] at hownj
        exact hownj

set_option maxHeartbeats 800000 in
theorem heldStringS_any (v : Value) (n base : Nat) (k : Int) (w : World) (hown : w.ownsRow base 9 1 v n (markRow k n)) (h0 : 0 ≤ k) (hk : k + n ≤ 1099511627776) :
    Calls Tryz.prog 20 #[v, .int .i64 k] w fun e w' => e = .returned (.int .i64 (k + n)) ∧ Below w.heap.size w w' := by
  rcases hown.2 with ⟨rfl, rfl⟩ | ⟨g, cap, cur, rfl, hbg, hgg, hnc, hcm, _⟩
  · go_enter Tryz.func20, Tryz.ntmps20
    go_wp2
    refine wp_loop_rounds 1 ?_
    rw [rounds_succ]
    go_wp2
    go_ret
    exact ⟨by simp, Below.refl _ _⟩
  · unfold maxLen at hcm
    have hglt : g < w.heap.size := (Array.getElem?_eq_some_iff.1 hgg).1
    clear hgg
    have HC : Hid (∀ j, j < n → w.cell? ⟨g, j, none⟩ = some (.string (markS (k + (j : Int))))) := fun j hj => (hown.cellAt j (by omega)).trans (markRow_at hj)
    clear hown
    go_enter Tryz.func20, Tryz.ntmps20
    go_wp2
    go_loopw [1, 5] (fun m i wr => ∃ j : Nat, j ≤ n ∧ i = .int .i64 j ∧ m = .int .i64 (k + j) ∧ Below w.heap.size w wr) (fun _ i _ => n - (intOf i).toNat)
    case atStart => exact ⟨0, by omega, rfl, by simp, Below.refl _ _⟩
    case round =>
      obtain ⟨j, hj, rfl, rfl, hbw⟩ := hrel
      by_cases hlt : j < n
      · have hc : wr.cell? ⟨g, j, none⟩ = some (.string (markS (k + j))) := (hbw.cell (p := ⟨g, j, none⟩) hglt).trans (HC.out j hlt)
        have hi1 : (j : Int) < (n : Int) := by omega
        have hi0 : (0 : Int) ≤ (j : Int) := by omega
        have hgr : g < wr.heap.size := Nat.lt_of_lt_of_le hglt hbw.size
        go_wp2
        go_region_held3 (fun w' => w'.cell? ⟨g, j, none⟩ = some (.string (markS (k + j)))) (first | exact hc | exact (hb1.cell (p := ⟨g, j, none⟩) hgr).trans hc | go_keep) (first | (go_at_call 39; refine (markText_any _ _ (by omega) (by omega)).mono ?_; rintro e w1 ⟨rfl, hb1⟩))
        go_wp2
        exact ⟨⟨j + 1, by omega, by go_num, by go_num, hbw.drew.trans (hb1.mono hbw.size)⟩, by simp [intOf]; omega⟩
      · obtain rfl : j = n := by omega
        go_wp2
        go_ret
        exact ⟨rfl, hbw⟩

end Go.Proofs.YtibekkfbpmloiaaGreatDoor.Paths

/- Combining many layers, plain: the highest layer that cuts a path off; the records considered at a path; what is seen there. -/
namespace Go.Proofs.YtibekkfbpmloiaaGreatDoor.Recs
set_option maxRecDepth 100000
open Go.RowKit Paths

theorem consd_snoc (M : List (List R)) (l : List R) (q : ByteArray) : consd (M ++ [l]) q = (if cutsL l q then [] else consd M q) ++ (match recAt l q with | some r => [(r, M.length + 1)] | none => []) := by
  have key : ∀ c, c ≤ M.length → grpN ((M ++ [l]).drop c) c q = grpN (M.drop c) c q ++ (match recAt l q with | some r => [(r, M.length + 1)] | none => []) := fun c hc => by
    rw [List.drop_append_of_le_length hc, grpN_append, List.length_drop]
    have e : c + (M.length - c) = M.length := by omega
    rw [e]
    rfl
  unfold consd
  rw [cut_snoc]
  by_cases h : cutsL l q = true
  · rw [if_pos h, if_pos h]
    have e : M.length + 1 - 1 = M.length := by omega
    rw [e, key _ (Nat.le_refl _), List.drop_eq_nil_of_le (Nat.le_refl _)]
    rfl
  · rw [if_neg h, if_neg h, key _ (by have := cut_le M q; omega)]
theorem lowStops_consd : ∀ (s : List (List R)) (q : ByteArray), lowStops s q = (consd s.reverse q).any fun x => stops x.1
  | [], _ => rfl
  | l :: s, q => by
    rw [lowStops, List.reverse_cons, consd_snoc, List.any_append, lowStops_consd s q]
    cases hr : recAt l q <;> cases hc : cutsL l q <;> simp [Bool.or_comm]
theorem winner_win (s : List (List R)) (q : ByteArray) : winC s.reverse q = (match winner s q with | some r => (r, (winC s.reverse q).2) | none => (zR, 0)) ∧ ((winner s q).isSome = true → 0 < (winC s.reverse q).2) := by
  induction s with
  | nil => exact ⟨rfl, fun h => by cases h⟩
  | cons l s ih =>
    unfold winC at ih ⊢
    rw [List.reverse_cons, consd_snoc]
    unfold winner
    cases hr : recAt l q with
    | none =>
      simp only [List.append_nil]
      cases hc : cutsL l q with
      | true => exact ⟨rfl, fun h => by simp at h⟩
      | false => simpa using ih
    | some y =>
      have hs := lowStops_consd s q
      cases hc : cutsL l q with
      | true =>
        unfold overC
        refine ⟨?_, fun _ => by simp⟩
        by_cases hk : y.k = 3
        · cases ho : y.o with
          | true => simp [hk]; cases y; simp_all
          | false => simp [hk, stops, ho]
        · simp [hk]
      | false =>
        unfold overC
        refine ⟨?_, fun _ => by simp⟩
        by_cases hk : y.k = 3
        · cases ho : y.o with
          | true => simp [hk]; cases y; simp_all
          | false =>
            have hsy : stops y = false := by simp [stops, hk, ho]
            have ha : ((consd s.reverse q ++ [(y, s.reverse.length + 1)]).any fun x => stops x.1) = lowStops s q := by
              rw [List.any_append, hs]
              simp [hsy]
            rw [if_neg (by decide)]
            dsimp only
            rw [List.getLast?_concat]
            dsimp only
            rw [ha]
            simp only [hk, true_and]
        · simp [hk]
end Go.Proofs.YtibekkfbpmloiaaGreatDoor.Recs
