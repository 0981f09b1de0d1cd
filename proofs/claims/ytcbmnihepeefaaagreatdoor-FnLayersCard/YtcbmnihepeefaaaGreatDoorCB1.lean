/- Parts of several texts of mine in one file (each begins with its own remark). -/
import Derived.Test.YtcbmnihepeefaaaGreatDoorCA1
import Derived.Test.YtcbmnihepeefaaaGreatDoorCA2
import Derived.Test.YtcbmnihepeefaaaGreatDoorCA3
import Derived.Test.YtcbmnihepeefaaaGreatDoorCA4
import Derived.Test.YtcbmnihepeefaaaGreatDoorCA5
import Derived.Test.YtcbmnihepeefaaaGreatDoorCA6
import Derived.Test.YtcbmnihepeefaaaGreatDoorCA7
import Derived.Test.YtcbmnihepeefaaaGreatDoorChecked
import Derived.Test.YtcbmnihepeefaaaGreatDoorShelf
import Derived.Deep.Draws
import Derived.Deep.LoopGhost
import Derived.WalkKit
import Derived.WalkSpells
import Derived.WalkSmall
import Derived.Lib.OthersKept
import Derived.Lib.Hide
import Derived.Lib.Strings
import Derived.BigQuiet
import Derived.Deep.QuietTactic
import Derived.Deep.RegionHeld3
import Derived.StillTailTactics
import Derived.Lib.Join
import Derived.Laws.BytesArg
import Derived.Deep.Slices
import Derived.OpenShut
import Derived.ShutString
import Derived.ChangeArms
import Derived.WideShapes
import Derived.Lib.LaidTab
import Derived.Laws.OwnMore
import Derived.BigRegion
import Derived.WalkLawsBesides
import Derived.Maps.RangeWalk
import Derived.Maps.Ext
import Derived.Lib.SlMapFilter
/- Paths: what splitPath of the program answers. -/
namespace Go.Proofs.YtcbmnihepeefaaaGreatDoor.Paths
open Go.RowKit

theorem extract_take (s : ByteArray) (k : Nat) : (s.extract 0 k).data.toList = s.data.toList.take k := by
  rw [Lib.extract_data]; simp
end Go.Proofs.YtcbmnihepeefaaaGreatDoor.Paths

/- Records: RecordOK, and what makes a record, of the program and of its model. Condition (of the program's): its table of kinds holds what its own initialiser lays. -/
namespace Go.Proofs.YtcbmnihepeefaaaGreatDoor.Recs
open Go.RowKit Paths

theorem recordOK_impl (k m : Int) (p b : ByteArray) (o : Bool) (w : World) (hp : p.size ≤ maxLen) (ht : Tab w) :
    Calls Tryz.prog 170 #[.agg #[.int .i64 k, .string p, .string b, .int .i64 m, .bool o]] w fun e w' => e = .returned (.bool (faultI k p.data.toList b.size m o == 0)) ∧ Below w.heap.size w w' := by
  go_enter Tryz.func170, Tryz.ntmps170
  go_wp2_with fail
  refine (recordFault_impl k m p b o _ hp (ht.below ((Below.refl _ _).alloc (Nat.le_refl _) _) (Nat.le_refl _))).mono ?_
  rintro e w1 ⟨rfl, hb1⟩
  go_wp2_with fail
  go_ret
  exact ⟨rfl, ((Below.refl _ _).alloc (Nat.le_refl _) _).trans (hb1.mono (by simp <;> omega))⟩

theorem l02OK_any (k m : Int) (p b : ByteArray) (o : Bool) (w : World) :
    Calls Tryz.prog 95 #[.agg #[.int .i64 k, .string p, .string b, .int .i64 m, .bool o]] w fun e w' => e = .returned (.bool (faultI k p.data.toList b.size m o == 0)) ∧ Below w.heap.size w w' := by
  go_enter Tryz.func95, Tryz.ntmps95
  go_wp2_with fail
  refine (l02Fault_any k m p b o _).mono ?_
  rintro e w1 ⟨rfl, hb1⟩
  go_wp2_with fail
  go_ret
  exact ⟨rfl, ((Below.refl _ _).alloc (Nat.le_refl _) _).trans (hb1.mono (by simp <;> omega))⟩

/-! ### Making a record -/
end Go.Proofs.YtcbmnihepeefaaaGreatDoor.Recs

/- Plain facts on lists of bytes: parents, joined paths, the order of paths, what is below a path. -/
namespace Go.Proofs.YtcbmnihepeefaaaGreatDoor

/-! ### A path and one part more -/
theorem cut_join {d p : List UInt8} (hp : partB p = true) : cutAt 47 (d ++ 47 :: p) = cutAt 47 d ++ [p] := by
  rw [cutAt_append, cut_last hp]
theorem pathB_join {d p : List UInt8} (hd : pathB d = true) (hp : partB p = true) (hl : (cutAt 47 d).length < 4) : pathB (d ++ 47 :: p) = true := by
  unfold pathB
  rw [cut_join hp, decide_eq_true (by simp; omega)]
  simp [(pathB_parts hd).2, hp]
theorem pathB_part {p : List UInt8} (hp : partB p = true) : pathB p = true := by
  unfold pathB
  rw [cut_last hp]
  simp [hp]

/-! ### The order of paths -/
/-! ### Below a path -/
end Go.Proofs.YtcbmnihepeefaaaGreatDoor

/- The laws' own marks: markText, and the marks written into a row of strings and read again; eqStringS. -/
namespace Go.Proofs.YtcbmnihepeefaaaGreatDoor.Paths
open Go.RowKit

theorem take_snoc_eq {α : Type} [DecidableEq α] {A B : List α} {k : Nat} (ha : k < A.length) (hb : k < B.length) (h : A.take k = B.take k) (he : A[k] = B[k]) : A.take (k + 1) = B.take (k + 1) := by
  rw [List.take_succ_eq_append_getElem ha, List.take_succ_eq_append_getElem hb, h, he]
theorem getElem_of_eq {α : Type} {A B : List α} {k : Nat} (ha : k < A.length) (hb : k < B.length) (h : A = B) : A[k] = B[k] := by subst h; rfl

end Go.Proofs.YtcbmnihepeefaaaGreatDoor.Paths

/- Nodes: opening one and a slice of them; the laws' own size, copy and comparison of a node. A node is a record of which Opaque is false. -/
namespace Go.Proofs.YtcbmnihepeefaaaGreatDoor.Recs
set_option maxRecDepth 100000
open Go.RowKit Paths Go.WideShapes Go.ChangeShapes

/-- A node's value. -/
def R.nod (r : R) : Value := .agg #[.int .i64 r.k, .string r.p, .string r.b, .int .i64 r.m]
section
variable {H : Type} {enc : TypeId × Value → H} {w : World} {base : Nat} {spare : Nat → Bool} {held : Bool}
end

section
variable {H : Type} {enc : TypeId × Value → H} {w : World} {base : Nat} {spare : Nat → Bool} {held : Bool}

end
end Go.Proofs.YtcbmnihepeefaaaGreatDoor.Recs

/- Slices of nodes in memory of their own; the laws' own copy, size and comparison of slices of nodes. -/
namespace Go.Proofs.YtcbmnihepeefaaaGreatDoor.Recs
set_option maxRecDepth 100000
open Go.RowKit Paths

theorem nodInfo : (Tryz.prog.info? 29).map (fun i => (i.zero, i.size, i.bytes)) = some (some (.agg #[.int .i64 0, .string ByteArray.empty, .string ByteArray.empty, .int .i64 0]), 4, 48) := by kernel_rfl
end Go.Proofs.YtcbmnihepeefaaaGreatDoor.Recs

/- Layers as plain lists of records: when a list is a layer; the records of a canonical form; it is a layer. -/
namespace Go.Proofs.YtcbmnihepeefaaaGreatDoor.Recs
open Go.RowKit Paths

/-- What makes a list a layer. -/
theorem layerOK_of {l : List R} (hl : l.length ≤ 16) (hf : ∀ r ∈ l, r.fault = 0) (hs : Sorted l) (hh : Housed l) : layerOK l = true := by
  have hall : ∀ i (hi : i < l.length), codeAt l i l[i] = 0 := by
    intro i hi
    have hfi := hf _ (List.getElem_mem hi)
    have hpath := (fault_path hfi).1
    have hbef : ∀ x, beforeL l i = some x → lessR x l[i] = true := by
      intro x hx
      unfold beforeL at hx
      split at hx
      · cases hx
      · rename_i h0
        have hlt : i - 1 < l.length := by omega
        rw [List.getElem?_eq_getElem hlt] at hx
        cases hx
        exact sorted_get hs hi (by omega)
    unfold codeAt
    rw [if_neg (by omega), if_neg (by simp [hfi])]
    have e1 : (beforeL l i).any (fun x => decide (x.p = l[i].p)) = false := by
      cases hb : beforeL l i with
      | none => rfl
      | some x =>
        have := hbef x hb
        simp only [Option.any_some, decide_eq_false_iff_not]
        intro e
        unfold lessR at this
        rw [e, lessP_irrefl] at this
        cases this
    have e2 : (beforeL l i).any (fun x => !lessP (cutAt 47 x.p.data.toList) (cutAt 47 l[i].p.data.toList)) = false := by
      cases hb : beforeL l i with
      | none => rfl
      | some x =>
        have := hbef x hb
        unfold lessR at this
        simp [this]
    rw [if_neg (by rw [e1]; decide), if_neg (by rw [e2]; decide)]
    by_cases hp : parentL l[i].p.data.toList = []
    · rw [if_pos hp]
    · rw [if_neg hp]
      obtain ⟨x, hx, hxp, hxk⟩ := hh _ (List.getElem_mem hi) hp
      obtain ⟨k, hk, rfl⟩ := List.getElem_of_mem hx
      have hki : k < i := by
        rcases Nat.lt_trichotomy k i with h1 | h1 | h1
        · exact h1
        · subst h1
          have h2 := parent_less hpath hp
          rw [← hxp, lessP_irrefl] at h2
          cases h2
        · have h2 := parent_less hpath hp
          have h3 := sorted_get hs hk h1
          unfold lessR at h3
          rw [hxp] at h3
          rw [lessP_asymm _ _ h2] at h3
          cases h3
      rcases atL_cases (l.take i) (parO l[i].p) with ⟨_, h2⟩ | ⟨j, hj, h1, h2, _⟩
      · exact absurd hxp (h2 _ (List.mem_take_iff_getElem.2 ⟨k, by omega, rfl⟩))
      · have hji : j < i := by rw [List.length_take] at hj; omega
        have h2' : (l[j]'(by omega)).p = parO l[i].p := by simpa using h2
        have ejk : j = k := sorted_once hs (by omega) hk (h2'.trans hxp.symm)
        subst ejk
        rw [if_neg (by omega), h1]
        simp [show j < l.length by omega, hxk]
  have hfrom : ∀ n i, l.length - i = n → faultFrom l i = (0, 0) := by
    intro n
    induction n with
    | zero => intro i hi; exact faultFrom_end (by omega)
    | succ n ih =>
      intro i hi
      rw [faultFrom_good (by omega) (hall i (by omega))]
      exact ih (i + 1) (by omega)
  unfold layerOK layerFaultL
  rw [hfrom _ 0 rfl]
  rfl

/-! ### The canonical form -/
end Go.Proofs.YtcbmnihepeefaaaGreatDoor.Recs

/- Paths: IsBelow, of the program and of its model. -/
namespace Go.Proofs.YtcbmnihepeefaaaGreatDoor.Paths
open Go.RowKit

theorem below_hit {s t : ByteArray} (hlt : t.size < s.size) (h : (s.extract 0 t.size).toList = t.toList) : ((s[t.size].toNat : Int) == 47) = belowL s.data.toList t.data.toList := by
  rw [Lib.toList_data, Lib.toList_data, extract_take] at h
  unfold belowL
  rw [← Lib.size_eq, ← Lib.size_eq, decide_eq_true hlt, h, drop_cons s t.size hlt, Bool.eq_iff_iff]
  simp only [beq_self_eq_true, Bool.and_self, Bool.true_and, List.head?_cons, beq_iff_eq, Option.some.injEq]
  constructor
  · intro e
    exact UInt8.toNat_inj.1 (by show _ = 47; omega)
  · intro e
    rw [e]
    rfl
theorem below_miss {s t : ByteArray} (h : ¬ (s.extract 0 t.size).toList = t.toList) : false = belowL s.data.toList t.data.toList := by
  rw [Lib.toList_data, Lib.toList_data, extract_take] at h
  unfold belowL
  rw [← Lib.size_eq t, beq_false_of_ne h]
  simp
theorem l01Below_two (s t : ByteArray) (w : World) (h : 0 < t.size) (_hs : s.size ≤ 65536) (_ht : t.size ≤ 65536) : Calls Tryz.prog 110 #[.string s, .string t] w fun e w' => e = .returned (.bool (belowL s.data.toList t.data.toList)) ∧ w = w' := by
  have he := isEmpty_false h
  by_cases hlt : t.size < s.size
  · have hi0 : (0 : Int) ≤ (t.size : Int) := by omega
    have hi1 : (t.size : Int) < (s.size : Int) := by omega
    go_enter Tryz.func110, Tryz.ntmps110
    go_wp2
    · have h3 : (s.extract 0 t.size).toList = t.toList := by assumption
      go_ret
      exact ⟨ret_bool (below_hit hlt h3), rfl⟩
    · have h3 : ¬ (s.extract 0 t.size).toList = t.toList := by assumption
      go_ret
      exact ⟨ret_bool (below_miss h3), rfl⟩
  · have HF : Hid (belowL s.data.toList t.data.toList = false) := by
      show _ = _
      unfold belowL
      rw [← Lib.size_eq, ← Lib.size_eq, decide_eq_false hlt]
      rfl
    go_enter Tryz.func110, Tryz.ntmps110
    go_wp2
    go_ret
    exact ⟨ret_bool HF.out.symm, rfl⟩

end Go.Proofs.YtcbmnihepeefaaaGreatDoor.Paths

/- A tree as a map of paths: what the map in memory holds, and what a store, a deletion and a sweep make of it. -/
namespace Go.Proofs.YtcbmnihepeefaaaGreatDoor.Recs
set_option maxRecDepth 100000
open Go.RowKit Paths Go.ChangeMaps

theorem bytes_eq {a b : ByteArray} (h : a.data.toList = b.data.toList) : a = b := by
  cases a; cases b
  simp only [Array.toList_inj] at h
  rw [h]

/-- How a node reads as an element of a map. -/
def nodD (r : R) : DataW Unit := .agg [.lit (.int .i64 r.k), .lit (.string r.p.data.toList), .lit (.string r.b.data.toList), .lit (.int .i64 r.m)]
def readN : Value → Option (DataW Unit × List MemPlace)
  | .agg cs => match cs.toList with
    | [.int .i64 k, .string p, .string b, .int .i64 m] => some (nodD ⟨k, m, p, b, false⟩, [])
    | _ => none
  | _ => none
theorem readN_nod (r : R) : readN r.nod = some (nodD r, []) := rfl
theorem readN_inv {v : Value} {y : DataW Unit × List MemPlace} (h : readN v = some y) : ∃ r : R, r.o = false ∧ v = r.nod ∧ y = (nodD r, []) := by
  unfold readN at h
  split at h
  · rename_i cs
    split at h
    · rename_i k p b m e
      cases h
      refine ⟨⟨k, m, p, b, false⟩, rfl, ?_, rfl⟩
      unfold R.nod
      rw [← Array.toArray_toList (xs := cs), e]
    · cases h
  · cases h
theorem nodD_inj {r s : R} (hr : r.o = false) (hs : s.o = false) (h : nodD r = nodD s) : r = s := by
  obtain ⟨k, m, p, b, o⟩ := r
  obtain ⟨k', m', p', b', o'⟩ := s
  simp only at hr hs
  simp only [nodD, DataW.agg.injEq, List.cons.injEq, DataW.lit.injEq, Lit.int.injEq, Lit.string.injEq, true_and, and_true] at h
  obtain ⟨h1, h2, h3, h4⟩ := h
  rw [h1, h4, bytes_eq h2, bytes_eq h3, hr, hs]

def kd (r : R) : Lit × DataW Unit := (.string r.p.data.toList, nodD r)
/-- Block b is a map whose elements are the nodes t, each under its path. -/
def MapT (w : World) (b n : Nat) (t : List R) : Prop :=
  (∃ es, w.ownsMap Tryz.prog 9 readN b n (.map es) ∧ ∀ p, p ∈ es ↔ ∃ x ∈ t, p = kd x) ∧ ∀ x ∈ t, x.o = false
theorem keyed : Maps.Keyed Tryz.prog 9 := Maps.string_keyed Tryz.underlying9
theorem MapT.made (w : World) : MapT (w.alloc (.map #[] 0)) w.heap.size 0 [] :=
  ⟨⟨[], World.ownsMap_made w _ _ _, fun p => by simp⟩, fun x hx => by cases hx⟩
theorem MapT.congr {w : World} {b n : Nat} {t t' : List R} (h : MapT w b n t) (he : ∀ x, x ∈ t' ↔ x ∈ t) : MapT w b n t' := by
  obtain ⟨⟨es, h1, h2⟩, h3⟩ := h
  exact ⟨⟨es, h1, fun p => (h2 p).trans ⟨fun ⟨x, hx, e⟩ => ⟨x, (he x).2 hx, e⟩, fun ⟨x, hx, e⟩ => ⟨x, (he x).1 hx, e⟩⟩⟩, fun x hx => h3 x ((he x).1 hx)⟩
theorem MapT.kept {w w' : World} {b n : Nat} {t : List R} {row : Option Nat} (h : MapT w b n t) (hg : w.grownBy w' row) (hne : some b ≠ row) : MapT w' b n t := by
  obtain ⟨⟨es, h1, h2⟩, h3⟩ := h
  exact ⟨⟨es, h1.kept hg hne, h2⟩, h3⟩
theorem MapT.mono {w : World} {b n n' : Nat} {t : List R} (h : MapT w b n t) (hn : n ≤ n') : MapT w b n' t := by
  obtain ⟨⟨es, h1, h2⟩, h3⟩ := h
  exact ⟨⟨es, h1.mono hn, h2⟩, h3⟩
theorem MapT.lt {w : World} {b n : Nat} {t : List R} (h : MapT w b n t) : b < w.heap.size := by
  obtain ⟨⟨es, h1, h2⟩, h3⟩ := h
  exact h1.lt
theorem below_grown {w w' : World} (h : Below w.heap.size w w') : w.grownBy w' none := ⟨h.os, h.tape, h.output, h.size, fun k hk _ => h.block k hk⟩
theorem MapT.below {w w' : World} {b n : Nat} {t : List R} (h : MapT w b n t) (hb : Below w.heap.size w w') : MapT w' b n t := h.kept (below_grown hb) (by simp)

theorem same_str {l m : List UInt8} : (Lit.string l).sameKey (.string m) = true ↔ l = m :=
  ⟨fun h => by have := WideAt.sameKey_eq h; cases this; rfl, fun h => by rw [h]; exact WideAt.sameKey_self trivial⟩
theorem kd_key {x : R} {q : ByteArray} : (kd x).1.sameKey (.string q.data.toList) = decide (x.p = q) := by
  rw [Bool.eq_iff_iff, kd, same_str, decide_eq_true_iff]
  exact ⟨bytes_eq, fun e => by rw [e]⟩
theorem MapT.put {w' : World} {b n : Nat} {es : List (Lit × DataW Unit)} {t : List R} (r : R) (hes : ∀ p, p ∈ es ↔ ∃ x ∈ t, p = kd x) (ht : ∀ x ∈ t, x.o = false) (hr : r.o = false)
    (ho : w'.ownsMap Tryz.prog 9 readN b n ((DataW.map es).put (.string r.p.data.toList) (nodD r))) : MapT w' b n (r :: t.filter fun x => decide (x.p ≠ r.p)) := by
  refine ⟨⟨_, ho, fun p => ?_⟩, fun x hx => ?_⟩
  · show p ∈ putKey _ _ es ↔ _
    unfold putKey
    rw [mem_insert_iff, List.mem_filter, hes]
    constructor
    · rintro (rfl | ⟨⟨x, hx, rfl⟩, hn⟩)
      · exact ⟨r, List.mem_cons_self, rfl⟩
      · refine ⟨x, List.mem_cons_of_mem _ (List.mem_filter.2 ⟨hx, ?_⟩), rfl⟩
        rw [notKey, kd_key] at hn
        simpa using hn
    · rintro ⟨x, hx, rfl⟩
      rcases List.mem_cons.1 hx with rfl | hx
      · exact .inl rfl
      · obtain ⟨h1, h2⟩ := List.mem_filter.1 hx
        refine .inr ⟨⟨x, h1, rfl⟩, ?_⟩
        rw [notKey, kd_key]
        simpa using h2
  · rcases List.mem_cons.1 hx with rfl | hx
    · exact hr
    · exact ht x (List.mem_filter.1 hx).1
theorem MapT.del {w' : World} {b n : Nat} {es : List (Lit × DataW Unit)} {t : List R} {q : ByteArray} (hes : ∀ p, p ∈ es ↔ ∃ x ∈ t, p = kd x) (ht : ∀ x ∈ t, x.o = false)
    (ho : w'.ownsMap Tryz.prog 9 readN b n ((DataW.map es).del (.string q.data.toList))) : MapT w' b n (t.filter fun x => decide (x.p ≠ q)) := by
  refine ⟨⟨_, ho, fun p => ?_⟩, fun x hx => ht x (List.mem_filter.1 hx).1⟩
  show p ∈ delKey _ es ↔ _
  unfold delKey
  rw [List.mem_filter, hes]
  constructor
  · rintro ⟨⟨x, hx, rfl⟩, hn⟩
    refine ⟨x, List.mem_filter.2 ⟨hx, ?_⟩, rfl⟩
    rw [notKey, kd_key] at hn
    simpa using hn
  · rintro ⟨x, hx, rfl⟩
    obtain ⟨h1, h2⟩ := List.mem_filter.1 hx
    refine ⟨⟨x, h1, rfl⟩, ?_⟩
    rw [notKey, kd_key]
    simpa using h2
/-- What a sweep asks of an entry. -/
def belowK (q : ByteArray) (kl : Lit) (_ : DataW Unit) : Bool := match kl with
  | .string l => isBelowB ⟨l.toArray⟩ q
  | _ => false
theorem belowK_kd (q : ByteArray) (x : R) : belowK q (kd x).1 (kd x).2 = isBelowB x.p q := rfl
theorem MapT.sweep {w' : World} {b n : Nat} {es : List (Lit × DataW Unit)} {t : List R} {q : ByteArray} (hes : ∀ p, p ∈ es ↔ ∃ x ∈ t, p = kd x) (ht : ∀ x ∈ t, x.o = false)
    (ho : w'.ownsMap Tryz.prog 9 readN b n (Lib.deleteFuncD (belowK q) (.map es))) : MapT w' b n (t.filter fun x => !isBelowB x.p q) := by
  refine ⟨⟨_, ho, fun p => ?_⟩, fun x hx => ht x (List.mem_filter.1 hx).1⟩
  rw [List.mem_filter, hes]
  constructor
  · rintro ⟨⟨x, hx, rfl⟩, hn⟩
    rw [belowK_kd] at hn
    exact ⟨x, List.mem_filter.2 ⟨hx, hn⟩, rfl⟩
  · rintro ⟨x, hx, rfl⟩
    obtain ⟨h1, h2⟩ := List.mem_filter.1 hx
    exact ⟨⟨x, h1, rfl⟩, by rw [belowK_kd]; exact h2⟩
end Go.Proofs.YtcbmnihepeefaaaGreatDoor.Recs

/- Trees as plain lists of nodes (records of which Opaque is false): the model's check, record by record, and what it says at once. -/
namespace Go.Proofs.YtcbmnihepeefaaaGreatDoor.Recs
open Go.RowKit Paths

/-- The parent of a path, where it is no root, stands among the first i and is a directory. -/
def homeOK (t : List R) (i : Nat) (q : ByteArray) : Bool :=
  if parentL q.data.toList = [] then true else decide (0 ≤ atL (t.take i) (parO q)) && (t[(atL (t.take i) (parO q)).toNat]?).all (fun x => decide (x.k = 3))
/-- The node r is fine at place i. -/
def nodeOK (t : List R) (i : Nat) (r : R) : Bool :=
  decide (r.k ≠ 4) && decide (r.fault = 0) && (beforeL t i).all (fun x => lessR x r) && homeOK t i r.p
def treeFrom (t : List R) (i : Nat) : Bool := if h : i < t.length then nodeOK t i t[i] && treeFrom t (i + 1) else true
termination_by t.length - i
def treeOK (t : List R) : Bool := decide (t.length ≤ 24) && treeFrom t 0
theorem treeFrom_step {t : List R} {i : Nat} (h : i < t.length) : treeFrom t i = (nodeOK t i t[i] && treeFrom t (i + 1)) := by rw [treeFrom, dif_pos h]
theorem treeFrom_end {t : List R} {i : Nat} (h : t.length ≤ i) : treeFrom t i = true := by rw [treeFrom, dif_neg (by omega)]
theorem treeFrom_all (t : List R) : ∀ (n i : Nat), t.length - i = n → (treeFrom t i = true ↔ ∀ j (h : j < t.length), i ≤ j → nodeOK t j t[j] = true) := by
  intro n
  induction n with
  | zero =>
    intro i hi
    rw [treeFrom_end (by omega)]
    exact ⟨fun _ j hj hij => by omega, fun _ => rfl⟩
  | succ n ih =>
    intro i hi
    have hlt : i < t.length := by omega
    rw [treeFrom_step hlt, Bool.and_eq_true, ih (i + 1) (by omega)]
    constructor
    · rintro ⟨h1, h2⟩ j hj hij
      rcases Nat.eq_or_lt_of_le hij with rfl | h3
      · exact h1
      · exact h2 j hj h3
    · intro h
      exact ⟨h i hlt (Nat.le_refl _), fun j hj hij => h j hj (by omega)⟩
theorem homeOK_yes {t : List R} {i : Nat} (hi : i ≤ t.length) {q : ByteArray} (h : homeOK t i q = true) (hp : parentL q.data.toList ≠ []) : ∃ k, ∃ hk : k < i, (t[k]'(by omega)).p = parO q ∧ (t[k]'(by omega)).k = 3 := by
  unfold homeOK at h
  rw [if_neg hp, Bool.and_eq_true, decide_eq_true_eq] at h
  rcases atL_cases (t.take i) (parO q) with ⟨h3, _⟩ | ⟨k, hk, h3, h4, _⟩
  · omega
  · have hki : k < i := by rw [List.length_take] at hk; omega
    refine ⟨k, hki, by simpa using h4, ?_⟩
    have h5 := h.2
    rw [h3, Int.toNat_natCast, List.getElem?_eq_getElem (by omega)] at h5
    simpa using h5
theorem nodeOK_parts {t : List R} {i : Nat} (hi : i < t.length) (h : nodeOK t i t[i] = true) :
    t[i].k ≠ 4 ∧ t[i].fault = 0 ∧ (∀ x, beforeL t i = some x → lessR x t[i] = true) ∧ (parentL t[i].p.data.toList ≠ [] → ∃ k, ∃ hk : k < i, (t[k]'(by omega)).p = parO t[i].p ∧ (t[k]'(by omega)).k = 3) := by
  unfold nodeOK at h
  simp only [Bool.and_eq_true, decide_eq_true_eq] at h
  obtain ⟨⟨⟨h1, h2⟩, h3⟩, h4⟩ := h
  refine ⟨h1, h2, fun x hx => ?_, homeOK_yes (by omega) h4⟩
  rw [hx] at h3
  simpa using h3
theorem nexts_sorted {t : List R} (h : ∀ i (hi : i + 1 < t.length), lessR (t[i]'(by omega)) t[i + 1] = true) : Sorted t := by
  have key : ∀ (n i j : Nat) (hj : j < t.length) (hij : j = i + 1 + n), lessR (t[i]'(by omega)) t[j] = true := by
    intro n
    induction n with
    | zero => intro i j hj hij; subst hij; exact h i hj
    | succ n ih =>
      intro i j hj hij
      subst hij
      exact lessP_trans _ _ _ (ih i (i + 1 + n) (by omega) rfl) (h (i + 1 + n) (by omega))
  unfold Sorted
  rw [List.pairwise_iff_getElem]
  exact fun i j _ hj hij => key (j - i - 1) i j hj (by omega)
theorem tree_of {t : List R} (h : treeOK t = true) : Tree t := by
  unfold treeOK at h
  rw [Bool.and_eq_true, decide_eq_true_eq] at h
  have hall := (treeFrom_all t _ 0 rfl).1 h.2
  have hp := fun i (hi : i < t.length) => nodeOK_parts hi (hall i hi (Nat.zero_le _))
  refine ⟨h.1, fun r hr => ?_, fun r hr => ?_, nexts_sorted fun i hi => ?_, fun r hr hpar => ?_⟩
  · obtain ⟨i, hi, rfl⟩ := List.getElem_of_mem hr
    exact (hp i hi).1
  · obtain ⟨i, hi, rfl⟩ := List.getElem_of_mem hr
    exact (hp i hi).2.1
  · refine (hp (i + 1) hi).2.2.1 _ ?_
    unfold beforeL
    rw [if_neg (by omega)]
    simp [show i < t.length by omega]
  · obtain ⟨i, hi, rfl⟩ := List.getElem_of_mem hr
    obtain ⟨k, hk, h1, h2⟩ := (hp i hi).2.2.2 hpar
    exact ⟨_, List.getElem_mem _, h1, h2⟩
theorem home_of {t : List R} (hs : Sorted t) (hh : Housed t) {i : Nat} (hi : i < t.length) (hpath : pathB t[i].p.data.toList = true) : homeOK t i t[i].p = true := by
  unfold homeOK
  by_cases hp : parentL t[i].p.data.toList = []
  · rw [if_pos hp]
  · rw [if_neg hp]
    obtain ⟨x, hx, hxp, hxk⟩ := hh _ (List.getElem_mem hi) hp
    obtain ⟨k, hk, rfl⟩ := List.getElem_of_mem hx
    have hki : k < i := by
      rcases Nat.lt_trichotomy k i with h1 | h1 | h1
      · exact h1
      · subst h1
        have h2 := parent_less hpath hp
        rw [← hxp, lessP_irrefl] at h2
        cases h2
      · have h2 := parent_less hpath hp
        have h3 := sorted_get hs hk h1
        unfold lessR at h3
        rw [hxp] at h3
        rw [lessP_asymm _ _ h2] at h3
        cases h3
    rcases atL_cases (t.take i) (parO t[i].p) with ⟨_, h2⟩ | ⟨j, hj, h1, h2, _⟩
    · exact absurd hxp (h2 _ (List.mem_take_iff_getElem.2 ⟨k, by omega, rfl⟩))
    · have hji : j < i := by rw [List.length_take] at hj; omega
      have h2' : (t[j]'(by omega)).p = parO t[i].p := by simpa using h2
      have ejk : j = k := sorted_once hs (by omega) hk (h2'.trans hxp.symm)
      subst ejk
      rw [h1]
      simp [show j < t.length by omega, hxk]
theorem treeOK_of {t : List R} (h : Tree t) : treeOK t = true := by
  unfold treeOK
  rw [Bool.and_eq_true, decide_eq_true_eq]
  refine ⟨h.len, (treeFrom_all t _ 0 rfl).2 fun i hi _ => ?_⟩
  have hm := List.getElem_mem hi
  have hf := h.fault _ hm
  unfold nodeOK
  simp only [Bool.and_eq_true, decide_eq_true_eq]
  refine ⟨⟨⟨h.kind _ hm, hf⟩, ?_⟩, home_of h.sorted h.housed hi (fault_path hf).1⟩
  cases hb : beforeL t i with
  | none => rfl
  | some x =>
    unfold beforeL at hb
    split at hb
    · cases hb
    · rw [List.getElem?_eq_getElem (show i - 1 < t.length by omega)] at hb
      cases hb
      exact sorted_get h.sorted hi (by omega)
end Go.Proofs.YtcbmnihepeefaaaGreatDoor.Recs

/- Resolving a path in a tree, part by part, and what comes out at once. -/
namespace Go.Proofs.YtcbmnihepeefaaaGreatDoor.Recs
open Go.RowKit Paths

def nparts (q : ByteArray) : Nat := (cutAt 47 q.data.toList).length
theorem pre_data (q : ByteArray) (i : Nat) : (pre q i).data.toList = Lib.join ((cutAt 47 q.data.toList).take (i + 1)) [47] := rfl
theorem nparts_pos (q : ByteArray) : 0 < nparts q := cutAt_pos 47 _
theorem pre_cut {q : ByteArray} (h : pathB q.data.toList = true) (i : Nat) : cutAt 47 (pre q i).data.toList = (cutAt 47 q.data.toList).take (i + 1) := by
  rw [pre_data]
  refine clean_of_all ?_ ?_
  · have := (pathB_parts h).2
    rw [List.all_eq_true] at this ⊢
    exact fun x hx => this x (List.mem_of_mem_take hx)
  · intro e
    have h1 := congrArg List.length e
    have h2 := nparts_pos q
    unfold nparts at h2
    rw [List.length_take, List.length_nil] at h1
    omega
theorem pre_path {q : ByteArray} (h : pathB q.data.toList = true) (i : Nat) : pathB (pre q i).data.toList = true := by
  unfold pathB
  rw [pre_cut h]
  obtain ⟨h1, h2⟩ := pathB_parts h
  simp only [Bool.and_eq_true, decide_eq_true_eq]
  refine ⟨by rw [List.length_take]; omega, ?_⟩
  rw [List.all_eq_true] at h2 ⊢
  exact fun x hx => h2 x (List.mem_of_mem_take hx)
theorem pre_last {q : ByteArray} (i : Nat) (hi : nparts q ≤ i + 1) : pre q i = q := by
  apply ByteArray.ext
  apply Array.toList_inj.1
  rw [pre_data, List.take_of_length_le hi, join_cut]
theorem pre_up {q : ByteArray} (h : pathB q.data.toList = true) {i j : Nat} (hij : i < j) (hj : j < nparts q) : pre q i ∈ ups (pre q j) := by
  rw [up_below (pre_path h j), pre_cut h, pre_cut h]
  unfold belowP
  unfold nparts at hj
  simp only [Bool.and_eq_true, decide_eq_true_eq, beq_iff_eq, List.length_take]
  refine ⟨by omega, ?_⟩
  rw [List.take_take]
  congr 1
  omega
theorem pre_ups {q : ByteArray} (h : pathB q.data.toList = true) {i : Nat} (hi : i + 1 < nparts q) : pre q i ∈ ups q := by
  have := pre_up h (i := i) (j := nparts q - 1) (by omega) (by omega)
  rwa [pre_last (nparts q - 1) (by omega)] at this
theorem ups_pre {q a : ByteArray} (h : pathB q.data.toList = true) (ha : a ∈ ups q) : ∃ i, i + 1 < nparts q ∧ a = pre q i := by
  have hp := ups_path h a ha
  rw [up_below h] at ha
  unfold belowP at ha
  simp only [Bool.and_eq_true, decide_eq_true_eq, beq_iff_eq] at ha
  have h1 := nparts_pos a
  unfold nparts at h1 ⊢
  refine ⟨(cutAt 47 a.data.toList).length - 1, by omega, bytes_cut ?_⟩
  rw [pre_cut h, Nat.sub_add_cancel h1]
  exact ha.2.symm

/-- Resolving, from the i-th part on: the node, or the code. -/
def findFrom (t : List R) (q : ByteArray) (i : Nat) : R × Int :=
  if i < nparts q then
    (if atL t (pre q i) < 0 then (⟨0, 0, ByteArray.empty, ByteArray.empty, false⟩, 5)
     else if i + 1 = nparts q then ((t[(atL t (pre q i)).toNat]?).getD ⟨0, 0, ByteArray.empty, ByteArray.empty, false⟩, 0)
     else if (t[(atL t (pre q i)).toNat]?).any (fun x => decide (x.k ≠ 3)) then (⟨0, 0, ByteArray.empty, ByteArray.empty, false⟩, 13) else findFrom t q (i + 1))
  else (⟨0, 0, ByteArray.empty, ByteArray.empty, false⟩, 5)
termination_by nparts q - i
/-- What is in the way of a path: one above it that is no directory. -/
def blocked (t : List R) (q : ByteArray) : Bool := (ups q).any fun a => (recAt t a).any fun x => decide (x.k ≠ 3)
def findT (t : List R) (q : ByteArray) : R × Int := match recAt t q with
  | some r => (r, 0)
  | none => (⟨0, 0, ByteArray.empty, ByteArray.empty, false⟩, if blocked t q then 13 else 5)
theorem blocked_iff {t : List R} {q : ByteArray} : blocked t q = true ↔ ∃ a ∈ ups q, ∃ r, recAt t a = some r ∧ r.k ≠ 3 := by
  unfold blocked
  rw [List.any_eq_true]
  constructor
  · rintro ⟨a, ha, h⟩
    cases hr : recAt t a with
    | none => rw [hr] at h; cases h
    | some r => rw [hr] at h; exact ⟨a, ha, r, hr, by simpa using h⟩
  · rintro ⟨a, ha, r, hr, hk⟩
    exact ⟨a, ha, by rw [hr]; simpa using hk⟩
theorem dir_up {t : List R} (ht : IsTree t) {q : ByteArray} {r : R} (hr : recAt t q = some r) {a : ByteArray} (ha : a ∈ ups q) : ∃ x, recAt t a = some x ∧ x.k = 3 := by
  obtain ⟨hm, rfl⟩ := recAt_mem hr
  obtain ⟨n, hn, rfl, hk⟩ := housed_ups ht.housed (ht.path r hm) r hm rfl a ha
  exact ⟨n, recAt_of ht.sorted hn, hk⟩
theorem find_closed {t : List R} (ht : IsTree t) {q : ByteArray} (h : pathB q.data.toList = true) : ∀ (n i : Nat), nparts q - i = n → i < nparts q → (∀ j, j < i → ∃ r, recAt t (pre q j) = some r ∧ r.k = 3) → findFrom t q i = findT t q := by
  intro n
  induction n with
  | zero => intro i hi hlt _; omega
  | succ n ih =>
    intro i hi hlt hdir
    rw [findFrom, if_pos hlt]
    rcases atL_recAt t (pre q i) with ⟨h1, h2⟩ | ⟨k, hk, h1, h2⟩
    · rw [h1, if_pos (by decide)]
      have hq : recAt t q = none := by
        cases hr : recAt t q with
        | none => rfl
        | some r =>
          by_cases hl : i + 1 < nparts q
          · obtain ⟨x, hx, _⟩ := dir_up ht hr (pre_ups h hl)
            rw [h2] at hx; cases hx
          · rw [pre_last i (by omega)] at h2
            rw [h2] at hr; cases hr
      have hb : blocked t q = false := by
        rw [Bool.eq_false_iff]
        intro hb
        obtain ⟨a, ha, r, hr, hk⟩ := blocked_iff.1 hb
        obtain ⟨j, hj, rfl⟩ := ups_pre h ha
        rcases Nat.lt_trichotomy j i with h3 | h3 | h3
        · obtain ⟨x, hx, hxk⟩ := hdir j h3
          rw [hr] at hx; cases hx; exact hk hxk
        · subst h3; rw [h2] at hr; cases hr
        · obtain ⟨x, hx, _⟩ := dir_up ht hr (pre_up h h3 (by omega))
          rw [h2] at hx; cases hx
      unfold findT
      rw [hq, hb]
      rfl
    · rw [h1, if_neg (by omega), Int.toNat_natCast, List.getElem?_eq_getElem hk]
      by_cases hl : i + 1 = nparts q
      · rw [if_pos hl]
        rw [pre_last i (by omega)] at h2
        unfold findT
        rw [h2]
        rfl
      · rw [if_neg hl]
        by_cases h3 : t[k].k = 3
        · rw [if_neg (by simpa using h3)]
          refine ih (i + 1) (by omega) (by omega) fun j hj => ?_
          rcases Nat.lt_or_ge j i with h4 | h4
          · exact hdir j h4
          · obtain rfl : j = i := by omega
            exact ⟨_, h2, h3⟩
        · rw [if_pos (by simpa using h3)]
          have hup := pre_ups h (i := i) (by omega)
          have hq : recAt t q = none := by
            cases hr : recAt t q with
            | none => rfl
            | some r =>
              obtain ⟨x, hx, hxk⟩ := dir_up ht hr hup
              rw [h2] at hx; cases hx; exact absurd hxk h3
          unfold findT
          rw [hq, blocked_iff.2 ⟨_, hup, _, h2, h3⟩]
          rfl
/-- Resolving part by part comes to this. -/
theorem find_is {t : List R} (ht : IsTree t) {q : ByteArray} (h : pathB q.data.toList = true) : findFrom t q 0 = findT t q :=
  find_closed ht h _ 0 rfl (nparts_pos q) (fun j hj => by omega)
end Go.Proofs.YtcbmnihepeefaaaGreatDoor.Recs
