/- Parts of several texts of mine in one file (each begins with its own remark). -/
import Derived.Test.YtcbmnihepeefaaaGreatDoorCA1
import Derived.Test.YtcbmnihepeefaaaGreatDoorCA2
import Derived.Test.YtcbmnihepeefaaaGreatDoorCA3
import Derived.Test.YtcbmnihepeefaaaGreatDoorCA4
import Derived.Test.YtcbmnihepeefaaaGreatDoorCA5
import Derived.Test.YtcbmnihepeefaaaGreatDoorCA6
import Derived.Test.YtcbmnihepeefaaaGreatDoorCA7
import Derived.Test.YtcbmnihepeefaaaGreatDoorCA9
import Derived.Test.YtcbmnihepeefaaaGreatDoorChecked
import Derived.Test.YtcbmnihepeefaaaGreatDoorShelf
import Derived.StillTailTactics
import Derived.Laws.OwnMore
import Derived.BigQuiet
import Derived.BigRegion
import Derived.Deep.QuietTactic
import Derived.Deep.RegionHeld3
import Derived.Deep.Slices
import Derived.OpenShut
import Derived.ShutString
import Derived.ChangeArms
import Derived.WideShapes
import Derived.Lib.LaidTab
import Derived.Deep.Draws
import Derived.Deep.LoopGhost
import Derived.WalkKit
import Derived.WalkSpells
import Derived.WalkSmall
import Derived.Lib.OthersKept
import Derived.Lib.Hide
import Derived.Lib.Strings
import Derived.Lib.Join
import Derived.Laws.BytesArg
import Derived.WalkLawsBesides
/- The laws' own copy of a slice of records, its size, its comparison. -/
namespace Go.Proofs.YtcbmnihepeefaaaGreatDoor.Recs
set_option maxRecDepth 100000
open Go.RowKit Paths

def zR : R := ⟨0, 0, ByteArray.empty, ByteArray.empty, false⟩
end Go.Proofs.YtcbmnihepeefaaaGreatDoor.Recs

/- Layers as plain lists of records: in a layer the paths increase, so each path is there once; a parent that is no root stands before its record, and is a directory; how far up one can go. -/
namespace Go.Proofs.YtcbmnihepeefaaaGreatDoor.Recs
open Go.RowKit Paths

/-- Any bound that reaches the parts serves. -/
theorem underF_more (l : List R) : ∀ (n : Nat) (q : ByteArray), pathB q.data.toList = true → (cutAt 47 q.data.toList).length ≤ n → ∀ m, n ≤ m → underF m l q = underF n l q := by
  intro n
  induction n with
  | zero =>
    intro q _ hl
    exact absurd (List.eq_nil_of_length_eq_zero (show (cutAt 47 q.data.toList).length = 0 by omega)) (cutAt_ne 47 _)
  | succ n ih =>
    intro q hq hl m hm
    obtain ⟨m', rfl⟩ : ∃ m', m = m' + 1 := ⟨m - 1, by omega⟩
    simp only [underF]
    by_cases hp : parentL q.data.toList = []
    · rw [if_pos hp, if_pos hp]
    · obtain ⟨h1, h2⟩ := parts_parent hq hp
      rw [if_neg hp, if_neg hp, ih (parO q) h1 (by omega) m' (by omega)]
theorem underL_step (l : List R) {q : ByteArray} (h : pathB q.data.toList = true) : underL l q = if parentL q.data.toList = [] then false else opaqueAt l (parO q) || underL l (parO q) := by
  have e : underL l q = if parentL q.data.toList = [] then false else opaqueAt l (parO q) || underF 3 l (parO q) := rfl
  by_cases hp : parentL q.data.toList = []
  · rw [e, if_pos hp, if_pos hp]
  · obtain ⟨h1, h2⟩ := parts_parent h hp
    have h3 := (pathB_parts h).1
    have h4 : underL l (parO q) = underF 3 l (parO q) := underF_more l 3 (parO q) h1 (by omega) 4 (by omega)
    rw [e, if_neg hp, if_neg hp, h4]
end Go.Proofs.YtcbmnihepeefaaaGreatDoor.Recs

/- Layers as plain lists of records: when a list is a layer; the records of a canonical form; it is a layer. -/
namespace Go.Proofs.YtcbmnihepeefaaaGreatDoor.Recs
open Go.RowKit Paths

/-! ### The canonical form -/
theorem canonR_path {l : List R} {r x : R} (h : canonR l r = some x) : x.p = r.p ∧ x.k = r.k ∧ x.b = r.b ∧ x.m = r.m ∧ (x.o = true → r.o = true) := by
  unfold canonR at h
  split at h
  · split at h
    · cases h
    · cases h; exact ⟨rfl, rfl, rfl, rfl, fun h => by cases h⟩
  · cases h; exact ⟨rfl, rfl, rfl, rfl, fun h => by simp at h; exact h.1⟩
theorem canonR_dir {l : List R} {r : R} (h : r.k = 3) : ∃ x, canonR l r = some x := by
  unfold canonR
  split
  · rw [if_neg (by omega)]; exact ⟨_, rfl⟩
  · exact ⟨_, rfl⟩
theorem canonR_fault {l : List R} {r x : R} (h : canonR l r = some x) (hr : r.fault = 0) : x.fault = 0 := by
  obtain ⟨h1, h2, h3, h4, h5⟩ := canonR_path h
  unfold R.fault at hr ⊢
  rw [h1, h2, h3, h4]
  cases hx : x.o with
  | true => rw [h5 hx] at hr; exact hr
  | false =>
    cases ho : r.o with
    | false => rw [ho] at hr; exact hr
    | true =>
      rw [ho] at hr
      unfold faultI at hr ⊢
      split at hr
      · cases hr
      split at hr
      · cases hr
      split at hr
      · cases hr
      split at hr
      · cases hr
      split at hr
      · cases hr
      rename_i a1 a2 a3 a4 a5
      rw [if_neg a1, if_neg a2, if_neg a3, if_neg (by simp only [Bool.false_eq_true, false_and, or_false]; omega), if_neg a5]
theorem mem_canon {l : List R} {x : R} : x ∈ canonL l ↔ ∃ r ∈ l, canonR l r = some x := by
  unfold canonL
  rw [List.mem_filterMap]
theorem canon_sorted {l : List R} (h : Sorted l) : Sorted (canonL l) := by
  unfold Sorted canonL
  rw [List.pairwise_filterMap]
  refine List.Pairwise.imp (fun {a b} hab x hx y hy => ?_) h
  unfold lessR at hab ⊢
  rw [(canonR_path hx).1, (canonR_path hy).1]
  exact hab
end Go.Proofs.YtcbmnihepeefaaaGreatDoor.Recs

/- Layers as plain lists of records: the canonical form is canonical; what is above a path, as a list; what a layer cuts off. -/
namespace Go.Proofs.YtcbmnihepeefaaaGreatDoor.Recs
open Go.RowKit Paths

theorem opaqueAt_eq (l : List R) (q : ByteArray) : opaqueAt l q = (recAt l q).any (fun x => x.o) := by
  unfold opaqueAt
  rcases atL_recAt l q with ⟨h1, h2⟩ | ⟨i, hi, h1, h2⟩
  · rw [h1, h2]; rfl
  · rw [h1, h2]
    simp [hi]

theorem underF_any (l : List R) : ∀ (n : Nat) (q : ByteArray), underF n l q = (upF n q).any (opaqueAt l)
  | 0, _ => rfl
  | n + 1, q => by
    simp only [underF, upF]
    by_cases hp : parentL q.data.toList = []
    · rw [if_pos hp, if_pos hp]; rfl
    · rw [if_neg hp, if_neg hp, underF_any l n, List.any_cons]
theorem underL_any (l : List R) (q : ByteArray) : underL l q = (ups q).any (opaqueAt l) := underF_any l 4 q
theorem under_cuts {l : List R} {q : ByteArray} (h : underL l q = true) : cutsL l q = true := by
  rw [underL_any, List.any_eq_true] at h
  obtain ⟨a, ha, hb⟩ := h
  unfold cutsL
  rw [List.any_eq_true]
  refine ⟨a, ha, ?_⟩
  rw [opaqueAt_eq] at hb
  unfold stopsAt
  cases hr : recAt l a with
  | none => rw [hr] at hb; cases hb
  | some r => rw [hr] at hb; simp at hb; simp [stops, hb]

theorem canon_recAt {l : List R} (h : Sorted l) (q : ByteArray) : recAt (canonL l) q = (recAt l q).bind (canonR l) := by
  cases hr : recAt l q with
  | none =>
    cases hc : recAt (canonL l) q with
    | none => rfl
    | some x =>
      obtain ⟨h1, h2⟩ := recAt_mem hc
      obtain ⟨r, hm, he⟩ := mem_canon.1 h1
      exact absurd ((canonR_path he).1.symm.trans h2) (recAt_none hr r hm)
  | some r =>
    obtain ⟨h1, h2⟩ := recAt_mem hr
    show _ = canonR l r
    cases he : canonR l r with
    | none =>
      cases hc : recAt (canonL l) q with
      | none => rfl
      | some x =>
        obtain ⟨h3, h4⟩ := recAt_mem hc
        obtain ⟨y, hm, hy⟩ := mem_canon.1 h3
        have e := sorted_mem_once h hm h1 ((canonR_path hy).1.symm.trans (h4.trans h2.symm))
        subst e
        rw [he] at hy
        cases hy
    | some x =>
      have hx := mem_canon.2 ⟨r, h1, he⟩
      have e := recAt_of (canon_sorted h) hx
      rw [(canonR_path he).1, h2] at e
      exact e
theorem canon_opaque_le {l : List R} (h : Sorted l) {q : ByteArray} (ho : opaqueAt (canonL l) q = true) : opaqueAt l q = true := by
  rw [opaqueAt_eq, canon_recAt h] at ho
  rw [opaqueAt_eq]
  cases hr : recAt l q with
  | none => rw [hr] at ho; cases ho
  | some r =>
    rw [hr] at ho
    have ho' : (canonR l r).any (fun x => x.o) = true := ho
    cases he : canonR l r with
    | none => rw [he] at ho'; cases ho'
    | some x =>
      rw [he] at ho'
      simp at ho'
      simpa using (canonR_path he).2.2.2.2 ho'
theorem canon_under_le {l : List R} (h : Sorted l) {q : ByteArray} (ho : underL (canonL l) q = true) : underL l q = true := by
  rw [underL_any, List.any_eq_true] at ho ⊢
  obtain ⟨a, ha, hb⟩ := ho
  exact ⟨a, ha, canon_opaque_le h hb⟩
/-- The canonical form is canonical. -/
theorem canon_idem {l : List R} (h : Sorted l) : canonL (canonL l) = canonL l := by
  have hall : ∀ x ∈ canonL l, canonR (canonL l) x = some x := by
    intro x hx
    obtain ⟨r, hm, he⟩ := mem_canon.1 hx
    have hp := (canonR_path he).1
    have he' := he
    unfold canonR at he'
    by_cases hu : underL l r.p = true
    · rw [if_pos hu] at he'
      split at he'
      · cases he'
      · rename_i hk
        cases he'
        unfold canonR
        split
        · first | rfl | rw [if_neg hk]
        · simp
    · rw [if_neg hu] at he'
      cases he'
      unfold canonR
      rw [if_neg (fun hc => hu (canon_under_le h hc))]
      simp
  have hid : ∀ (c : List R) (f : R → Option R), (∀ x ∈ c, f x = some x) → c.filterMap f = c := by
    intro c f
    induction c with
    | nil => intro _; rfl
    | cons a t ih =>
      intro ha
      rw [List.filterMap_cons, ha a (by simp)]
      simp only
      rw [ih (fun x hx => ha x (by simp [hx]))]
  exact hid _ _ hall
end Go.Proofs.YtcbmnihepeefaaaGreatDoor.Recs

/- Applying layers, plain: the result is a tree; applying again changes nothing; the canonical form has the same effect on every tree. -/
namespace Go.Proofs.YtcbmnihepeefaaaGreatDoor.Recs
open Go.RowKit Paths

theorem cuts_get {l : List R} {q : ByteArray} (h : cutsL l q = true) : ∃ c ∈ ups q, ∃ r, recAt l c = some r ∧ stops r = true := by
  unfold cutsL at h
  rw [List.any_eq_true] at h
  obtain ⟨c, hc, hs⟩ := h
  unfold stopsAt at hs
  cases hr : recAt l c with
  | none => rw [hr] at hs; cases hs
  | some r => rw [hr] at hs; exact ⟨c, hc, r, hr, by simpa using hs⟩
theorem parts_up {q : ByteArray} (h : pathB q.data.toList = true) : ∀ a ∈ ups q, (cutAt 47 a.data.toList).length < (cutAt 47 q.data.toList).length := by
  refine path_ind (P := fun q => ∀ a ∈ ups q, (cutAt 47 a.data.toList).length < (cutAt 47 q.data.toList).length) ?_ ?_ q h
  · intro q hq hp a ha
    rw [ups_step hq, if_pos hp] at ha
    cases ha
  · intro q hq hp h1 ih a ha
    rw [ups_step hq, if_neg hp] at ha
    obtain ⟨_, h2⟩ := parts_parent hq hp
    rcases List.mem_cons.1 ha with rfl | ha
    · omega
    · have := ih a ha; omega
/-- A record that is not under an opaque directory, and has something below it, stops in the canonical form as it did. -/
theorem canonR_stops {l : List R} {r : R} (hu : underL l r.p = false) (hlen : (cutAt 47 r.p.data.toList).length < 4) : ∃ x, canonR l r = some x ∧ stops x = stops r := by
  refine ⟨{ r with o := r.o && decide ((cutAt 47 r.p.data.toList).length < 4) }, ?_, ?_⟩
  · unfold canonR
    rw [if_neg (by rw [hu]; decide)]
  · unfold stops
    simp [hlen]
theorem under_canon {l : List R} (hs : Sorted l) {q : ByteArray} (h : pathB q.data.toList = true) : underL l q = true → cutsL (canonL l) q = true := by
  refine path_ind (P := fun q => underL l q = true → cutsL (canonL l) q = true) ?_ ?_ q h
  · intro q hq hp hu
    rw [underL_step l hq, if_pos hp] at hu
    cases hu
  · intro q hq hp h1 ih hu
    have hup := parent_up hq hp
    rw [underL_step l hq, if_neg hp, Bool.or_eq_true] at hu
    rcases Bool.eq_false_or_eq_true (underL l (parO q)) with h2 | h2
    · exact cuts_up hq hup (ih h2)
    · rcases hu with hu | hu
      · rw [opaqueAt_eq] at hu
        cases hr : recAt l (parO q) with
        | none => rw [hr] at hu; cases hu
        | some r =>
          rw [hr] at hu
          have ho : r.o = true := by simpa using hu
          obtain ⟨_, hrp⟩ := recAt_mem hr
          have h3 := parts_up hq _ hup
          have h4 := (pathB_parts hq).1
          obtain ⟨x, hx, hxs⟩ := canonR_stops (l := l) (r := r) (by rw [hrp]; exact h2) (by rw [hrp]; omega)
          refine cuts_at hup (r := x) (by rw [canon_recAt hs, hr]; exact hx) ?_
          rw [hxs]
          simp [stops, ho]
      · rw [h2] at hu; cases hu
theorem canon_cuts {l : List R} (hs : Sorted l) {q : ByteArray} (h : pathB q.data.toList = true) : cutsL (canonL l) q = cutsL l q := by
  rw [Bool.eq_iff_iff]
  constructor
  · intro hc
    obtain ⟨c, hcu, x, hx, hst⟩ := cuts_get hc
    rw [canon_recAt hs] at hx
    cases hr : recAt l c with
    | none => rw [hr] at hx; cases hx
    | some r =>
      rw [hr] at hx
      obtain ⟨_, h2, _, _, h5⟩ := canonR_path (show canonR l r = some x from hx)
      refine cuts_at hcu hr ?_
      unfold stops at hst ⊢
      rw [h2] at hst
      simp only [Bool.or_eq_true] at hst ⊢
      rcases hst with hst | hst
      · exact .inl hst
      · exact .inr (h5 hst)
  · intro hc
    obtain ⟨c, hcu, r, hr, hst⟩ := cuts_get hc
    obtain ⟨_, hrp⟩ := recAt_mem hr
    have hcp := ups_path h c hcu
    rcases Bool.eq_false_or_eq_true (underL l c) with h2 | h2
    · exact cuts_up h hcu (under_canon hs hcp h2)
    · have h3 := parts_up h _ hcu
      have h4 := (pathB_parts h).1
      obtain ⟨x, hx, hxs⟩ := canonR_stops (l := l) (r := r) (by rw [hrp]; exact h2) (by rw [hrp]; omega)
      exact cuts_at hcu (r := x) (by rw [canon_recAt hs, hr]; exact hx) (by rw [hxs]; exact hst)
theorem canon_path {l : List R} (hp : ∀ x ∈ l, pathB x.p.data.toList = true) : ∀ x ∈ canonL l, pathB x.p.data.toList = true := by
  intro x hx
  obtain ⟨r, hr, he⟩ := mem_canon.1 hx
  rw [(canonR_path he).1]
  exact hp r hr
theorem nodeOf_canon {l : List R} {r x : R} (h : canonR l r = some x) : nodeOf x = nodeOf r := by
  obtain ⟨h1, h2, h3, h4, _⟩ := canonR_path h
  unfold nodeOf
  rw [h1, h2, h3, h4]
/-- (b) The canonical form has the same effect on every tree. -/
theorem apply_canon {l t : List R} (hs : Sorted l) (hp : ∀ x ∈ l, pathB x.p.data.toList = true) (ht : IsTree t) : applyL (canonL l) t = applyL l t := by
  refine sorted_ext _ _ (apply_sorted _ ht.sorted) (apply_sorted _ ht.sorted) fun x => ?_
  rw [mem_apply ht _ (canon_sorted hs) (canon_path hp), mem_apply ht _ hs hp]
  constructor
  · rintro (⟨y, hy, hk, rfl⟩ | ⟨h1, h2, h3⟩)
    · obtain ⟨r, hr, he⟩ := mem_canon.1 hy
      exact .inl ⟨r, hr, by rw [← (canonR_path he).2.1]; exact hk, nodeOf_canon he⟩
    · have hxp := ht.path x h1
      rw [canon_cuts hs hxp] at h3
      refine .inr ⟨h1, ?_, h3⟩
      rw [canon_recAt hs] at h2
      cases hr : recAt l x.p with
      | none => rfl
      | some r =>
        rw [hr] at h2
        have h2' : canonR l r = none := h2
        obtain ⟨_, hrp⟩ := recAt_mem hr
        unfold canonR at h2'
        split at h2'
        · rename_i hu
          rw [hrp] at hu
          rw [under_cuts hu] at h3
          cases h3
        · cases h2'
  · rintro (⟨r, hr, hk, rfl⟩ | ⟨h1, h2, h3⟩)
    · have he : ∃ y, canonR l r = some y := by
        unfold canonR
        split
        · exact ⟨_, rfl⟩
        · exact ⟨_, rfl⟩
      obtain ⟨y, hy⟩ := he
      exact .inl ⟨y, mem_canon.2 ⟨r, hr, hy⟩, by rw [(canonR_path hy).2.1]; exact hk, (nodeOf_canon hy).symm⟩
    · refine .inr ⟨h1, ?_, by rw [canon_cuts hs (ht.path x h1)]; exact h3⟩
      rw [canon_recAt hs, h2]
      rfl
end Go.Proofs.YtcbmnihepeefaaaGreatDoor.Recs

/- Layers: the first fault of one, of the model. -/
namespace Go.Proofs.YtcbmnihepeefaaaGreatDoor.Recs
set_option maxRecDepth 100000
open Go.RowKit Paths

theorem codeUp_root {l : List R} {i : Nat} {r : R} (h : parentL r.p.data.toList = []) : codeUp l i r = 0 := if_pos h
theorem codeUp_orphan {l : List R} {i : Nat} {r : R} (h : parentL r.p.data.toList ≠ []) (ha : atL (l.take i) (parO r.p) < 0) : codeUp l i r = 12 := by
  unfold codeUp; rw [if_neg h, if_pos ha]
theorem codeUp_in {l : List R} {i j : Nat} {r : R} (h : parentL r.p.data.toList ≠ []) (hj : j < l.length) (ha : atL (l.take i) (parO r.p) = (j : Int)) : codeUp l i r = if l[j].k ≠ 3 then 13 else 0 := by
  unfold codeUp; rw [if_neg h, if_neg (by omega), ha, Int.toNat_natCast, List.getElem?_eq_getElem hj]; simp
theorem ret_pair {x : Int × Int} {a b : Int} (h : x = (a, b)) : Ending.returned (.tuple #[.int .i64 a, .int .i64 b]) = .returned (.tuple #[.int .i64 x.1, .int .i64 x.2]) := by rw [h]

set_option maxHeartbeats 1600000 in
theorem l03Fault_any (v : Value) (l : List R) (w : World) (h : RecSl w v l) (hl : l.length ≤ 1048576) :
    Calls Tryz.prog 134 #[v] w fun e w' => e = .returned (.tuple #[.int .i64 (layerFaultL l).1, .int .i64 (layerFaultL l).2]) ∧ Below w.heap.size w w' := by
  have hsl := h
  obtain ⟨A, cap, rfl, hcap, h⟩ := h
  have HSl := Lib.hid hsl
  have H := Lib.hid h
  clear h hsl
  go_enter Tryz.func134, Tryz.ntmps134
  go_wp2
  go_loopw [4] (fun i wr => ∃ k : Nat, k ≤ l.length ∧ i = .int .i64 k ∧ Hid (layerFaultL l = faultFrom l k) ∧ Hid (∀ j (h : j < l.length), j < k → codeAt l j l[j] = 0) ∧ Below w.heap.size w wr) (fun i _ => l.length - (intOf i).toNat)
  case atStart => exact ⟨0, by omega, rfl, rfl, fun j h hj => by omega, Below.refl _ _⟩
  case round =>
    obtain ⟨k, hk, rfl, HK, HC, hbw⟩ := hrel
    by_cases hlt : k < l.length
    · obtain ⟨b, off, rfl, hb, hcell⟩ := H.out (by omega)
      obtain ⟨c0, c1, c2, c3, c4⟩ := (hcell k l[k] (by simp [hlt])).below hbw hb
      have hi1 : (k : Int) < (l.length : Int) := by omega
      have hi0 : (0 : Int) ≤ (k : Int) := by omega
      by_cases h16 : k = 16
      · subst h16
        have HE : Hid (layerFaultL l = (16, 6)) := by show _ = _; rw [HK.out, faultFrom_bad hlt (by rw [code_many]; decide), code_many]; rfl
        go_wp2
        go_ret2
        exact ⟨ret_pair HE.out, hbw⟩
      have hd16 : ((k : Int) == 16) = false := by simp; omega
      have hlbw := Nat.lt_of_lt_of_le hb hbw.size
      by_cases hf : l[k].fault = 0
      · have hd : (faultI l[k].k l[k].p.data.toList l[k].b.size l[k].m l[k].o != 0) = false := by have h := hf; unfold R.fault at h; simpa using h
        go_wp2_with fail
        refine (l02Fault_any _ _ _ _ _ _).mono ?_
        rintro e w1 ⟨rfl, hb1⟩
        have HR := Lib.hid (hcell k l[k] (by simp [hlt]))
        have hbw1 := hbw.trans (hb1.mono hbw.size)
        clear c0 c1 c2 c3 c4
        obtain ⟨c0, c1, c2, c3, c4⟩ := HR.out.below hbw1 hb
        have hP := (fault_path hf).1
        cases k with
        | zero =>
          go_wp2_with fail
          go_quiet (fail)
          have hbw2 := below_drewN hbw1 nq
          generalize w1.drewN nq = W2 at *
          go_wp2_with fail
          go_quiet (fail)
          have hbw3 := below_drewN hbw2 nq
          clear c0 c1 c2 c3 c4
          obtain ⟨c0, c1, c2, c3, c4⟩ := HR.out.below hbw3 hb
          generalize W2.drewN nq = W3 at *
          go_wp2_with fail
          have HU : Hid (codeAt l 0 l[0] = codeUp l 0 l[0]) := code_up h16 hf rfl rfl
          refine (l01Parent_any _ _ (by have := path_short hP; unfold maxLen; omega)).mono ?_
          rintro e w5 ⟨rfl, rfl⟩
          by_cases hpar : parentL l[0].p.data.toList = []
          · have HN : Hid (codeAt l (0) l[0] = 0) := by show _ = _; rw [HU.out, codeUp_root hpar]
            have HF := Lib.hid (HK.out.trans (faultFrom_good hlt HN.out))
            have hemp : (parentL l[0].p.data.toList).isEmpty = true := by rw [hpar]; rfl
            unfold strV
            go_wp2_with fail
            exact ⟨⟨0 + 1, by omega, by go_num, HF, all_next HC.out hlt HN.out, hbw3⟩, by simp [intOf]; omega⟩
          · have hemp : (parentL l[0].p.data.toList).isEmpty = false := by simpa using hpar
            have hslr := (HSl.out.below hbw3).take (k := 0) (by omega)
            unfold strV
            go_wp2_with fail
            refine (l03At_any _ (l.take (0)) _ _ (by exact hslr) (by rw [List.length_take]; omega)).mono ?_
            rintro e w6 ⟨rfl, rfl⟩
            rcases atL_cases (l.take (0)) (parO l[0].p) with ⟨ha, _⟩ | ⟨j, hj, ha, _⟩
            · have HE : Hid (layerFaultL l = (((0 : Nat) : Int), 12)) := by
                have hc := HU.out.trans (codeUp_orphan hpar (by rw [ha]; decide))
                show _ = _
                rw [HK.out, faultFrom_bad hlt (by rw [hc]; decide), hc]
              have ha' : atL (l.take (0)) ⟨(parentL l[0].p.data.toList).toArray⟩ = -1 := ha
              rw [ha']
              go_wp2_with fail
              go_ret2
              exact ⟨ret_pair HE.out, hbw3⟩
            · rw [List.length_take] at hj
              omega
        | succ k =>
          obtain ⟨d0, d1, d2, d3, d4⟩ := (hcell k (l[k]'(by omega)) (by simp)).below hbw1 hb
          have hd0 : decide ((0 : Int) < ((k + 1 : Nat) : Int)) = true := by simp
          have e1 : ((k + 1 : Nat) : Int) - 1 = (k : Int) := by omega
          rcases Bool.eq_false_or_eq_true (l[k + 1].p.toList == l[k].p.toList) with he | he
          · have HE : Hid (layerFaultL l = (((k + 1 : Nat) : Int), 18)) := by
              have hc := code_same (l := l) h16 hf (by rw [beforeL_pos hlt]; simpa using (str_eq_of he).symm)
              show _ = _
              rw [HK.out, faultFrom_bad hlt (by rw [hc]; decide), hc]
            go_wp2_with fail
            go_quiet (fail)
            go_wp2_with fail
            go_ret2
            exact ⟨ret_pair HE.out, below_drewN hbw1 _⟩
          · go_wp2_with fail
            go_quiet (fail)
            go_wp2_with fail
            have hbw2 := below_drewN hbw1 nq
            clear c0 c1 c2 c3 c4 d0 d1 d2 d3 d4
            obtain ⟨c0, c1, c2, c3, c4⟩ := HR.out.below hbw2 hb
            obtain ⟨d0, d1, d2, d3, d4⟩ := (hcell k (l[k]'(by omega)) (by simp)).below hbw2 hb
            generalize w1.drewN nq = W2 at *
            have hsame : (beforeL l (k + 1)).any (fun x => x.p = l[k + 1].p) = false := by
              rw [beforeL_pos hlt]
              simp only [Option.any_some, decide_eq_false_iff_not]
              intro e
              rw [e] at he
              simp at he
            have hlt2 := Nat.lt_of_lt_of_le hb hbw2.size
            have hs1 := path_short hP
            have hs2 := path_short (fault_path (codeAt_zero (HC.out k (by omega) (by omega))).2).1
            have i1 : (0 : Int) ≤ (k : Int) + 1 := by omega
            have i2 : (k : Int) + 1 < (l.length : Int) := by omega
            have i3 : (0 : Int) ≤ (k : Int) := by omega
            have i4 : (k : Int) < (l.length : Int) := by omega
            have hw : IntKind.i64.wrap (k : Int) = (k : Int) := by simp [IntKind.wrap, IntKind.bits, IntKind.signed]; omega
            rcases Bool.eq_false_or_eq_true (lessP (cutAt 47 l[k].p.data.toList) (cutAt 47 l[k + 1].p.data.toList)) with hless | hless
            · go_region_held3 (fun w' => w'.cell? ⟨b, off + k * 5 + 1, none⟩ = some (.string l[k].p) ∧ w'.cell? ⟨b, off + (k + 1) * 5 + 1, none⟩ = some (.string l[k + 1].p)) (first | exact ⟨d1, c1⟩ | exact ⟨(hb3.cell (p := ⟨b, off + k * 5 + 1, none⟩) hlt2).trans d1, (hb3.cell (p := ⟨b, off + (k + 1) * 5 + 1, none⟩) hlt2).trans c1⟩ | go_keep) (first | (go_at_call 175; refine (l01Less_any _ _ _ hs2 hs1).mono ?_; rintro e w3 ⟨rfl, hb3⟩))
              have hbw4 := hbw2.drew.trans (hb3.mono hbw2.size)
              clear c0 c1 c2 c3 c4 d0 d1 d2 d3 d4
              obtain ⟨c0, c1, c2, c3, c4⟩ := HR.out.below hbw4 hb
              have HU : Hid (codeAt l (k + 1) l[k + 1] = codeUp l (k + 1) l[k + 1]) := code_up h16 hf hsame (by rw [beforeL_pos hlt]; simp [hless])
              go_wp2_with fail
              refine (l01Parent_any _ _ (by have := path_short hP; unfold maxLen; omega)).mono ?_
              rintro e w5 ⟨rfl, rfl⟩
              by_cases hpar : parentL l[k + 1].p.data.toList = []
              · have HN : Hid (codeAt l (k + 1) l[k + 1] = 0) := by show _ = _; rw [HU.out, codeUp_root hpar]
                have HF := Lib.hid (HK.out.trans (faultFrom_good hlt HN.out))
                have hemp : (parentL l[k + 1].p.data.toList).isEmpty = true := by rw [hpar]; rfl
                unfold strV
                go_wp2_with fail
                exact ⟨⟨k + 1 + 1, by omega, by go_num, HF, all_next HC.out hlt HN.out, hbw4⟩, by simp [intOf]; omega⟩
              · have hemp : (parentL l[k + 1].p.data.toList).isEmpty = false := by simpa using hpar
                have hslr := (HSl.out.below hbw4).take (k := k + 1) (by omega)
                unfold strV
                go_wp2_with fail
                refine (l03At_any _ (l.take (k + 1)) _ _ (by exact hslr) (by rw [List.length_take]; omega)).mono ?_
                rintro e w6 ⟨rfl, rfl⟩
                rcases atL_cases (l.take (k + 1)) (parO l[k + 1].p) with ⟨ha, _⟩ | ⟨j, hj, ha, _⟩
                · have HE : Hid (layerFaultL l = (((k + 1 : Nat) : Int), 12)) := by
                    have hc := HU.out.trans (codeUp_orphan hpar (by rw [ha]; decide))
                    show _ = _
                    rw [HK.out, faultFrom_bad hlt (by rw [hc]; decide), hc]
                  have ha' : atL (l.take (k + 1)) ⟨(parentL l[k + 1].p.data.toList).toArray⟩ = -1 := ha
                  rw [ha']
                  go_wp2_with fail
                  go_ret2
                  exact ⟨ret_pair HE.out, hbw4⟩
                · rw [List.length_take] at hj
                  have hjl : j < l.length := by omega
                  have ha' : atL (l.take (k + 1)) ⟨(parentL l[k + 1].p.data.toList).toArray⟩ = (j : Int) := ha
                  have HV := Lib.hid (HU.out.trans (codeUp_in hpar hjl ha))
                  rw [ha']
                  clear ha ha'
                  obtain ⟨f0, _⟩ := (hcell j l[j] (by simp [hjl])).below hbw4 hb
                  have j1 : (0 : Int) ≤ (j : Int) := by omega
                  have j2 : (j : Int) < (l.length : Int) := by omega
                  have j3 : decide ((j : Int) < 0) = false := by simp
                  by_cases h3 : l[j].k = 3
                  · have HN : Hid (codeAt l (k + 1) l[k + 1] = 0) := by show _ = _; rw [HV.out, if_neg (by simpa using h3)]
                    have HF := Lib.hid (HK.out.trans (faultFrom_good hlt HN.out))
                    have j4 : (l[j].k != 3) = false := by simpa using h3
                    clear h3
                    go_wp2_with fail
                    exact ⟨⟨k + 1 + 1, by omega, by go_num, HF, all_next HC.out hlt HN.out, hbw4⟩, by simp [intOf]; omega⟩
                  · have HE : Hid (layerFaultL l = (((k + 1 : Nat) : Int), 13)) := by
                      have hc := HV.out.trans (if_pos h3)
                      show _ = _
                      rw [HK.out, faultFrom_bad hlt (by rw [hc]; decide), hc]
                    have j4 : (l[j].k != 3) = true := by simpa using h3
                    clear h3
                    go_wp2_with fail
                    go_ret2
                    exact ⟨ret_pair HE.out, hbw4⟩
            · go_region_held3 (fun w' => w'.cell? ⟨b, off + k * 5 + 1, none⟩ = some (.string l[k].p) ∧ w'.cell? ⟨b, off + (k + 1) * 5 + 1, none⟩ = some (.string l[k + 1].p)) (first | exact ⟨d1, c1⟩ | exact ⟨(hb3.cell (p := ⟨b, off + k * 5 + 1, none⟩) hlt2).trans d1, (hb3.cell (p := ⟨b, off + (k + 1) * 5 + 1, none⟩) hlt2).trans c1⟩ | go_keep) (first | (go_at_call 175; refine (l01Less_any _ _ _ hs2 hs1).mono ?_; rintro e w3 ⟨rfl, hb3⟩))
              have hbw4 := hbw2.drew.trans (hb3.mono hbw2.size)
              clear c0 c1 c2 c3 c4 d0 d1 d2 d3 d4
              obtain ⟨c0, c1, c2, c3, c4⟩ := HR.out.below hbw4 hb
              have HE : Hid (layerFaultL l = (((k + 1 : Nat) : Int), 11)) := by
                have hc := code_order (l := l) h16 hf hsame (by rw [beforeL_pos hlt]; simp [hless])
                show _ = _
                rw [HK.out, faultFrom_bad hlt (by rw [hc]; decide), hc]
              go_wp2_with fail
              go_ret2
              exact ⟨ret_pair HE.out, hbw4⟩
      · have HE : Hid (layerFaultL l = ((k : Int), faultI l[k].k l[k].p.data.toList l[k].b.size l[k].m l[k].o)) := by show _ = _; rw [HK.out, faultFrom_bad hlt (by rw [code_rec h16 hf]; exact hf), code_rec h16 hf]; rfl
        have hd : (faultI l[k].k l[k].p.data.toList l[k].b.size l[k].m l[k].o != 0) = true := by have h := hf; unfold R.fault at h; simpa using h
        clear hf
        go_wp2_with fail
        refine (l02Fault_any _ _ _ _ _ _).mono ?_
        rintro e w1 ⟨rfl, hb1⟩
        go_wp2_with fail
        go_ret2
        exact ⟨ret_pair HE.out, hbw.trans (hb1.mono hbw.size)⟩
    · obtain rfl : k = l.length := by omega
      have HE : Hid (layerFaultL l = (0, 0)) := by show _ = _; rw [HK.out, faultFrom_end (Nat.le_refl _)]
      go_wp2
      go_ret2
      exact ⟨ret_pair HE.out, hbw⟩
end Go.Proofs.YtcbmnihepeefaaaGreatDoor.Recs
