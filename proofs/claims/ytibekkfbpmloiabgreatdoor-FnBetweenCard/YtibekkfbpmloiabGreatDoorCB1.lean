/- Parts of several texts of mine in one file (each begins with its own remark). -/
import Derived.Test.YtibekkfbpmloiabGreatDoorCA1
import Derived.Test.YtibekkfbpmloiabGreatDoorCA10
import Derived.Test.YtibekkfbpmloiabGreatDoorCA14
import Derived.Test.YtibekkfbpmloiabGreatDoorCA15
import Derived.Test.YtibekkfbpmloiabGreatDoorCA2
import Derived.Test.YtibekkfbpmloiabGreatDoorCA20
import Derived.Test.YtibekkfbpmloiabGreatDoorCA21
import Derived.Test.YtibekkfbpmloiabGreatDoorCA22
import Derived.Test.YtibekkfbpmloiabGreatDoorCA3
import Derived.Test.YtibekkfbpmloiabGreatDoorCA4
import Derived.Test.YtibekkfbpmloiabGreatDoorCA5
import Derived.Test.YtibekkfbpmloiabGreatDoorCA6
import Derived.Test.YtibekkfbpmloiabGreatDoorCA7
import Derived.Test.YtibekkfbpmloiabGreatDoorChecked
import Derived.Test.YtibekkfbpmloiabGreatDoorShelf
import Derived.Test.YtibekkfbpmloiabGreatDoorProg
import Derived.Test.YtibekkfbpmloiabGreatDoorRows
import Derived.Stop.LaidErr
import Derived.StillTailTactics
import Derived.Laws.OwnMore
import Derived.BigQuiet
import Derived.BigRegion
import Derived.Deep.QuietTactic
import Derived.Deep.RegionHeld3
import Derived.Deep.Slices
import Derived.OpenShut
import Derived.ShutString
import Derived.ChangeArms
import Derived.WideShapes
import Derived.Lib.LaidTab
import Derived.Deep.Draws
import Derived.Deep.LoopGhost
import Derived.WalkKit
import Derived.WalkSpells
import Derived.WalkSmall
import Derived.Lib.OthersKept
import Derived.Lib.Hide
import Derived.Lib.Strings
import Derived.Lib.Join
import Derived.Laws.BytesArg
import Derived.WalkLawsBesides
import Derived.LaidEql
import Derived.Stop.Asserts
import Derived.Below
import Derived.Stop.LaidTwo
import Derived.IntWalk
import Derived.RegionTactic
import Derived.ChangeVars
import Derived.Deep.DeepHandedRow
/- Layers: the program's searches (slices.IndexFunc, slices.ContainsFunc, with what it hands them). -/
namespace Go.Proofs.YtibekkfbpmloiabGreatDoor.Recs
set_option maxRecDepth 100000
open Go.RowKit Paths

theorem idx_any (P : R → Bool) : ∀ (l : List R) (n : Nat), decide (0 ≤ idxFrom P l n) = l.any P
  | [], _ => rfl
  | r :: t, n => by
    rcases Bool.eq_false_or_eq_true (P r) with h | h
    · simp [idxFrom, h]
    · have := idx_any P t (n + 1)
      simp only [idxFrom, List.any_cons, h]
      simpa using this

set_option maxHeartbeats 800000 in
theorem indexFunc_under (v : Value) (l : List R) (c : Addr) (P : R → Bool) (w : World) (h : RecSl w v l) (hl : l.length ≤ 1048576)
    (HF : ∀ r ∈ l, ∀ w', Below w.heap.size w w' → Calls Tryz.prog 200 #[r.val, .pointer (some c)] w' fun e w'' => e = .returned (.bool (P r)) ∧ Below w'.heap.size w' w'') :
    Calls Tryz.prog 167 #[v, .func (.func 200) #[] #[.pointer (some c)]] w fun e w' => e = .returned (.int .i64 (idxFrom P l 0)) ∧ Below w.heap.size w w' := by
  obtain ⟨A, cap, rfl, hcap, h⟩ := h
  have H := Lib.hid h
  have HFh := Lib.hid HF
  clear h HF
  go_enter Tryz.func167, Tryz.ntmps167
  go_wp2
  go_loopw [8] (fun i wr => ∃ k : Nat, k ≤ l.length ∧ i = .int .i64 k ∧ Hid (idxFrom P l 0 = idxFrom P (l.drop k) k) ∧ Below w.heap.size w wr) (fun i _ => l.length - (intOf i).toNat)
  case atStart => exact ⟨0, by omega, rfl, rfl, Below.refl _ _⟩
  case round =>
    obtain ⟨k, hk, rfl, HK, hbw⟩ := hrel
    by_cases hlt : k < l.length
    · obtain ⟨b, off, rfl, hb, hcell⟩ := H.out (by omega)
      obtain ⟨c0, c1, c2, c3, c4⟩ := (hcell k l[k] (by simp [hlt])).below hbw hb
      have HS := Lib.hid (HK.out.trans (idx_step hlt))
      clear hcell HK
      have hi1 : (k : Int) < (l.length : Int) := by omega
      have hi0 : (0 : Int) ≤ (k : Int) := by omega
      have HC := HFh.out l[k] (List.getElem_mem hlt) _ hbw
      unfold R.val at HC
      rcases Bool.eq_false_or_eq_true (P l[k]) with he | he
      · have HE : Hid (idxFrom P l 0 = k) := by show _ = _; rw [HS.out, if_pos he]
        go_wp2_with (go_at_call 200; refine HC.mono ?_; rintro e w1 ⟨rfl, hb1⟩)
        go_ret
        exact ⟨ret_int HE.out.symm, hbw.trans (hb1.mono hbw.size)⟩
      · have HE : Hid (idxFrom P l 0 = idxFrom P (l.drop (k + 1)) (k + 1)) := by show _ = _; rw [HS.out, if_neg (by rw [he]; decide)]
        go_wp2_with (go_at_call 200; refine HC.mono ?_; rintro e w1 ⟨rfl, hb1⟩)
        exact ⟨⟨k + 1, by omega, by go_num, HE, hbw.trans (hb1.mono hbw.size)⟩, by simp [intOf]; omega⟩
    · have HE := Lib.hid (HK.out.trans (idx_end (by omega)))
      go_wp2
      go_ret
      exact ⟨ret_int HE.out.symm, hbw⟩

theorem under_test (r : R) (c : Nat) (q : ByteArray) (w : World) (h : w.cell? ⟨c, 0, none⟩ = some (.string q)) (hq : q.size ≤ maxLen) (hr : r.p.size ≤ maxLen) :
    Calls Tryz.prog 200 #[r.val, .pointer (some ⟨c, 0, none⟩)] w fun e w' => e = .returned (.bool (r.o && isBelowB q r.p)) ∧ Below w.heap.size w w' := by
  unfold R.val
  have h1 : (w.alloc (.cells #[.int .i64 r.k, .string r.p, .string r.b, .int .i64 r.m, .bool r.o] 53)).cell? ⟨c, 0, none⟩ = some (.string q) := cell?_alloc_old _ h
  have hb0 : Below w.heap.size w (w.alloc (.cells #[.int .i64 r.k, .string r.p, .string r.b, .int .i64 r.m, .bool r.o] 53)) := (Below.refl _ _).alloc (Nat.le_refl _) _
  rcases Bool.eq_false_or_eq_true r.o with ho | ho
  · rw [ho] at h1 hb0 ⊢
    go_enter Tryz.func200, Tryz.ntmps200
    go_wp2_with fail
    refine (isBelow_impl _ _ _ hq hr).mono ?_
    rintro e w1 ⟨rfl, hb1⟩
    go_wp2_with fail
    go_ret
    exact ⟨rfl, hb0.trans (hb1.mono hb0.size)⟩
  · rw [ho] at h1 hb0 ⊢
    go_enter Tryz.func200, Tryz.ntmps200
    go_wp2_with fail
    go_ret
    exact ⟨rfl, hb0⟩

theorem containsFunc_any (v f : Value) (n : Int) (w : World)
    (HC : Calls Tryz.prog 167 #[v, f] w fun e w' => e = .returned (.int .i64 n) ∧ Below w.heap.size w w') :
    Calls Tryz.prog 199 #[v, f] w fun e w' => e = .returned (.bool (decide (0 ≤ n))) ∧ Below w.heap.size w w' := by
  go_enter Tryz.func199, Tryz.ntmps199
  go_wp2_with fail
  refine HC.mono ?_
  rintro e w1 ⟨rfl, hb1⟩
  go_wp2_with fail
  go_ret
  exact ⟨rfl, hb1⟩

/-- A record that is Opaque lies above the path. -/
def underI (l : List R) (q : ByteArray) : Bool := l.any fun r => r.o && isBelowB q r.p
theorem underOpaque_any (v : Value) (l : List R) (q : ByteArray) (w : World) (h : RecSl w v l) (hl : l.length ≤ 1048576) (hq : q.size ≤ maxLen) (hr : ∀ r ∈ l, r.p.size ≤ maxLen) :
    Calls Tryz.prog 148 #[v, .string q] w fun e w' => e = .returned (.bool (underI l q)) ∧ Below w.heap.size w w' := by
  have hb0 : Below w.heap.size w (w.alloc (.cells #[.string q] 9)) := (Below.refl _ _).alloc (Nat.le_refl _) _
  have hc0 : (w.alloc (.cells #[.string q] 9)).cell? ⟨w.heap.size, 0, none⟩ = some (.string q) := by go_simp
  have h0 := h.below hb0
  have HC := indexFunc_under v l ⟨w.heap.size, 0, none⟩ (fun r => r.o && isBelowB q r.p) (w.alloc (.cells #[.string q] 9)) h0 hl
    (fun r hm w' hb => under_test r w.heap.size q w' ((hb.cell (p := ⟨w.heap.size, 0, none⟩) (by simp)).trans hc0) hq (hr r hm))
  have HD := containsFunc_any _ _ _ _ HC
  rw [idx_any] at HD
  obtain ⟨A, cap, rfl, _⟩ := h
  go_enter Tryz.func148, Tryz.ntmps148
  go_wp2_with fail
  refine HD.mono ?_
  rintro e w1 ⟨rfl, hb1⟩
  go_wp2_with fail
  go_ret
  exact ⟨rfl, hb0.trans (hb1.mono hb0.size)⟩
end Go.Proofs.YtibekkfbpmloiabGreatDoor.Recs

/- Layers: the error of a list, the code of errors. Conditions: the table of kinds, the sentinels (as each states). -/
namespace Go.Proofs.YtibekkfbpmloiabGreatDoor.Recs
set_option maxRecDepth 100000
open Go.RowKit Paths Errs

theorem layerOK_impl (v : Value) (l : List R) (x : Addr) (w : World) (h : RecSl w v l) (hl : l.length ≤ 1048576) (hr : ∀ r ∈ l, r.p.size ≤ maxLen) (ht : Tab w) (hx : w.cell? ⟨0, 0, none⟩ = some (errV x)) :
    Calls Tryz.prog 23 #[v] w fun e w' => e = .returned (.bool (decide (l.length ≤ 4096) && layerOK l)) ∧ Below w.heap.size w w' := by
  have HC := checkLayer_any v l x w h hl hr ht hx
  obtain ⟨A, cap, rfl, hcap, _⟩ := h
  unfold checkV at HC
  by_cases h4 : 4096 < l.length
  · rw [if_pos h4] at HC
    have HE : Hid ((decide (l.length ≤ 4096) && layerOK l) = false) := by show _ = _; rw [decide_eq_false (by omega)]; rfl
    unfold errV at HC
    go_enter Tryz.func23, Tryz.ntmps23
    go_wp2_with fail
    refine HC.mono ?_
    rintro e w1 ⟨rfl, hb1⟩
    go_wp2_with fail
    go_ret
    exact ⟨ret_bool HE.out.symm, hb1⟩
  rw [if_neg h4] at HC
  by_cases hf : (layerFaultL l).2 = 0
  · rw [if_neg (by simpa using hf)] at HC
    have HE : Hid ((decide (l.length ≤ 4096) && layerOK l) = true) := by show _ = _; rw [decide_eq_true (by omega)]; simpa [layerOK] using hf
    clear hf
    go_enter Tryz.func23, Tryz.ntmps23
    go_wp2_with fail
    refine HC.mono ?_
    rintro e w1 ⟨rfl, hb1⟩
    go_wp2_with fail
    go_ret
    exact ⟨ret_bool HE.out.symm, hb1⟩
  · rw [if_pos hf] at HC
    have HE : Hid ((decide (l.length ≤ 4096) && layerOK l) = false) := by show _ = _; rw [decide_eq_true (by omega)]; simpa [layerOK] using hf
    clear hf
    unfold recV at HC
    go_enter Tryz.func23, Tryz.ntmps23
    go_wp2_with fail
    refine HC.mono ?_
    rintro e w1 ⟨rfl, hb1⟩
    go_wp2_with fail
    go_ret
    exact ⟨ret_bool HE.out.symm, hb1⟩
end Go.Proofs.YtibekkfbpmloiabGreatDoor.Recs

/- The choice that some bytes make (laws.at), as a plain function of the bytes. -/
namespace Go.Proofs.YtibekkfbpmloiabGreatDoor.Draw
open Go.RowKit

def atN (f : Nat → Nat) (n : Nat) (i k : Int) : Int :=
  if n = 0 then i * 7 % k else ((f (i % n).toNat : Int) * 31 + (f ((i + 1) % n).toNat : Int) + i / n) % k
set_option maxHeartbeats 1000000 in
theorem at_any (w : World) (A : Option Addr) (n cap : Nat) (f : Nat → Nat) (i k : Int) (h : Vals w A n f) (hi : 0 ≤ i ∧ i ≤ 1000) (hk : 2 ≤ k ∧ k ≤ 100000) :
    Calls Tryz.prog 12 #[.slice A n cap, .int .i64 i, .int .i64 k] w fun e w' => e = .returned (.int .i64 (atN f n i k)) ∧ ∃ q, w' = w.drewN q := by
  obtain ⟨hi1, hi2⟩ := hi
  obtain ⟨hk1, hk2⟩ := hk
  have hd1 : decide (k ≤ 1) = false := by simp; omega
  have hk0 : (0 : Int) < k := by omega
  by_cases hn : n = 0
  · subst hn
    have HR := Lib.hid (show atN f 0 i k = i * 7 % k by unfold atN; rw [if_pos rfl])
    clear h
    go_enter Tryz.func12, Tryz.ntmps12
    go_wp2
    go_ret
    exact ⟨ret_int HR.out.symm, 0, rfl⟩
  · have HR := Lib.hid (show atN f n i k = ((f (i % n).toNat : Int) * 31 + (f ((i + 1) % n).toNat : Int) + i / n) % k by unfold atN; rw [if_neg hn])
    obtain ⟨hn1, hx⟩ := h
    obtain ⟨b, off, rfl, hb, hc⟩ := hx (by omega)
    have hz : ((n : Int) == 0) = false := beq_eq_false_iff_ne.2 (by omega)
    have hnp : (0 : Int) < (n : Int) := by omega
    have m1 := Int.emod_nonneg i (show (n : Int) ≠ 0 by omega)
    have m2 := Int.emod_lt_of_pos i hnp
    have m3 := Int.emod_nonneg (i + 1) (show (n : Int) ≠ 0 by omega)
    have m4 := Int.emod_lt_of_pos (i + 1) hnp
    have m5 := Int.ediv_nonneg hi1 (show (0 : Int) ≤ (n : Int) by omega)
    have m6 := Int.ediv_le_self (n : Int) hi1
    obtain ⟨hf1, hc1⟩ := hc (i % n).toNat (by omega)
    obtain ⟨hf2, hc2⟩ := hc ((i + 1) % n).toNat (by omega)
    have HX := Lib.hid hc
    clear hx hc hn
    go_enter Tryz.func12, Tryz.ntmps12
    go_wp2
    go_quiet (fail)
    go_wp2
    go_ret
    exact ⟨ret_int HR.out.symm, nq, rfl⟩
end Go.Proofs.YtibekkfbpmloiabGreatDoor.Draw

/- For laws that look at layers: the laws' own comparison of lists of records; their choice among one. -/
namespace Go.Proofs.YtibekkfbpmloiabGreatDoor.Recs
set_option maxRecDepth 100000
open Go.RowKit Paths

theorem at_low (A : Option Addr) (n cap : Nat) (i k : Int) (w : World) (hk : k ≤ 1) :
    Calls Tryz.prog 12 #[.slice A n cap, .int .i64 i, .int .i64 k] w fun e w' => e = .returned (.int .i64 0) ∧ w = w' := by
  have hd : decide (k ≤ 1) = true := by simpa using hk
  go_enter Tryz.func12, Tryz.ntmps12
  go_wp2_with fail
  go_ret
  exact ⟨rfl, rfl⟩
/-- The choice of laws.at, whatever the number. -/
def atK (f : Nat → Nat) (n : Nat) (i k : Int) : Int := if k ≤ 1 then 0 else Draw.atN f n i k
theorem at_all (w : World) (A : Option Addr) (n cap : Nat) (f : Nat → Nat) (i k : Int) (h : Draw.Vals w A n f) (hi : 0 ≤ i ∧ i ≤ 1000) (hk : k ≤ 100000) :
    Calls Tryz.prog 12 #[.slice A n cap, .int .i64 i, .int .i64 k] w fun e w' => e = .returned (.int .i64 (atK f n i k)) ∧ ∃ q, w' = w.drewN q := by
  unfold atK
  by_cases h1 : k ≤ 1
  · rw [if_pos h1]
    refine (at_low A n cap i k w h1).mono ?_
    rintro e w1 ⟨rfl, rfl⟩
    exact ⟨rfl, 0, rfl⟩
  · rw [if_neg h1]
    exact Draw.at_any w A n cap f i k h hi ⟨by omega, hk⟩
end Go.Proofs.YtibekkfbpmloiabGreatDoor.Recs

/- Layers: UnderOpaque, of the program and of its model. Conditions (of the program's): the table of kinds, the two sentinels. -/
namespace Go.Proofs.YtibekkfbpmloiabGreatDoor.Recs
set_option maxRecDepth 100000
open Go.RowKit Paths Errs

/-- The program's way to look comes to the same. -/
theorem under_gen {l : List R} (hs : Sorted l) (hf : ∀ r ∈ l, r.fault = 0) {q : ByteArray} (hq : pathB q.data.toList = true) : underI l q = underL l q := by
  rw [underL_any]
  unfold underI
  rw [Bool.eq_iff_iff, List.any_eq_true, List.any_eq_true]
  constructor
  · rintro ⟨r, hm, hr⟩
    have hp := (fault_path (hf r hm)).1
    simp only [Bool.and_eq_true] at hr
    rw [below_two (path_pos hp) hq hp, ← isUp_below hq, isUp_iff] at hr
    refine ⟨r.p, hr.2, ?_⟩
    rw [opaqueAt_eq, recAt_of (hs) hm]
    exact hr.1
  · rintro ⟨a, ha, ho⟩
    rw [opaqueAt_eq] at ho
    cases hr : recAt l a with
    | none => rw [hr] at ho; cases ho
    | some r =>
      rw [hr] at ho
      obtain ⟨hm, rfl⟩ := recAt_mem hr
      have hp := (fault_path (hf r hm)).1
      refine ⟨r, hm, ?_⟩
      simp only [Bool.and_eq_true]
      refine ⟨ho, ?_⟩
      rw [below_two (path_pos hp) hq hp, ← isUp_below hq, isUp_iff]
      exact ha
end Go.Proofs.YtibekkfbpmloiabGreatDoor.Recs

/- Layers: the canonical form, of the program. -/
namespace Go.Proofs.YtibekkfbpmloiabGreatDoor.Recs
set_option maxRecDepth 100000
open Go.RowKit Paths Errs

theorem canon_skip {l : List R} {r : R} (hu : underL l r.p = true) (hk : r.k = 4) : canonR l r = none := by unfold canonR; rw [if_pos hu, if_pos hk]
theorem canon_under {l : List R} {r : R} (hu : underL l r.p = true) (hk : r.k ≠ 4) : canonR l r = some { r with o := false } := by unfold canonR; rw [if_pos hu, if_neg hk]
theorem canon_deep {l : List R} {r : R} (hu : underL l r.p = false) (hd : (cutAt 47 r.p.data.toList).length = 4) : canonR l r = some { r with o := false } := by
  unfold canonR; rw [if_neg (by rw [hu]; decide), hd]; simp
theorem canon_plain {l : List R} {r : R} (hu : underL l r.p = false) (hd : (cutAt 47 r.p.data.toList).length < 4) : canonR l r = some r := by
  unfold canonR; rw [if_neg (by rw [hu]; decide), decide_eq_true hd]; simp
/-- What is done, and what is still to do. -/
def Done (l : List R) (k : Nat) (M : List R) : Prop := canonL l = M ++ (l.drop k).filterMap (canonR l)
theorem done_start (l : List R) : Done l 0 [] := rfl
theorem done_skip {l M : List R} {k : Nat} (hk : k < l.length) (h : Done l k M) (hc : canonR l l[k] = none) : Done l (k + 1) M := by
  unfold Done at h ⊢
  rw [h, List.drop_eq_getElem_cons hk, List.filterMap_cons, hc]
theorem done_take {l M : List R} {k : Nat} {r : R} (hk : k < l.length) (h : Done l k M) (hc : canonR l l[k] = some r) : Done l (k + 1) (M ++ [r]) := by
  unfold Done at h ⊢
  rw [h, List.drop_eq_getElem_cons hk, List.filterMap_cons, hc]
  simp
theorem done_end {l M : List R} {k : Nat} (hk : l.length ≤ k) (h : Done l k M) : canonL l = M := by
  unfold Done at h
  rw [h, List.drop_eq_nil_of_le hk]
  simp
theorem done_len {l M : List R} {k : Nat} (h : Done l k M) (hl : l.length ≤ 1024) : M.length ≤ 1024 := by
  have h1 : (canonL l).length ≤ l.length := List.length_filterMap_le _ _
  unfold Done at h
  rw [h, List.length_append] at h1
  omega
set_option maxHeartbeats 3200000 in
theorem canonicalForm_gen (v : Value) (l : List R) (w : World) (h : RecSl w v l) (hsd : Sorted l) (hf : ∀ r ∈ l, r.fault = 0) (hl16 : l.length ≤ 1024) (hr : ∀ r ∈ l, r.p.size ≤ maxLen) :
    Calls Tryz.prog 89 #[v] w fun e w' => ∃ x, e = .returned x ∧ Below w.heap.size w w' ∧ RowOf w' w.heap.size x (canonL l).length (canonL l) := by
  obtain ⟨i0, hi, hI0, hI1, hI2⟩ := info_parts recInfo
  have hsl := h
  obtain ⟨A, cap, rfl, hcap, h⟩ := h
  have HSl := Lib.hid hsl
  have H := Lib.hid h
  have HO := Lib.hid hf
  have HSD := Lib.hid hsd
  clear h hsl hf hsd
  go_enter Tryz.func89, Tryz.ntmps89
  go_wp2
  go_loopw [3, 9] (fun f i wr => ∃ (k : Nat) (M : List R), k ≤ l.length ∧ i = .int .i64 k ∧ RowOf wr w.heap.size f M.length M ∧ Hid (Done l k M) ∧ Below w.heap.size w wr) (fun _ i _ => l.length - (intOf i).toNat)
  case atStart => exact ⟨0, [], by omega, rfl, ⟨rfl, World.ownsRow_nil _ _ _ _⟩, done_start l, Below.refl _ _⟩
  case round =>
    obtain ⟨k, M, hk, rfl, hrow, HD, hbw⟩ := hrel
    by_cases hlt : k < l.length
    · obtain ⟨b, off, rfl, hb, hcell⟩ := H.out (by omega)
      obtain ⟨c0, c1, c2, c3, c4⟩ := (hcell k l[k] (by simp [hlt])).below hbw hb
      clear hcell
      have hi1 : (k : Int) < (l.length : Int) := by omega
      have hi0 : (0 : Int) ≤ (k : Int) := by omega
      have hm := List.getElem_mem hlt
      have hp := (fault_path (HO.out _ hm)).1
      have HU := Lib.hid (under_gen HSD.out HO.out hp)
      have hq := hr l[k] hm
      have hM := done_len HD.out hl16
      obtain ⟨fA, fcap, rfl⟩ := hrow.form
      have hbA : Below wr.heap.size wr (wr.alloc (.cells #[.int .i64 l[k].k, .string l[k].p, .string l[k].b, .int .i64 l[k].m, .bool l[k].o] 53)) := (Below.refl _ _).alloc (Nat.le_refl _) _
      have hslA := HSl.out.below (hbw.trans (hbA.mono hbw.size))
      have HC := underOpaque_any _ l l[k].p _ hslA (by omega) hq hr
      rw [HU.out] at HC
      have hrA := hrow.below hbA
      rcases Bool.eq_false_or_eq_true (underL l l[k].p) with hu | hu
      · rw [hu] at HC
        by_cases h4 : l[k].k = 4
        · have HN := Lib.hid (done_skip hlt HD.out (canon_skip hu h4))
          have hd4 : (l[k].k == 4) = true := by simpa using h4
          clear h4
          go_wp2_with fail
          refine HC.mono ?_
          rintro e w1 ⟨rfl, hb1⟩
          obtain ⟨hc1, hf1⟩ := bcell hb1
          have hz1 : wr.heap.size < w1.heap.size := by have := hb1.size; simp at this; omega
          have cA := hbw.trans (hbA.mono hbw.size)
          have c1 := cA.trans (hb1.mono cA.size)
          go_wp2_with fail
          exact ⟨⟨k + 1, M, by omega, by go_num, hrA.below hb1, HN, c1⟩, by simp [intOf]; omega⟩
        · have HN := Lib.hid (done_take hlt HD.out (canon_under hu h4))
          have hd4 : (l[k].k == 4) = false := by simpa using h4
          clear h4
          go_wp2_with fail
          refine HC.mono ?_
          rintro e w1 ⟨rfl, hb1⟩
          obtain ⟨hc1, hf1⟩ := bcell hb1
          have hz1 : wr.heap.size < w1.heap.size := by have := hb1.size; simp at this; omega
          have cA := hbw.trans (hbA.mono hbw.size)
          have c1 := cA.trans (hb1.mono cA.size)
          have hr2 : RowOf (w1.setCell ⟨wr.heap.size, 4, none⟩ (.bool false)) w.heap.size (.slice fA M.length fcap) M.length M := ⟨rfl, ownsRow_setCell_other (hrA.below hb1).2 hrow.ne _⟩
          have cW : Below w.heap.size w (w1.setCell ⟨wr.heap.size, 4, none⟩ (.bool false)) := c1.setCell hbw.size _
          have hr3 : ((w1.setCell ⟨wr.heap.size, 4, none⟩ (.bool false)).alloc (.cells #[.int .i64 l[k].k, .string l[k].p, .string l[k].b, .int .i64 l[k].m, .bool false] 53)).ownsRow w.heap.size 53 5 (.slice fA M.length fcap) M.length (flat M) := hr2.2.alloc _
          have hsz : (w1.setCell ⟨wr.heap.size, 4, none⟩ (.bool false)).heap.size = w1.heap.size := by simp [World.setCell]
          have hnews := rec_cells_new (w1.setCell ⟨wr.heap.size, 4, none⟩ (.bool false)) { l[k] with o := false } 53
          rw [hsz] at hnews
          have hone := rec_one { l[k] with o := false }
          have hbz : w.heap.size ≤ ((w1.setCell ⟨wr.heap.size, 4, none⟩ (.bool false)).alloc (.cells #[.int .i64 l[k].k, .string l[k].p, .string l[k].b, .int .i64 l[k].m, .bool false] 53)).heap.size := (cW.alloc cW.size _).size
          go_wp2_with (first
            | (at_builtin; refine wpList_append_own _ rfl _ _ 27 rfl w.heap.size 53 i0 (.agg #[.int .i64 0, .string ByteArray.empty, .string ByteArray.empty, .int .i64 0, .bool false]) 5 56 Tryz.underlying27 hi hI0 hI1 hI2 rfl (by decide) _ _ _ rfl hr3 ⟨w1.heap.size, 0, none⟩ 1 1 (R.cs { l[k] with o := false }) rfl rfl hnews hone (by unfold maxLen; omega) (by omega) hbz ?_; intro v' w9 hown' hgrow9 hnil9))
          exact ⟨⟨k + 1, M ++ [{ l[k] with o := false }], by omega, by go_num, row_snoc hown', HN, (cW.alloc cW.size _).grown hgrow9 hbz (fun j hj => (hrow.2.lt j hj).1)⟩, by simp [intOf]; omega⟩
      · rw [hu] at HC
        go_wp2_with fail
        refine HC.mono ?_
        rintro e w1 ⟨rfl, hb1⟩
        obtain ⟨hc1, hf1⟩ := bcell hb1
        have hz1 : wr.heap.size < w1.heap.size := by have := hb1.size; simp at this; omega
        have cA := hbw.trans (hbA.mono hbw.size)
        have c1 := cA.trans (hb1.mono cA.size)
        go_wp2_with fail
        refine (splitPath_any _ _ hq).mono ?_
        rintro e w2 ⟨v2, rfl, hb2, ho2, -, -⟩
        rw [partsOf_yes hp] at ho2
        obtain ⟨A2, cap2, rfl⟩ := own_form ho2
        obtain ⟨hc2, hf2⟩ := bcell hb2
        have hz2 : wr.heap.size < w2.heap.size := by have := hb2.size; omega
        have c2 := c1.trans (hb2.mono c1.size)
        have hp4 := (pathB_parts hp).1
        by_cases h4 : (cutAt 47 l[k].p.data.toList).length = 4
        · have HN := Lib.hid (done_take hlt HD.out (canon_deep hu h4))
          rw [h4]
          have hr2 : RowOf (w2.setCell ⟨wr.heap.size, 4, none⟩ (.bool false)) w.heap.size (.slice fA M.length fcap) M.length M := ⟨rfl, ownsRow_setCell_other ((hrA.below hb1).below hb2).2 hrow.ne _⟩
          have cW : Below w.heap.size w (w2.setCell ⟨wr.heap.size, 4, none⟩ (.bool false)) := c2.setCell hbw.size _
          have hr3 : ((w2.setCell ⟨wr.heap.size, 4, none⟩ (.bool false)).alloc (.cells #[.int .i64 l[k].k, .string l[k].p, .string l[k].b, .int .i64 l[k].m, .bool false] 53)).ownsRow w.heap.size 53 5 (.slice fA M.length fcap) M.length (flat M) := hr2.2.alloc _
          have hsz : (w2.setCell ⟨wr.heap.size, 4, none⟩ (.bool false)).heap.size = w2.heap.size := by simp [World.setCell]
          have hnews := rec_cells_new (w2.setCell ⟨wr.heap.size, 4, none⟩ (.bool false)) { l[k] with o := false } 53
          rw [hsz] at hnews
          have hone := rec_one { l[k] with o := false }
          have hbz : w.heap.size ≤ ((w2.setCell ⟨wr.heap.size, 4, none⟩ (.bool false)).alloc (.cells #[.int .i64 l[k].k, .string l[k].p, .string l[k].b, .int .i64 l[k].m, .bool false] 53)).heap.size := (cW.alloc cW.size _).size
          go_wp2_with (first
            | (at_builtin; refine wpList_append_own _ rfl _ _ 27 rfl w.heap.size 53 i0 (.agg #[.int .i64 0, .string ByteArray.empty, .string ByteArray.empty, .int .i64 0, .bool false]) 5 56 Tryz.underlying27 hi hI0 hI1 hI2 rfl (by decide) _ _ _ rfl hr3 ⟨w2.heap.size, 0, none⟩ 1 1 (R.cs { l[k] with o := false }) rfl rfl hnews hone (by unfold maxLen; omega) (by omega) hbz ?_; intro v' w9 hown' hgrow9 hnil9))
          exact ⟨⟨k + 1, M ++ [{ l[k] with o := false }], by omega, by go_num, row_snoc hown', HN, (cW.alloc cW.size _).grown hgrow9 hbz (fun j hj => (hrow.2.lt j hj).1)⟩, by simp [intOf]; omega⟩
        · have HN := Lib.hid (done_take hlt HD.out (canon_plain hu (by omega)))
          have hd4 : (((cutAt 47 l[k].p.data.toList).length : Int) == 4) = false := by simp; omega
          have hr2 : RowOf w2 w.heap.size (.slice fA M.length fcap) M.length M := (hrA.below hb1).below hb2
          have cW := c2
          have hr3 : (w2.alloc (.cells #[.int .i64 l[k].k, .string l[k].p, .string l[k].b, .int .i64 l[k].m, .bool l[k].o] 53)).ownsRow w.heap.size 53 5 (.slice fA M.length fcap) M.length (flat M) := hr2.2.alloc _
          have hsz : w2.heap.size = w2.heap.size := rfl
          have hnews := rec_cells_new w2 { l[k] with o := l[k].o } 53
          rw [hsz] at hnews
          have hone := rec_one { l[k] with o := l[k].o }
          have hbz : w.heap.size ≤ (w2.alloc (.cells #[.int .i64 l[k].k, .string l[k].p, .string l[k].b, .int .i64 l[k].m, .bool l[k].o] 53)).heap.size := (cW.alloc cW.size _).size
          go_wp2_with (first
            | (at_builtin; refine wpList_append_own _ rfl _ _ 27 rfl w.heap.size 53 i0 (.agg #[.int .i64 0, .string ByteArray.empty, .string ByteArray.empty, .int .i64 0, .bool false]) 5 56 Tryz.underlying27 hi hI0 hI1 hI2 rfl (by decide) _ _ _ rfl hr3 ⟨w2.heap.size, 0, none⟩ 1 1 (R.cs { l[k] with o := l[k].o }) rfl rfl hnews hone (by unfold maxLen; omega) (by omega) hbz ?_; intro v' w9 hown' hgrow9 hnil9))
          exact ⟨⟨k + 1, M ++ [{ l[k] with o := l[k].o }], by omega, by go_num, row_snoc hown', HN, (cW.alloc cW.size _).grown hgrow9 hbz (fun j hj => (hrow.2.lt j hj).1)⟩, by simp [intOf]; omega⟩
    · have HE := Lib.hid (done_end (by omega) HD.out)
      go_wp2
      go_ret
      exact ⟨_, rfl, hbw, by rw [HE.out]; exact hrow⟩
end Go.Proofs.YtibekkfbpmloiabGreatDoor.Recs
