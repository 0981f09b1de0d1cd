/- Parts of several texts of mine in one file (each begins with its own remark). -/
import Derived.Test.YtcnjiphoahoojaaGreatDoorCA1
import Derived.Test.YtcnjiphoahoojaaGreatDoorCA10
import Derived.Test.YtcnjiphoahoojaaGreatDoorCA11
import Derived.Test.YtcnjiphoahoojaaGreatDoorCA12
import Derived.Test.YtcnjiphoahoojaaGreatDoorCA13
import Derived.Test.YtcnjiphoahoojaaGreatDoorCA14
import Derived.Test.YtcnjiphoahoojaaGreatDoorCA15
import Derived.Test.YtcnjiphoahoojaaGreatDoorCA16
import Derived.Test.YtcnjiphoahoojaaGreatDoorCA18
import Derived.Test.YtcnjiphoahoojaaGreatDoorCA19
import Derived.Test.YtcnjiphoahoojaaGreatDoorCA2
import Derived.Test.YtcnjiphoahoojaaGreatDoorCA21
import Derived.Test.YtcnjiphoahoojaaGreatDoorCA22
import Derived.Test.YtcnjiphoahoojaaGreatDoorCA23
import Derived.Test.YtcnjiphoahoojaaGreatDoorCA3
import Derived.Test.YtcnjiphoahoojaaGreatDoorCA4
import Derived.Test.YtcnjiphoahoojaaGreatDoorCA5
import Derived.Test.YtcnjiphoahoojaaGreatDoorCA6
import Derived.Test.YtcnjiphoahoojaaGreatDoorCA7
import Derived.Test.YtcnjiphoahoojaaGreatDoorCA8
import Derived.Test.YtcnjiphoahoojaaGreatDoorCA9
import Derived.Test.YtcnjiphoahoojaaGreatDoorChecked
import Derived.Test.YtcnjiphoahoojaaGreatDoorShelf
import Derived.Test.YtcnjiphoahoojaaGreatDoorProg
import Derived.Test.YtcnjiphoahoojaaGreatDoorRows
import Derived.Deep.Slices
import Derived.OpenShut
import Derived.ShutString
import Derived.ChangeArms
import Derived.WideShapes
import Derived.Lib.LaidTab
import Derived.BigQuiet
import Derived.Deep.QuietTactic
import Derived.Deep.RegionHeld3
import Derived.StillTailTactics
import Derived.Deep.Draws
import Derived.Deep.LoopGhost
import Derived.WalkKit
import Derived.WalkSpells
import Derived.WalkSmall
import Derived.Lib.OthersKept
import Derived.Lib.Hide
import Derived.Lib.Strings
import Derived.Lib.Join
import Derived.Laws.OwnMore
import Derived.BigRegion
import Derived.Laws.BytesArg
import Derived.Stop.LaidErr
import Derived.WalkLawsBesides
import Derived.LaidEql
import Derived.Stop.Asserts
import Derived.Below
import Derived.Stop.LaidTwo
import Derived.ChangeVars
import Derived.Deep.DeepHandedRow
import Derived.Deep.RegionLaw
import Derived.Deep.AppendLies
import Derived.Laws.IdiomCopy
import Derived.Deep.RegionWith
import Derived.OneCell
import Derived.Lib.SliceRun
import Derived.Lib.Overlaps
import Derived.Lib.AppendZerosOnto
import Derived.Laws.NewBlocks
import Derived.RangeFuncNested
import Derived.RangeFuncBound
import Derived.RangeFuncCalls
import Derived.RangeFuncLeaves
import Derived.RangeFuncBox
import Derived.Shelf.Abstract
import Derived.Shelf.RegionOpen
import Derived.OwnWalkIn
import Derived.TacticsInMore
import Derived.LoopNIn
import Derived.LoopIn
/- Layers as plain lists of records: the canonical form is canonical; what is above a path, as a list; what a layer cuts off. -/
namespace Go.Proofs.YtcnjiphoahoojaaGreatDoor.Recs
open Go.RowKit Paths

theorem opaqueAt_eq (l : List R) (q : ByteArray) : opaqueAt l q = (recAt l q).any (fun x => x.o) := by
  unfold opaqueAt
  rcases atL_recAt l q with ⟨h1, h2⟩ | ⟨i, hi, h1, h2⟩
  · rw [h1, h2]; rfl
  · rw [h1, h2]
    simp [hi]

theorem underF_any (l : List R) : ∀ (n : Nat) (q : ByteArray), underF n l q = (upF n q).any (opaqueAt l)
  | 0, _ => rfl
  | n + 1, q => by
    simp only [underF, upF]
    by_cases hp : parentL q.data.toList = []
    · rw [if_pos hp, if_pos hp]; rfl
    · rw [if_neg hp, if_neg hp, underF_any l n, List.any_cons]
theorem underL_any (l : List R) (q : ByteArray) : underL l q = (ups q).any (opaqueAt l) := underF_any l 4 q
end Go.Proofs.YtcnjiphoahoojaaGreatDoor.Recs

/- The laws' marks in a slice of records: written, and read again. -/
namespace Go.Proofs.YtcnjiphoahoojaaGreatDoor.Recs
set_option maxRecDepth 100000
open Go.RowKit Paths

set_option maxHeartbeats 3200000 in
theorem heldRecordS_any (v : Value) (n base : Nat) (x : Int) (w : World) (hrow : RowOf w base v n (markR x n)) (h0 : 0 ≤ x) (hk : x + 5 * n ≤ 1099511627776) :
    Calls Tryz.prog 19 #[v, .int .i64 x] w fun e w' => e = .returned (.int .i64 (x + 5 * n)) ∧ Below w.heap.size w w' := by
  rcases hrow.2.2 with ⟨rfl, rfl⟩ | ⟨g, cap, cur, rfl, hbg, hgg, hnc, hcm, _⟩
  · go_enter Tryz.func19, Tryz.ntmps19
    go_wp2
    refine wp_loop_rounds 1 ?_
    rw [rounds_succ]
    go_wp2
    go_ret
    exact ⟨by simp, Below.refl _ _⟩
  · unfold maxLen at hcm
    have hglt : g < w.heap.size := (Array.getElem?_eq_some_iff.1 hgg).1
    clear hgg
    have HC : Hid (∀ j, j < n → RecCells w g (j * 5) (mr (x + 5 * (j : Int)))) := fun j hj => by
      have := hrow.cells (i := j) (by rw [markR_len]; exact hj)
      rw [markR_at hj] at this
      exact this
    clear hrow
    go_enter Tryz.func19, Tryz.ntmps19
    go_wp2
    go_loopw [1, 5] (fun m i wr => ∃ j : Nat, j ≤ n ∧ i = .int .i64 j ∧ m = .int .i64 (x + 5 * j) ∧ Below w.heap.size w wr) (fun _ i _ => n - (intOf i).toNat)
    case atStart => exact ⟨0, by omega, rfl, by simp, Below.refl _ _⟩
    case round =>
      obtain ⟨j, hj, rfl, rfl, hbw⟩ := hrel
      by_cases hlt : j < n
      · have HR := Lib.hid (HC.out j hlt)
        generalize hX : x + 5 * (j : Int) = X at *
        have hX0 : 0 ≤ X := by omega
        have hX1 : X + 5 ≤ 1099511627776 := by omega
        obtain ⟨c0, c1, c2, c3, c4⟩ := HR.out.below hbw hglt
        unfold mr at c0 c1 c2 c3 c4
        have hi1 : (j : Int) < (n : Int) := by omega
        have hi0 : (0 : Int) ≤ (j : Int) := by omega
        have hgr : g < wr.heap.size := Nat.lt_of_lt_of_le hglt hbw.size
        go_wp2_with fail
        go_region_held3 (fun w' => w'.cell? ⟨g, j * 5 + 1, none⟩ = some (.string (markS (X + 1)))) (first | exact c1 | exact (hb1.cell (p := ⟨g, j * 5 + 1, none⟩) hgr).trans c1 | go_keep) (first | (go_at_call 34; refine (markText_any _ _ (by omega) (by omega)).mono ?_; rintro e w1 ⟨rfl, hb1⟩))
        have hbw1 := hbw.drew.trans (hb1.mono hbw.size)
        have hgr1 : g < w1.heap.size := Nat.lt_of_lt_of_le hglt hbw1.size
        clear c0 c1 c2 c3 c4
        obtain ⟨c0, c1, c2, c3, c4⟩ := HR.out.below hbw1 hglt
        unfold mr at c0 c1 c2 c3 c4
        go_wp2_with fail
        go_region_held3 (fun w' => w'.cell? ⟨g, j * 5 + 2, none⟩ = some (.string (markS (X + 1 + 1)))) (first | exact c2 | exact (hb2.cell (p := ⟨g, j * 5 + 2, none⟩) hgr1).trans c2 | go_keep) (first | (go_at_call 34; refine (markText_any _ _ (by omega) (by omega)).mono ?_; rintro e w2 ⟨rfl, hb2⟩))
        have hbw2 := hbw1.drew.trans (hb2.mono hbw1.size)
        clear c0 c1 c2 c3 c4
        obtain ⟨c0, c1, c2, c3, c4⟩ := HR.out.below hbw2 hglt
        unfold mr at c0 c1 c2 c3 c4
        go_wp2_with fail
        exact ⟨⟨j + 1, by omega, by go_num, by subst hX; go_num, hbw2⟩, by simp [intOf]; omega⟩
      · obtain rfl : j = n := by omega
        go_wp2
        go_ret
        exact ⟨rfl, hbw⟩
end Go.Proofs.YtcnjiphoahoojaaGreatDoor.Recs

/- For laws over lists of records: the laws' own sizes with their sums; blocks between two numbers; two equal rows of strings. -/
namespace Go.Proofs.YtcnjiphoahoojaaGreatDoor.Recs
set_option maxRecDepth 100000
open Go.RowKit Paths

theorem Betw.recs {base top : Nat} {w w' : World} (hb : Betw base top w w') {b : Nat} {v : Value} {n : Nat} {M : List R} (h : RowOf w b v n M) (hk : ∀ k, v.ownBlock = some k → k < base ∨ top ≤ k) : RowOf w' b v n M := ⟨h.1, hb.own h.2 hk⟩

end Go.Proofs.YtcnjiphoahoojaaGreatDoor.Recs

/- Layers: the program's searches (slices.IndexFunc, slices.ContainsFunc, with what it hands them). -/
namespace Go.Proofs.YtcnjiphoahoojaaGreatDoor.Recs
set_option maxRecDepth 100000
open Go.RowKit Paths

set_option maxHeartbeats 800000 in
theorem indexFunc_under (v : Value) (l : List R) (c : Addr) (P : R → Bool) (w : World) (h : RecSl w v l) (hl : l.length ≤ 1048576)
    (HF : ∀ r ∈ l, ∀ w', Below w.heap.size w w' → Calls Tryz.prog 94 #[r.val, .pointer (some c)] w' fun e w'' => e = .returned (.bool (P r)) ∧ Below w'.heap.size w' w'') :
    Calls Tryz.prog 106 #[v, .func (.func 94) #[] #[.pointer (some c)]] w fun e w' => e = .returned (.int .i64 (idxFrom P l 0)) ∧ Below w.heap.size w w' := by
  obtain ⟨A, cap, rfl, hcap, h⟩ := h
  have H := Lib.hid h
  have HFh := Lib.hid HF
  clear h HF
  go_enter Tryz.func106, Tryz.ntmps106
  go_wp2
  go_loopw [8] (fun i wr => ∃ k : Nat, k ≤ l.length ∧ i = .int .i64 k ∧ Hid (idxFrom P l 0 = idxFrom P (l.drop k) k) ∧ Below w.heap.size w wr) (fun i _ => l.length - (intOf i).toNat)
  case atStart => exact ⟨0, by omega, rfl, rfl, Below.refl _ _⟩
  case round =>
    obtain ⟨k, hk, rfl, HK, hbw⟩ := hrel
    by_cases hlt : k < l.length
    · obtain ⟨b, off, rfl, hb, hcell⟩ := H.out (by omega)
      obtain ⟨c0, c1, c2, c3, c4⟩ := (hcell k l[k] (by simp [hlt])).below hbw hb
      have HS := Lib.hid (HK.out.trans (idx_step hlt))
      clear hcell HK
      have hi1 : (k : Int) < (l.length : Int) := by omega
      have hi0 : (0 : Int) ≤ (k : Int) := by omega
      have HC := HFh.out l[k] (List.getElem_mem hlt) _ hbw
      unfold R.val at HC
      rcases Bool.eq_false_or_eq_true (P l[k]) with he | he
      · have HE : Hid (idxFrom P l 0 = k) := by show _ = _; rw [HS.out, if_pos he]
        go_wp2_with (go_at_call 94; refine HC.mono ?_; rintro e w1 ⟨rfl, hb1⟩)
        go_ret
        exact ⟨ret_int HE.out.symm, hbw.trans (hb1.mono hbw.size)⟩
      · have HE : Hid (idxFrom P l 0 = idxFrom P (l.drop (k + 1)) (k + 1)) := by show _ = _; rw [HS.out, if_neg (by rw [he]; decide)]
        go_wp2_with (go_at_call 94; refine HC.mono ?_; rintro e w1 ⟨rfl, hb1⟩)
        exact ⟨⟨k + 1, by omega, by go_num, HE, hbw.trans (hb1.mono hbw.size)⟩, by simp [intOf]; omega⟩
    · have HE := Lib.hid (HK.out.trans (idx_end (by omega)))
      go_wp2
      go_ret
      exact ⟨ret_int HE.out.symm, hbw⟩

theorem under_test (r : R) (c : Nat) (q : ByteArray) (w : World) (h : w.cell? ⟨c, 0, none⟩ = some (.string q)) (hq : q.size ≤ maxLen) (hr : r.p.size ≤ maxLen) :
    Calls Tryz.prog 94 #[r.val, .pointer (some ⟨c, 0, none⟩)] w fun e w' => e = .returned (.bool (r.o && isBelowB q r.p)) ∧ Below w.heap.size w w' := by
  unfold R.val
  have h1 : (w.alloc (.cells #[.int .i64 r.k, .string r.p, .string r.b, .int .i64 r.m, .bool r.o] 60)).cell? ⟨c, 0, none⟩ = some (.string q) := cell?_alloc_old _ h
  have hb0 : Below w.heap.size w (w.alloc (.cells #[.int .i64 r.k, .string r.p, .string r.b, .int .i64 r.m, .bool r.o] 60)) := (Below.refl _ _).alloc (Nat.le_refl _) _
  rcases Bool.eq_false_or_eq_true r.o with ho | ho
  · rw [ho] at h1 hb0 ⊢
    go_enter Tryz.func94, Tryz.ntmps94
    go_wp2_with fail
    refine (isBelow_impl _ _ _ hq hr).mono ?_
    rintro e w1 ⟨rfl, hb1⟩
    go_wp2_with fail
    go_ret
    exact ⟨rfl, hb0.trans (hb1.mono hb0.size)⟩
  · rw [ho] at h1 hb0 ⊢
    go_enter Tryz.func94, Tryz.ntmps94
    go_wp2_with fail
    go_ret
    exact ⟨rfl, hb0⟩

theorem containsFunc_any (v f : Value) (n : Int) (w : World)
    (HC : Calls Tryz.prog 106 #[v, f] w fun e w' => e = .returned (.int .i64 n) ∧ Below w.heap.size w w') :
    Calls Tryz.prog 93 #[v, f] w fun e w' => e = .returned (.bool (decide (0 ≤ n))) ∧ Below w.heap.size w w' := by
  go_enter Tryz.func93, Tryz.ntmps93
  go_wp2_with fail
  refine HC.mono ?_
  rintro e w1 ⟨rfl, hb1⟩
  go_wp2_with fail
  go_ret
  exact ⟨rfl, hb1⟩

/-- A record that is Opaque lies above the path. -/
def underI (l : List R) (q : ByteArray) : Bool := l.any fun r => r.o && isBelowB q r.p
theorem underOpaque_any (v : Value) (l : List R) (q : ByteArray) (w : World) (h : RecSl w v l) (hl : l.length ≤ 1048576) (hq : q.size ≤ maxLen) (hr : ∀ r ∈ l, r.p.size ≤ maxLen) :
    Calls Tryz.prog 56 #[v, .string q] w fun e w' => e = .returned (.bool (underI l q)) ∧ Below w.heap.size w w' := by
  have hb0 : Below w.heap.size w (w.alloc (.cells #[.string q] 9)) := (Below.refl _ _).alloc (Nat.le_refl _) _
  have hc0 : (w.alloc (.cells #[.string q] 9)).cell? ⟨w.heap.size, 0, none⟩ = some (.string q) := by go_simp
  have h0 := h.below hb0
  have HC := indexFunc_under v l ⟨w.heap.size, 0, none⟩ (fun r => r.o && isBelowB q r.p) (w.alloc (.cells #[.string q] 9)) h0 hl
    (fun r hm w' hb => under_test r w.heap.size q w' ((hb.cell (p := ⟨w.heap.size, 0, none⟩) (by simp)).trans hc0) hq (hr r hm))
  have HD := containsFunc_any _ _ _ _ HC
  rw [idx_any] at HD
  obtain ⟨A, cap, rfl, _⟩ := h
  go_enter Tryz.func56, Tryz.ntmps56
  go_wp2_with fail
  refine HD.mono ?_
  rintro e w1 ⟨rfl, hb1⟩
  go_wp2_with fail
  go_ret
  exact ⟨rfl, hb0.trans (hb1.mono hb0.size)⟩
end Go.Proofs.YtcnjiphoahoojaaGreatDoor.Recs

/- Layers: UnderOpaque, of the program and of its model. Conditions (of the program's): the table of kinds, the two sentinels. -/
namespace Go.Proofs.YtcnjiphoahoojaaGreatDoor.Recs
set_option maxRecDepth 100000
open Go.RowKit Paths Errs

/-- The program's way to look comes to the same. -/
theorem under_gen {l : List R} (hs : Sorted l) (hf : ∀ r ∈ l, r.fault = 0) {q : ByteArray} (hq : pathB q.data.toList = true) : underI l q = underL l q := by
  rw [underL_any]
  unfold underI
  rw [Bool.eq_iff_iff, List.any_eq_true, List.any_eq_true]
  constructor
  · rintro ⟨r, hm, hr⟩
    have hp := (fault_path (hf r hm)).1
    simp only [Bool.and_eq_true] at hr
    rw [below_two (path_pos hp) hq hp, ← isUp_below hq, isUp_iff] at hr
    refine ⟨r.p, hr.2, ?_⟩
    rw [opaqueAt_eq, recAt_of (hs) hm]
    exact hr.1
  · rintro ⟨a, ha, ho⟩
    rw [opaqueAt_eq] at ho
    cases hr : recAt l a with
    | none => rw [hr] at ho; cases ho
    | some r =>
      rw [hr] at ho
      obtain ⟨hm, rfl⟩ := recAt_mem hr
      have hp := (fault_path (hf r hm)).1
      refine ⟨r, hm, ?_⟩
      simp only [Bool.and_eq_true]
      refine ⟨ho, ?_⟩
      rw [below_two (path_pos hp) hq hp, ← isUp_below hq, isUp_iff]
      exact ha
end Go.Proofs.YtcnjiphoahoojaaGreatDoor.Recs

/- Layers: the canonical form, of the program. -/
namespace Go.Proofs.YtcnjiphoahoojaaGreatDoor.Recs
set_option maxRecDepth 100000
open Go.RowKit Paths Errs

theorem canon_plain {l : List R} {r : R} (hu : underL l r.p = false) (hd : (cutAt 47 r.p.data.toList).length < 4) : canonR l r = some r := by
  unfold canonR; rw [if_neg (by rw [hu]; decide), decide_eq_true hd]; simp
set_option maxHeartbeats 3200000 in
theorem canonicalForm_gen (v : Value) (l : List R) (w : World) (h : RecSl w v l) (hsd : Sorted l) (hf : ∀ r ∈ l, r.fault = 0) (hl16 : l.length ≤ 1024) (hr : ∀ r ∈ l, r.p.size ≤ maxLen) :
    Calls Tryz.prog 36 #[v] w fun e w' => ∃ x, e = .returned x ∧ Below w.heap.size w w' ∧ RowOf w' w.heap.size x (canonL l).length (canonL l) := by
  obtain ⟨i0, hi, hI0, hI1, hI2⟩ := info_parts recInfo
  have hsl := h
  obtain ⟨A, cap, rfl, hcap, h⟩ := h
  have HSl := Lib.hid hsl
  have H := Lib.hid h
  have HO := Lib.hid hf
  have HSD := Lib.hid hsd
  clear h hsl hf hsd
  go_enter Tryz.func36, Tryz.ntmps36
  go_wp2
  go_loopw [3, 9] (fun f i wr => ∃ (k : Nat) (M : List R), k ≤ l.length ∧ i = .int .i64 k ∧ RowOf wr w.heap.size f M.length M ∧ Hid (Done l k M) ∧ Below w.heap.size w wr) (fun _ i _ => l.length - (intOf i).toNat)
  case atStart => exact ⟨0, [], by omega, rfl, ⟨rfl, World.ownsRow_nil _ _ _ _⟩, done_start l, Below.refl _ _⟩
  case round =>
    obtain ⟨k, M, hk, rfl, hrow, HD, hbw⟩ := hrel
    by_cases hlt : k < l.length
    · obtain ⟨b, off, rfl, hb, hcell⟩ := H.out (by omega)
      obtain ⟨c0, c1, c2, c3, c4⟩ := (hcell k l[k] (by simp [hlt])).below hbw hb
      clear hcell
      have hi1 : (k : Int) < (l.length : Int) := by omega
      have hi0 : (0 : Int) ≤ (k : Int) := by omega
      have hm := List.getElem_mem hlt
      have hp := (fault_path (HO.out _ hm)).1
      have HU := Lib.hid (under_gen HSD.out HO.out hp)
      have hq := hr l[k] hm
      have hM := done_len HD.out hl16
      obtain ⟨fA, fcap, rfl⟩ := hrow.form
      have hbA : Below wr.heap.size wr (wr.alloc (.cells #[.int .i64 l[k].k, .string l[k].p, .string l[k].b, .int .i64 l[k].m, .bool l[k].o] 60)) := (Below.refl _ _).alloc (Nat.le_refl _) _
      have hslA := HSl.out.below (hbw.trans (hbA.mono hbw.size))
      have HC := underOpaque_any _ l l[k].p _ hslA (by omega) hq hr
      rw [HU.out] at HC
      have hrA := hrow.below hbA
      rcases Bool.eq_false_or_eq_true (underL l l[k].p) with hu | hu
      · rw [hu] at HC
        by_cases h4 : l[k].k = 4
        · have HN := Lib.hid (done_skip hlt HD.out (canon_skip hu h4))
          have hd4 : (l[k].k == 4) = true := by simpa using h4
          clear h4
          go_wp2_with fail
          refine HC.mono ?_
          rintro e w1 ⟨rfl, hb1⟩
          obtain ⟨hc1, hf1⟩ := bcell hb1
          have hz1 : wr.heap.size < w1.heap.size := by have := hb1.size; simp at this; omega
          have cA := hbw.trans (hbA.mono hbw.size)
          have c1 := cA.trans (hb1.mono cA.size)
          go_wp2_with fail
          exact ⟨⟨k + 1, M, by omega, by go_num, hrA.below hb1, HN, c1⟩, by simp [intOf]; omega⟩
        · have HN := Lib.hid (done_take hlt HD.out (canon_under hu h4))
          have hd4 : (l[k].k == 4) = false := by simpa using h4
          clear h4
          go_wp2_with fail
          refine HC.mono ?_
          rintro e w1 ⟨rfl, hb1⟩
          obtain ⟨hc1, hf1⟩ := bcell hb1
          have hz1 : wr.heap.size < w1.heap.size := by have := hb1.size; simp at this; omega
          have cA := hbw.trans (hbA.mono hbw.size)
          have c1 := cA.trans (hb1.mono cA.size)
          have hr2 : RowOf (w1.setCell ⟨wr.heap.size, 4, none⟩ (.bool false)) w.heap.size (.slice fA M.length fcap) M.length M := ⟨rfl, ownsRow_setCell_other (hrA.below hb1).2 hrow.ne _⟩
          have cW : Below w.heap.size w (w1.setCell ⟨wr.heap.size, 4, none⟩ (.bool false)) := c1.setCell hbw.size _
          have hr3 : ((w1.setCell ⟨wr.heap.size, 4, none⟩ (.bool false)).alloc (.cells #[.int .i64 l[k].k, .string l[k].p, .string l[k].b, .int .i64 l[k].m, .bool false] 60)).ownsRow w.heap.size 60 5 (.slice fA M.length fcap) M.length (flat M) := hr2.2.alloc _
          have hsz : (w1.setCell ⟨wr.heap.size, 4, none⟩ (.bool false)).heap.size = w1.heap.size := by simp [World.setCell]
          have hnews := rec_cells_new (w1.setCell ⟨wr.heap.size, 4, none⟩ (.bool false)) { l[k] with o := false } 60
          rw [hsz] at hnews
          have hone := rec_one { l[k] with o := false }
          have hbz : w.heap.size ≤ ((w1.setCell ⟨wr.heap.size, 4, none⟩ (.bool false)).alloc (.cells #[.int .i64 l[k].k, .string l[k].p, .string l[k].b, .int .i64 l[k].m, .bool false] 60)).heap.size := (cW.alloc cW.size _).size
          go_wp2_with (first
            | (at_builtin; refine wpList_append_own _ rfl _ _ 34 rfl w.heap.size 60 i0 (.agg #[.int .i64 0, .string ByteArray.empty, .string ByteArray.empty, .int .i64 0, .bool false]) 5 56 Tryz.underlying34 hi hI0 hI1 hI2 rfl (by decide) _ _ _ rfl hr3 ⟨w1.heap.size, 0, none⟩ 1 1 (R.cs { l[k] with o := false }) rfl rfl hnews hone (by unfold maxLen; omega) (by omega) hbz ?_; intro v' w9 hown' hgrow9 hnil9))
          exact ⟨⟨k + 1, M ++ [{ l[k] with o := false }], by omega, by go_num, row_snoc hown', HN, (cW.alloc cW.size _).grown hgrow9 hbz (fun j hj => (hrow.2.lt j hj).1)⟩, by simp [intOf]; omega⟩
      · rw [hu] at HC
        go_wp2_with fail
        refine HC.mono ?_
        rintro e w1 ⟨rfl, hb1⟩
        obtain ⟨hc1, hf1⟩ := bcell hb1
        have hz1 : wr.heap.size < w1.heap.size := by have := hb1.size; simp at this; omega
        have cA := hbw.trans (hbA.mono hbw.size)
        have c1 := cA.trans (hb1.mono cA.size)
        go_wp2_with fail
        refine (splitPath_any _ _ hq).mono ?_
        rintro e w2 ⟨v2, rfl, hb2, ho2, -, -⟩
        rw [partsOf_yes hp] at ho2
        obtain ⟨A2, cap2, rfl⟩ := own_form ho2
        obtain ⟨hc2, hf2⟩ := bcell hb2
        have hz2 : wr.heap.size < w2.heap.size := by have := hb2.size; omega
        have c2 := c1.trans (hb2.mono c1.size)
        have hp4 := (pathB_parts hp).1
        by_cases h4 : (cutAt 47 l[k].p.data.toList).length = 4
        · have HN := Lib.hid (done_take hlt HD.out (canon_deep hu h4))
          rw [h4]
          have hr2 : RowOf (w2.setCell ⟨wr.heap.size, 4, none⟩ (.bool false)) w.heap.size (.slice fA M.length fcap) M.length M := ⟨rfl, ownsRow_setCell_other ((hrA.below hb1).below hb2).2 hrow.ne _⟩
          have cW : Below w.heap.size w (w2.setCell ⟨wr.heap.size, 4, none⟩ (.bool false)) := c2.setCell hbw.size _
          have hr3 : ((w2.setCell ⟨wr.heap.size, 4, none⟩ (.bool false)).alloc (.cells #[.int .i64 l[k].k, .string l[k].p, .string l[k].b, .int .i64 l[k].m, .bool false] 60)).ownsRow w.heap.size 60 5 (.slice fA M.length fcap) M.length (flat M) := hr2.2.alloc _
          have hsz : (w2.setCell ⟨wr.heap.size, 4, none⟩ (.bool false)).heap.size = w2.heap.size := by simp [World.setCell]
          have hnews := rec_cells_new (w2.setCell ⟨wr.heap.size, 4, none⟩ (.bool false)) { l[k] with o := false } 60
          rw [hsz] at hnews
          have hone := rec_one { l[k] with o := false }
          have hbz : w.heap.size ≤ ((w2.setCell ⟨wr.heap.size, 4, none⟩ (.bool false)).alloc (.cells #[.int .i64 l[k].k, .string l[k].p, .string l[k].b, .int .i64 l[k].m, .bool false] 60)).heap.size := (cW.alloc cW.size _).size
          go_wp2_with (first
            | (at_builtin; refine wpList_append_own _ rfl _ _ 34 rfl w.heap.size 60 i0 (.agg #[.int .i64 0, .string ByteArray.empty, .string ByteArray.empty, .int .i64 0, .bool false]) 5 56 Tryz.underlying34 hi hI0 hI1 hI2 rfl (by decide) _ _ _ rfl hr3 ⟨w2.heap.size, 0, none⟩ 1 1 (R.cs { l[k] with o := false }) rfl rfl hnews hone (by unfold maxLen; omega) (by omega) hbz ?_; intro v' w9 hown' hgrow9 hnil9))
          exact ⟨⟨k + 1, M ++ [{ l[k] with o := false }], by omega, by go_num, row_snoc hown', HN, (cW.alloc cW.size _).grown hgrow9 hbz (fun j hj => (hrow.2.lt j hj).1)⟩, by simp [intOf]; omega⟩
        · have HN := Lib.hid (done_take hlt HD.out (canon_plain hu (by omega)))
          have hd4 : (((cutAt 47 l[k].p.data.toList).length : Int) == 4) = false := by simp; omega
          have hr2 : RowOf w2 w.heap.size (.slice fA M.length fcap) M.length M := (hrA.below hb1).below hb2
          have cW := c2
          have hr3 : (w2.alloc (.cells #[.int .i64 l[k].k, .string l[k].p, .string l[k].b, .int .i64 l[k].m, .bool l[k].o] 60)).ownsRow w.heap.size 60 5 (.slice fA M.length fcap) M.length (flat M) := hr2.2.alloc _
          have hsz : w2.heap.size = w2.heap.size := rfl
          have hnews := rec_cells_new w2 { l[k] with o := l[k].o } 60
          rw [hsz] at hnews
          have hone := rec_one { l[k] with o := l[k].o }
          have hbz : w.heap.size ≤ (w2.alloc (.cells #[.int .i64 l[k].k, .string l[k].p, .string l[k].b, .int .i64 l[k].m, .bool l[k].o] 60)).heap.size := (cW.alloc cW.size _).size
          go_wp2_with (first
            | (at_builtin; refine wpList_append_own _ rfl _ _ 34 rfl w.heap.size 60 i0 (.agg #[.int .i64 0, .string ByteArray.empty, .string ByteArray.empty, .int .i64 0, .bool false]) 5 56 Tryz.underlying34 hi hI0 hI1 hI2 rfl (by decide) _ _ _ rfl hr3 ⟨w2.heap.size, 0, none⟩ 1 1 (R.cs { l[k] with o := l[k].o }) rfl rfl hnews hone (by unfold maxLen; omega) (by omega) hbz ?_; intro v' w9 hown' hgrow9 hnil9))
          exact ⟨⟨k + 1, M ++ [{ l[k] with o := l[k].o }], by omega, by go_num, row_snoc hown', HN, (cW.alloc cW.size _).grown hgrow9 hbz (fun j hj => (hrow.2.lt j hj).1)⟩, by simp [intOf]; omega⟩
    · have HE := Lib.hid (done_end (by omega) HD.out)
      go_wp2
      go_ret
      exact ⟨_, rfl, hbw, by rw [HE.out]; exact hrow⟩
end Go.Proofs.YtcnjiphoahoojaaGreatDoor.Recs

/- Squash, of the program and of its model. Conditions (of the program's): the table of kinds, the two sentinels. -/
namespace Go.Proofs.YtcnjiphoahoojaaGreatDoor.Recs
set_option maxRecDepth 100000
open Go.RowKit Paths Errs

/-- The code of a combination that has grown too long. -/
def limR (l : List R) : List R := if 16 < l.length then [] else l
def limE (l : List R) : Int := if 16 < l.length then 7 else 0
theorem limitRecords_any (A : Option Addr) (n cap : Nat) (w : World) :
    Calls Tryz.prog 35 #[.slice A n cap] w fun e w' => e = .returned (if 16 < n then .tuple #[.slice none 0 0, .int .i64 7] else .tuple #[.slice A n cap, .int .i64 0]) ∧ w = w' := by
  by_cases h : 16 < n
  · rw [if_pos h]
    have hd : decide ((16 : Int) < (n : Int)) = true := by simp; omega
    go_enter Tryz.func35, Tryz.ntmps35
    go_wp2_with fail
    go_ret2
    exact ⟨rfl, rfl⟩
  · rw [if_neg h]
    have hd : decide ((16 : Int) < (n : Int)) = false := by simp; omega
    go_enter Tryz.func35, Tryz.ntmps35
    go_wp2_with fail
    go_ret2
    exact ⟨rfl, rfl⟩
end Go.Proofs.YtcnjiphoahoojaaGreatDoor.Recs

/- MergeTrace, MergeMany of the program. Conditions: the table of kinds, the two sentinels. -/
namespace Go.Proofs.YtcnjiphoahoojaaGreatDoor.Recs
set_option maxRecDepth 100000
open Go.RowKit Paths Errs

theorem firsts_step {W : List (R × Nat)} {k : Nat} (hk : k < W.length) : (W.take (k + 1)).map Prod.fst = (W.take k).map Prod.fst ++ [W[k].1] := by
  rw [List.take_add_one, List.getElem?_eq_getElem hk, List.map_append]
  rfl
def mmC (LL : List (List R)) : Int := if codeS LL = 0 then limE (mmL LL) else codeS LL
def mmR (LL : List (List R)) : List R := if codeS LL = 0 then limR (mmL LL) else []
theorem mm_bad {LL : List (List R)} {c : Int} (h : codeS LL = c) (hc : c ≠ 0) : mmC LL = c ∧ mmR LL = [] := by
  unfold mmC mmR
  rw [if_neg (by rw [h]; exact hc), if_neg (by rw [h]; exact hc), h]
  exact ⟨rfl, rfl⟩
theorem mm_full {LL : List (List R)} (h : codeS LL = 0) (hl : 16 < (mmL LL).length) : mmC LL = 7 ∧ mmR LL = [] := by
  unfold mmC mmR limE limR
  rw [if_pos h, if_pos h, if_pos hl, if_pos hl]
  exact ⟨rfl, rfl⟩
theorem mm_fine {LL : List (List R)} (h : codeS LL = 0) (hl : ¬ 16 < (mmL LL).length) : mmC LL = 0 ∧ mmR LL = mmL LL := by
  unfold mmC mmR limE limR
  rw [if_pos h, if_pos h, if_neg hl, if_neg hl]
  exact ⟨rfl, rfl⟩
theorem mmR_len (LL : List (List R)) : (mmR LL).length ≤ 1048576 := by
  unfold mmR limR
  split
  · split
    · simp
    · omega
  · simp

set_option maxHeartbeats 3200000 in
theorem mergeMany_impl (v : Value) (LL : List (List R)) (x y : Addr) (w : World) (h : StkSl w v LL) (hl : LL.length ≤ 1048576) (hr : ∀ l ∈ LL, l.length ≤ 1048576 ∧ ∀ r ∈ l, r.p.size ≤ maxLen) (hT : Three w x y) :
    Calls Tryz.prog 16 #[v] w fun e w' => ∃ z, e = .returned (.tuple #[z, .int .i64 (mmC LL)]) ∧ Below w.heap.size w w' ∧ RowOf w' w.heap.size z (mmR LL).length (mmR LL) := by
  obtain ⟨i0, hi, hI0, hI1, hI2⟩ := info_parts recInfo
  have HARG : euFrom [(stkE LL).u] 0 = codeS LL := arg_s LL
  by_cases h0 : codeS LL = 0
  · obtain ⟨hc, hSO⟩ := fine_s h0
    have H0 := Lib.hid h0
    have HC := stackU_any v LL x y w h hl hr hT
    rw [hc] at HC
    unfold EN.u EU.val at HC
    have hst := stack_of hSO
    have h80 := wins_80 hSO
    have hfine : ∀ l ∈ LL, Fine l := fun l hm => fine_layer (hst.2 l hm)
    have HWS := Lib.hid (winL_sorted LL)
    have HWF := Lib.hid (winL_fault hfine)
    have HWO := fun w1 hb => winnersOf_any v LL w1 (h.below hb) hst.1 hst.2
    clear HARG h0 hst h hfine
    go_enter Tryz.func16, Tryz.ntmps16
    go_wp2_with fail
    refine HC.mono ?_
    rintro e w1 ⟨rfl, hb1⟩
    have hT1 := hT.below hb1 (Nat.le_refl _)
    have HA := argU1_any .fine x y w1 hT1
    unfold EU.val at HA
    go_wp2_with fail
    refine HA.mono ?_
    rintro e w3 ⟨rfl, hb3⟩
    have c3 := hb1.trans (hb3.mono hb1.size)
    have hcode : euFrom [.fine] 0 = 0 := rfl
    rw [hcode]
    clear hcode
    go_wp2_with fail
    refine (HWO w3 c3).mono ?_
    rintro e w4 ⟨gv, rfl, hb4, hg4⟩
    have c4 := c3.trans (hb4.mono c3.size)
    obtain ⟨gA, gcap, rfl⟩ := hg4.form
    have HG4 := Lib.hid hg4
    clear HWO hg4
    have HWL : Hid (winL LL = (wins LL).map Prod.fst) := rfl
    generalize hWW : wins LL = WW at *
    clear hWW
    go_wp2_with fail
    go_loopw [5, 18] (fun f i wr => ∃ (k : Nat) (M : List R), k ≤ WW.length ∧ i = .int .i64 k ∧ Hid (M = (WW.take k).map Prod.fst) ∧ Hid (M.length = k) ∧ RowOf wr w4.heap.size f M.length M ∧ Below w4.heap.size w4 wr) (fun _ i _ => WW.length - (intOf i).toNat)
    case atStart => exact ⟨0, [], by omega, rfl, rfl, rfl, ⟨rfl, World.ownsRow_nil _ _ _ _⟩, Below.refl _ _⟩
    case round =>
      obtain ⟨k, M, hk, rfl, HM, hMk, hrow, hbw⟩ := hrel
      have hbv := c4.trans (hbw.mono c4.size)
      obtain ⟨fA, fcap, rfl⟩ := hrow.form
      by_cases hlt : k < WW.length
      · obtain ⟨g, cap, hge, hpc⟩ := win_cells (HG4.out.below hbw) hlt
        cases hge
        have HN : Hid (M ++ [WW[k].1] = (WW.take (k + 1)).map Prod.fst) := by show _ = _; rw [firsts_step hlt, ← HM.out]
        obtain ⟨⟨p0, p1, p2, p3, p4⟩, p5⟩ := hpc
        have hMl : M.length ≤ 80 := by have := hMk.out; omega
        have hi1 : (k : Int) < (WW.length : Int) := by omega
        have hi0 : (0 : Int) ≤ (k : Int) := by omega
        generalize hP : WW[k] = P at *
        clear hP
        have cA := hbw.alloc hbw.size (.cells #[.int .i64 P.1.k, .string P.1.p, .string P.1.b, .int .i64 P.1.m, .bool P.1.o, .int .i64 (P.2 : Int)] 62)
        have hrA := hrow.2.alloc (.cells #[.int .i64 P.1.k, .string P.1.p, .string P.1.b, .int .i64 P.1.m, .bool P.1.o, .int .i64 (P.2 : Int)] 62)
        have HNW : Hid (∀ j u, (R.cs P.1)[j]? = some u → ((wr.alloc (.cells #[.int .i64 P.1.k, .string P.1.p, .string P.1.b, .int .i64 P.1.m, .bool P.1.o, .int .i64 (P.2 : Int)] 62)).alloc (.cells #[.int .i64 P.1.k, .string P.1.p, .string P.1.b, .int .i64 P.1.m, .bool P.1.o] 60)).cell? ((⟨wr.heap.size + 1, 0, none⟩ : Addr).add j) = some u) := by
          have h := rec_cells_new (wr.alloc (.cells #[.int .i64 P.1.k, .string P.1.p, .string P.1.b, .int .i64 P.1.m, .bool P.1.o, .int .i64 (P.2 : Int)] 62)) P.1 60
          rw [World.size_alloc] at h
          exact h
        have hone := rec_one P.1
        have HZ : Hid (w4.heap.size ≤ (wr.alloc (.cells #[.int .i64 P.1.k, .string P.1.p, .string P.1.b, .int .i64 P.1.m, .bool P.1.o, .int .i64 (P.2 : Int)] 62)).heap.size) := cA.size
        go_wp2_with (first
          | (at_builtin; refine wpList_append_own _ rfl _ _ 34 rfl w4.heap.size 60 i0 (.agg #[.int .i64 0, .string ByteArray.empty, .string ByteArray.empty, .int .i64 0, .bool false]) 5 56 Tryz.underlying34 hi hI0 hI1 hI2 rfl (by decide) _ _ _ rfl (hrA.alloc _) ⟨wr.heap.size + 1, 0, none⟩ 1 1 (R.cs P.1) rfl rfl HNW.out hone (by unfold maxLen; omega) (by omega) (by have := hbw.size; simp; omega) ?_; intro v' w9 hown' hgrow9 hnil9))
        have hrow9 := row_snoc hown'
        exact ⟨⟨k + 1, _, by omega, by go_num, HN, by show _ = _; simp [hMk.out], hrow9, (cA.alloc cA.size _).grown hgrow9 (cA.alloc cA.size _).size (fun j hj => (hrA.lt j hj).1)⟩, by simp [intOf]; omega⟩
      · have HF : Hid (M = winL LL) := by show _ = _; rw [HM.out, List.take_of_length_le (by omega), HWL.out]
        have hM80 : M.length ≤ 80 := by have := hMk.out; omega
        have hMS : Sorted M := by rw [HF.out]; exact HWS.out
        have hMF : ∀ r ∈ M, r.fault = 0 := by rw [HF.out]; exact HWF.out
        have HC4 := canonicalForm_gen _ M wr hrow.sl hMS hMF (by omega) (fun r hr => path_max (fault_path (hMF r hr)).1)
        have HML : Hid (mmL LL = canonL M) := by show _ = _; unfold mmL; rw [HF.out]
        clear hMS hMF
        go_wp2_with fail
        refine HC4.mono ?_
        rintro e w5 ⟨f, rfl, hb5, hf⟩
        have d5 := hbv.trans (hb5.mono hbv.size)
        obtain ⟨f2A, f2cap, rfl⟩ := hf.form
        have HLI := limitRecords_any f2A (canonL M).length f2cap w5
        have HFF := Lib.hid hf
        clear hf HC4
        by_cases h16 : 16 < (canonL M).length
        · have HQ := Lib.hid (mm_full H0.out (by rw [HML.out]; exact h16))
          rw [if_pos h16] at HLI
          clear h16
          go_wp2_with fail
          refine HLI.mono ?_
          rintro e w6 ⟨rfl, rfl⟩
          go_wp2_with fail
          go_ret2
          exact ⟨.slice none 0 0, by rw [HQ.out.1]; rfl, d5, by rw [HQ.out.2]; exact ⟨rfl, World.ownsRow_nil _ _ _ _⟩⟩
        · have HQ := Lib.hid (mm_fine H0.out (by rw [HML.out]; exact h16))
          rw [if_neg h16] at HLI
          clear h16
          go_wp2_with fail
          refine HLI.mono ?_
          rintro e w6 ⟨rfl, rfl⟩
          go_wp2_with fail
          go_ret2
          exact ⟨_, by rw [HQ.out.1]; rfl, d5, by rw [HQ.out.2, HML.out]; exact ⟨HFF.out.1, own_le HFF.out.2 hbv.size⟩⟩
  · cases hc : stkE LL <;> (
      rw [hc] at HARG
      first
      | exact absurd (HARG.symm.trans rfl) h0
      | (have HC := stackU_any v LL x y w h hl hr hT
         rw [hc] at HC
         unfold EN.u EU.val at HC
         try unfold errV at HC
         try unfold recV at HC
         obtain ⟨vA, vcap, rfl⟩ := h.form
         go_enter Tryz.func16, Tryz.ntmps16
         go_wp2_with fail
         refine HC.mono ?_
         rintro e w1 ⟨rfl, hb1⟩
         have hT1 := hT.below hb1 (Nat.le_refl _)
         have HA := argU1_any ((stkE LL).u) x y w1 hT1
         rw [hc] at HA
         have hne : (codeS LL != 0) = true := (by simpa using h0)
         have HQ := Lib.hid (mm_bad (LL := LL) rfl h0)
         rw [HARG] at HA
         try unfold EN.u at HA
         unfold EU.val at HA
         try unfold errV at HA
         try unfold recV at HA
         generalize hC : codeS LL = C at *
         have HCC := Lib.hid hC
         clear HARG h0 hC
         go_wp2_with fail
         refine HA.mono ?_
         rintro e w3 ⟨rfl, hb3⟩
         have c3 := hb1.trans (hb3.mono hb1.size)
         go_wp2_with fail
         go_ret2
         exact ⟨.slice none 0 0, by rw [HQ.out.1]; first | rfl | (rw [HCC.out]; rfl), c3, by rw [HQ.out.2]; exact ⟨rfl, World.ownsRow_nil _ _ _ _⟩⟩))
end Go.Proofs.YtcnjiphoahoojaaGreatDoor.Recs
