/- Parts of several texts of mine in one file (each begins with its own remark). -/
import Derived.Test.YthopokiablgjoaaGreatDoorCA1
import Derived.Test.YthopokiablgjoaaGreatDoorCA10
import Derived.Test.YthopokiablgjoaaGreatDoorCA11
import Derived.Test.YthopokiablgjoaaGreatDoorCA14
import Derived.Test.YthopokiablgjoaaGreatDoorCA15
import Derived.Test.YthopokiablgjoaaGreatDoorCA2
import Derived.Test.YthopokiablgjoaaGreatDoorCA3
import Derived.Test.YthopokiablgjoaaGreatDoorCA4
import Derived.Test.YthopokiablgjoaaGreatDoorCA5
import Derived.Test.YthopokiablgjoaaGreatDoorCA6
import Derived.Test.YthopokiablgjoaaGreatDoorCA8
import Derived.Test.YthopokiablgjoaaGreatDoorChecked
import Derived.Test.YthopokiablgjoaaGreatDoorShelf
import Derived.Test.YthopokiablgjoaaGreatDoorProg
import Derived.Test.YthopokiablgjoaaGreatDoorRows
import Derived.Deep.Slices
import Derived.OpenShut
import Derived.ShutString
import Derived.ChangeArms
import Derived.WideShapes
import Derived.Lib.LaidTab
import Derived.BigQuiet
import Derived.Deep.QuietTactic
import Derived.Deep.RegionHeld3
import Derived.StillTailTactics
import Derived.Deep.Draws
import Derived.Deep.LoopGhost
import Derived.WalkKit
import Derived.WalkSpells
import Derived.WalkSmall
import Derived.Lib.OthersKept
import Derived.Lib.Hide
import Derived.Lib.Strings
import Derived.Lib.Join
import Derived.Stop.LaidErr
import Derived.Laws.OwnMore
import Derived.BigRegion
import Derived.Laws.BytesArg
import Derived.WalkLawsBesides
import Derived.LaidEql
import Derived.Stop.Asserts
import Derived.Below
import Derived.Stop.LaidTwo
import Derived.ChangeVars
import Derived.Deep.DeepHandedRow
/- Combining layers, plain: the combination is canonical; combining is associative; the combination of a stack has the effect of applying its layers in order, and no other canonical layer has it. -/
namespace Go.Proofs.YthopokiablgjoaaGreatDoor.Recs
open Go.RowKit Paths

/-- A layer of valid records. -/
structure Fine (l : List R) : Prop where
  layer : IsLayer l
  fine : ∀ x ∈ l, x.fault = 0
theorem fine_layer {l : List R} (h : layerOK l = true) : Fine l := ⟨layer_is h, fun _ hx => layer_rec h hx⟩
theorem fine_nil : Fine [] := ⟨⟨List.Pairwise.nil, (fun _ h => by cases h), (fun _ h => by cases h)⟩, (fun _ h => by cases h)⟩
theorem canon_fine {l : List R} (h : Fine l) : Canon (canonL l) := by
  refine ⟨⟨canon_sorted h.layer.sorted, ?_, canon_path h.layer.path⟩, canon_idem h.layer.sorted, ?_⟩
  · intro x hx hp
    obtain ⟨r, hr, he⟩ := mem_canon.1 hx
    rw [(canonR_path he).1] at hp ⊢
    obtain ⟨q, hq, h1, h2⟩ := h.layer.housed r hr hp
    obtain ⟨y, hy⟩ := canonR_dir (l := l) h2
    obtain ⟨f1, f2, _⟩ := canonR_path hy
    exact ⟨y, mem_canon.2 ⟨q, hq, hy⟩, f1.trans h1, f2.trans h2⟩
  · intro x hx
    obtain ⟨r, hr, he⟩ := mem_canon.1 hx
    exact canonR_fault he (h.fine r hr)
theorem Canon.isFine {l : List R} (h : Canon l) : Fine l := ⟨h.layer, h.fine⟩
theorem over_fault {a : List R} {y : R} (h : y.fault = 0) : (overO a y).fault = 0 := by
  obtain ⟨h1, h2, h3, h4, h5⟩ := overO_same a y
  cases ho : (overO a y).o with
  | false =>
    have hy : y.o = false := by
      cases hyo : y.o with
      | false => rfl
      | true => rw [h5 hyo] at ho; cases ho
    rw [show overO a y = y from R_ext h2 h4 h1 h3 (ho.trans hy.symm)]
    exact h
  | true =>
    by_cases hy : y.o = true
    · rw [show overO a y = y from R_ext h2 h4 h1 h3 (ho.trans hy.symm)]
      exact h
    · have hk : y.k = 3 := by
        unfold overO at ho
        split at ho
        · unfold overR at ho
          split at ho
          · rename_i hh; exact hh.1
          · exact absurd ho hy
        · exact absurd ho hy
      unfold R.fault at h ⊢
      rw [h1, h2, h3, h4, ho]
      unfold faultI at h ⊢
      split at h
      · cases h
      split at h
      · cases h
      split at h
      · cases h
      split at h
      · cases h
      split at h
      · cases h
      rename_i a1 a2 a3 a4 a5
      rw [if_neg a1, if_neg a2, if_neg a3, if_neg (fun hh => by
        rcases hh with hh | hh
        · exact a4 (.inl hh)
        · exact hh.2 hk), if_neg a5]
theorem two_fine {a b : List R} (ha : Fine a) (hb : Fine b) : Fine (two a b) := by
  refine ⟨two_layer ha.layer hb.layer, fun z hz => ?_⟩
  rcases (mem_two b a b ha.layer.sorted hb.layer.sorted z).1 hz with ⟨y, hy, rfl⟩ | ⟨h, _⟩
  · exact over_fault (hb.fine y hy)
  · exact ha.fine z h
theorem squash_canon {a b : List R} (ha : Fine a) (hb : Fine b) : Canon (squashL a b) := canon_fine (two_fine ha hb)
theorem two_len (u : List R) : ∀ a b : List R, (twoL u a b).length ≤ a.length + b.length
  | [], b => by rw [twoL]; simp
  | x :: a, [] => by
    have ih := two_len u a []
    rw [twoL]
    split <;> simp at ih ⊢ <;> omega
  | x :: a, y :: b => by
    have i1 := two_len u a (y :: b)
    have i2 := two_len u (x :: a) b
    have i3 := two_len u a b
    rw [twoL]
    split
    · split <;> simp at i1 ⊢ <;> omega
    · split <;> simp at i2 i3 ⊢ <;> omega
termination_by a b => a.length + b.length
theorem squash_len (a b : List R) : (squashL a b).length ≤ a.length + b.length := by
  have h1 := List.length_filterMap_le (canonR (two a b)) (two a b)
  have h2 := two_len b a b
  unfold squashL canonL
  unfold two at h1 ⊢
  omega
/-- The combination of a stack: an empty layer with the lowest one, the result with the next one, and so on. -/
def squashAllL (s : List (List R)) : List R := s.foldl squashL []
def applyAllL (s : List (List R)) (t : List R) : List R := s.foldl (fun x l => applyL l x) t
theorem foldl_squash (s : List (List R)) (hs : ∀ l ∈ s, Fine l) : ∀ c, Canon c → Canon (s.foldl squashL c) ∧ ∀ t, IsTree t → applyL (s.foldl squashL c) t = applyAllL s (applyL c t) := by
  induction s with
  | nil => exact fun c hc => ⟨hc, fun _ _ => rfl⟩
  | cons l s ih =>
    intro c hc
    have hl := hs l (by simp)
    have h1 := squash_canon hc.isFine hl
    obtain ⟨h2, h3⟩ := ih (fun x hx => hs x (by simp [hx])) (squashL c l) h1
    refine ⟨h2, fun t ht => ?_⟩
    show applyL (s.foldl squashL (squashL c l)) t = applyAllL s (applyL l (applyL c t))
    rw [h3 t ht, apply_squash hc.layer hl.layer ht]
theorem canon_nil : Canon [] := ⟨fine_nil.layer, rfl, fine_nil.fine⟩
theorem squashAll_canon {s : List (List R)} (hs : ∀ l ∈ s, Fine l) : Canon (squashAllL s) := (foldl_squash s hs [] canon_nil).1
end Go.Proofs.YthopokiablgjoaaGreatDoor.Recs

/- Combining two layers, plain: what the upper one cuts off as the program looks at it; the combination step by step. -/
namespace Go.Proofs.YthopokiablgjoaaGreatDoor.Recs
set_option maxRecDepth 100000
open Go.RowKit Paths

/-- A record that stops lies above the path. -/
def cutsI (l : List R) (q : ByteArray) : Bool := l.any fun r => stops r && isBelowB q r.p
theorem cuts_same {l : List R} (hs : Sorted l) (hf : ∀ r ∈ l, r.fault = 0) {q : ByteArray} (hq : pathB q.data.toList = true) : cutsI l q = cutsL l q := by
  unfold cutsI cutsL
  rw [Bool.eq_iff_iff, List.any_eq_true, List.any_eq_true]
  constructor
  · rintro ⟨r, hm, hr⟩
    have hp := (fault_path (hf r hm)).1
    simp only [Bool.and_eq_true] at hr
    rw [below_two (path_pos hp) hq hp, ← isUp_below hq, isUp_iff] at hr
    refine ⟨r.p, hr.2, ?_⟩
    unfold stopsAt
    rw [recAt_of hs hm]
    exact hr.1
  · rintro ⟨a, ha, ho⟩
    unfold stopsAt at ho
    cases hr : recAt l a with
    | none => rw [hr] at ho; cases ho
    | some r =>
      rw [hr] at ho
      obtain ⟨hm, rfl⟩ := recAt_mem hr
      have hp := (fault_path (hf r hm)).1
      refine ⟨r, hm, ?_⟩
      simp only [Bool.and_eq_true]
      refine ⟨ho, ?_⟩
      rw [below_two (path_pos hp) hq hp, ← isUp_below hq, isUp_iff]
      exact ha

theorem two_end (u : List R) : twoL u [] [] = [] := by rw [twoL]
theorem two_up (u : List R) (y : R) (b : List R) : twoL u [] (y :: b) = y :: twoL u [] b := by rw [twoL, twoL]
theorem two_cut0 {u : List R} {x : R} {a : List R} (hc : cutsL u x.p = true) : twoL u (x :: a) [] = twoL u a [] := by rw [twoL, if_pos hc]
theorem two_take0 {u : List R} {x : R} {a : List R} (hc : cutsL u x.p = false) : twoL u (x :: a) [] = x :: twoL u a [] := by rw [twoL, if_neg (by rw [hc]; decide)]
theorem two_cut1 {u : List R} {x y : R} {a b : List R} (hl : lessR x y = true) (hc : cutsL u x.p = true) : twoL u (x :: a) (y :: b) = twoL u a (y :: b) := by rw [twoL, if_pos hl, if_pos hc]
theorem two_take1 {u : List R} {x y : R} {a b : List R} (hl : lessR x y = true) (hc : cutsL u x.p = false) : twoL u (x :: a) (y :: b) = x :: twoL u a (y :: b) := by rw [twoL, if_pos hl, if_neg (by rw [hc]; decide)]
theorem two_high {u : List R} {x y : R} {a b : List R} (hl : lessR x y = false) (hn : x.p ≠ y.p) : twoL u (x :: a) (y :: b) = y :: twoL u (x :: a) b := by
  rw [twoL, if_neg (by rw [hl]; decide), if_pos]
  rcases less_or hn with h | h
  · rw [hl] at h; cases h
  · exact h
theorem less_self {x y : R} (h : x.p = y.p) : lessR x y = false := by unfold lessR; rw [h, lessP_irrefl]
theorem two_eq {u : List R} {x y : R} {a b : List R} (h : x.p = y.p) : twoL u (x :: a) (y :: b) = overR x y :: twoL u a b := by
  rw [twoL, if_neg (by rw [less_self h]; decide), if_neg (by rw [less_self h.symm]; decide)]

end Go.Proofs.YthopokiablgjoaaGreatDoor.Recs

/- Cuts of the model. -/
namespace Go.Proofs.YthopokiablgjoaaGreatDoor.Recs
set_option maxRecDepth 100000
open Go.RowKit Paths

theorem l06Stops_any (r : R) (w : World) :
    Calls Tryz.prog 152 #[r.val] w fun e w' => e = .returned (.bool (stops r)) ∧ Below w.heap.size w w' := by
  obtain ⟨rk, rm, rp, rb, ro⟩ := r
  unfold R.val
  dsimp only
  have hb : Below w.heap.size w (w.alloc (.cells #[.int .i64 rk, .string rp, .string rb, .int .i64 rm, .bool ro] 52)) := (Below.refl _ _).alloc (Nat.le_refl _) _
  by_cases h3 : rk = 3
  · have q3 : (rk != 3) = false := by simp [h3]
    have HE : Hid (stops ⟨rk, rm, rp, rb, ro⟩ = ro) := (by show _ = _; unfold stops; simp [h3])
    clear h3
    go_enter Tryz.func152, Tryz.ntmps152
    go_wp2_with fail
    go_ret
    exact ⟨ret_bool HE.out.symm, hb⟩
  · have q3 : (rk != 3) = true := by simp [h3]
    have HE : Hid (stops ⟨rk, rm, rp, rb, ro⟩ = true) := (by show _ = _; unfold stops; simp [h3])
    clear h3
    go_enter Tryz.func152, Tryz.ntmps152
    go_wp2_with fail
    go_ret
    exact ⟨ret_bool HE.out.symm, hb⟩

def pmC : Value → Nat
  | .string s => if s.size = 0 then 0 else (cutAt 47 s.data.toList).length
  | _ => 0
theorem parO_sizeC {p : ByteArray} (h : parentL p.data.toList = []) : (parO p).size = 0 := by rw [Lib.size_eq]; show (parentL p.data.toList).toArray.toList.length = 0; rw [h]; rfl
theorem path_posC {p : ByteArray} (h : pathB p.data.toList = true) : p.size ≠ 0 := fun e => by rw [pathB_empty e] at h; cases h
theorem pm_downC {p : ByteArray} (h : pathB p.data.toList = true) : pmC (.string (parO p)) < pmC (.string p) := by
  have h0 := path_posC h
  have h1 : 0 < (cutAt 47 p.data.toList).length := cutAt_pos 47 _
  show (if (parO p).size = 0 then 0 else (cutAt 47 (parO p).data.toList).length) < (if p.size = 0 then 0 else (cutAt 47 p.data.toList).length)
  rw [if_neg h0]
  by_cases hp : parentL p.data.toList = []
  · rw [if_pos (parO_sizeC hp)]; exact h1
  · obtain ⟨h2, h3⟩ := parts_parent h hp
    rw [if_neg (path_posC h2)]
    omega
theorem cuts_step (l : List R) {q : ByteArray} (h : pathB q.data.toList = true) : cutsL l q = if parentL q.data.toList = [] then false else stopsAt l (parO q) || cutsL l (parO q) := by
  unfold cutsL
  rw [ups_step h]
  split <;> rfl
/-- What is still to look at: none, or the path and what is above it. -/
def LeftC (l : List R) (u : Bool) (p : ByteArray) : Prop := (p.size = 0 ∧ u = false) ∨ (pathB p.data.toList = true ∧ u = (stopsAt l p || cutsL l p))
theorem leftC_start {l : List R} {q : ByteArray} (h : pathB q.data.toList = true) : LeftC l (cutsL l q) (parO q) := by
  by_cases hp : parentL q.data.toList = []
  · exact .inl ⟨parO_sizeC hp, by rw [cuts_step l h, if_pos hp]⟩
  · exact .inr ⟨(parts_parent h hp).1, by rw [cuts_step l h, if_neg hp]⟩
theorem leftC_next {l : List R} {u : Bool} {p : ByteArray} (h : pathB p.data.toList = true) (hu : u = (stopsAt l p || cutsL l p)) (ho : stopsAt l p = false) : LeftC l u (parO p) := by
  rw [ho, Bool.false_or] at hu
  rw [hu]
  exact leftC_start h

set_option maxHeartbeats 1600000 in
theorem l06Cuts_any (v : Value) (l : List R) (q : ByteArray) (w : World) (h : RecSl w v l) (hl : l.length ≤ 1048576) (hq : pathB q.data.toList = true) :
    Calls Tryz.prog 153 #[v, .string q] w fun e w' => e = .returned (.bool (cutsL l q)) ∧ Below w.heap.size w w' := by
  have hsl := h
  obtain ⟨A, cap, rfl, hcap, h⟩ := h
  have HS := Lib.hid hsl
  have H := Lib.hid h
  have HL0 := Lib.hid (leftC_start (l := l) hq)
  have hqs := path_short hq
  clear h hsl
  go_enter Tryz.func153, Tryz.ntmps153
  go_wp2_with fail
  refine (l01Parent_any q _ (by unfold maxLen; omega)).mono ?_
  rintro e w1 ⟨rfl, rfl⟩
  go_wp2_with fail
  go_loopw [5] (fun p wr => ∃ P : ByteArray, p = .string P ∧ Below w.heap.size w wr ∧ Hid (LeftC l (cutsL l q) P)) (fun p _ => pmC p)
  case atStart => exact ⟨parO q, rfl, Below.refl _ _, HL0⟩
  case round =>
    obtain ⟨P, rfl, kw, HP⟩ := hrel
    rcases HP.out with ⟨h0, hu⟩ | ⟨hp, hu⟩
    · have HU := Lib.hid hu
      have he := isEmpty_true h0
      clear h0 hu
      go_wp2_with fail
      go_ret
      exact ⟨ret_bool HU.out.symm, kw⟩
    · have HU := Lib.hid hu
      have he := isEmpty_false (Nat.pos_of_ne_zero (path_posC hp))
      have hps := path_short hp
      have HM := Lib.hid (pm_downC hp)
      have HPP := Lib.hid hp
      clear hu hp
      go_wp2_with fail
      refine (l03At_any _ l _ _ (HS.out.below kw) hl).mono ?_
      rintro e w1 ⟨rfl, rfl⟩
      rcases atL_recAt l P with ⟨ha, hn⟩ | ⟨j, hj, ha, hn⟩
      · have HN := Lib.hid (leftC_next HPP.out HU.out (by unfold stopsAt; rw [hn]; rfl))
        rw [ha]
        clear ha hn
        go_wp2_with fail
        refine (l01Parent_any P _ (by unfold maxLen; omega)).mono ?_
        rintro e w1 ⟨rfl, rfl⟩
        go_wp2_with fail
        go_roundw
        case rel => exact ⟨parO P, rfl, kw, HN⟩
        case measure => exact HM.out
      · have HO : Hid (stopsAt l P = stops l[j]) := (by show _ = _; unfold stopsAt; rw [hn]; rfl)
        obtain ⟨b, off, rfl, hb, hcell⟩ := H.out (by omega)
        obtain ⟨f0, f1, f2, f3, f4⟩ := (hcell j l[j] (by simp [hj])).below kw hb
        have j1 : (0 : Int) ≤ (j : Int) := by omega
        have j2 : (j : Int) < (l.length : Int) := by omega
        have j3 : decide ((0 : Int) ≤ (j : Int)) = true := by simp
        have HST := l06Stops_any l[j] wr
        unfold R.val at HST
        rw [ha]
        clear ha hcell hn
        go_wp2_with fail
        refine HST.mono ?_
        rintro e w2 ⟨rfl, hb2⟩
        have k2 := kw.trans (hb2.mono kw.size)
        cases ho : stops l[j] with
        | true =>
          have HF : Hid (cutsL l q = true) := (by show _ = _; rw [HU.out, HO.out, ho]; rfl)
          clear ho
          go_wp2_with fail
          go_ret
          exact ⟨ret_bool HF.out.symm, k2⟩
        | false =>
          have HN := Lib.hid (leftC_next HPP.out HU.out (HO.out.trans ho))
          clear ho
          go_wp2_with fail
          refine (l01Parent_any P _ (by unfold maxLen; omega)).mono ?_
          rintro e w3 ⟨rfl, rfl⟩
          go_wp2_with fail
          go_roundw
          case rel => exact ⟨parO P, rfl, k2, HN⟩
          case measure => exact HM.out

end Go.Proofs.YthopokiablgjoaaGreatDoor.Recs

/- What an upper layer cuts off: Cuts, of the program and of its model. Conditions (of the program's): the table of kinds, the two sentinels. -/
namespace Go.Proofs.YthopokiablgjoaaGreatDoor.Recs
set_option maxRecDepth 100000
open Go.RowKit Paths Errs

theorem stops_any (r : R) (w : World) :
    Calls Tryz.prog 141 #[r.val] w fun e w' => e = .returned (.bool (stops r)) ∧ Below w.heap.size w w' := by
  obtain ⟨rk, rm, rp, rb, ro⟩ := r
  unfold R.val
  dsimp only
  have hb : Below w.heap.size w (w.alloc (.cells #[.int .i64 rk, .string rp, .string rb, .int .i64 rm, .bool ro] 52)) := (Below.refl _ _).alloc (Nat.le_refl _) _
  by_cases h3 : rk = 3
  · have q3 : (rk != 3) = false := by simp [h3]
    have HE : Hid (stops ⟨rk, rm, rp, rb, ro⟩ = ro) := (by show _ = _; unfold stops; simp [h3])
    clear h3
    go_enter Tryz.func141, Tryz.ntmps141
    go_wp2_with fail
    go_ret
    exact ⟨ret_bool HE.out.symm, hb⟩
  · have q3 : (rk != 3) = true := by simp [h3]
    have HE : Hid (stops ⟨rk, rm, rp, rb, ro⟩ = true) := (by show _ = _; unfold stops; simp [h3])
    clear h3
    go_enter Tryz.func141, Tryz.ntmps141
    go_wp2_with fail
    go_ret
    exact ⟨ret_bool HE.out.symm, hb⟩

theorem cut_test (r : R) (c : Nat) (q : ByteArray) (w : World) (h : w.cell? ⟨c, 0, none⟩ = some (.string q)) (hq : q.size ≤ maxLen) (hr : r.p.size ≤ maxLen) :
    Calls Tryz.prog 192 #[r.val, .pointer (some ⟨c, 0, none⟩)] w fun e w' => e = .returned (.bool (stops r && isBelowB q r.p)) ∧ Below w.heap.size w w' := by
  have hcl := World.block_lt_of_cell? w _ h
  have hb0 : Below w.heap.size w (w.alloc (.cells #[.int .i64 r.k, .string r.p, .string r.b, .int .i64 r.m, .bool r.o] 52)) := (Below.refl _ _).alloc (Nat.le_refl _) _
  have HST := stops_any r (w.alloc (.cells #[.int .i64 r.k, .string r.p, .string r.b, .int .i64 r.m, .bool r.o] 52))
  have hq0 : (w.alloc (.cells #[.int .i64 r.k, .string r.p, .string r.b, .int .i64 r.m, .bool r.o] 52)).cell? ⟨c, 0, none⟩ = some (.string q) := cell?_alloc_old _ h
  have hp0 : (w.alloc (.cells #[.int .i64 r.k, .string r.p, .string r.b, .int .i64 r.m, .bool r.o] 52)).cell? ⟨w.heap.size, 1, none⟩ = some (.string r.p) := by go_simp
  have HQ0 := Lib.hid hq0
  have HP0 := Lib.hid hp0
  clear hq0 hp0 h
  unfold R.val at HST ⊢
  rcases Bool.eq_false_or_eq_true (stops r) with ho | ho
  · rw [ho] at HST ⊢
    go_enter Tryz.func192, Tryz.ntmps192
    go_wp2_with fail
    refine HST.mono ?_
    rintro e w1 ⟨rfl, hb1⟩
    have hq1 : w1.cell? ⟨c, 0, none⟩ = some (.string q) := (hb1.cell (p := ⟨c, 0, none⟩) (by simp; omega)).trans HQ0.out
    have hp1 : w1.cell? ⟨w.heap.size, 1, none⟩ = some (.string r.p) := (hb1.cell (p := ⟨w.heap.size, 1, none⟩) (by simp)).trans HP0.out
    have c1 := hb0.trans (hb1.mono hb0.size)
    go_wp2_with fail
    refine (isBelow_impl _ _ _ hq hr).mono ?_
    rintro e w2 ⟨rfl, hb2⟩
    go_wp2_with fail
    go_ret
    exact ⟨rfl, c1.trans (hb2.mono c1.size)⟩
  · rw [ho] at HST ⊢
    go_enter Tryz.func192, Tryz.ntmps192
    go_wp2_with fail
    refine HST.mono ?_
    rintro e w1 ⟨rfl, hb1⟩
    go_wp2_with fail
    go_ret
    exact ⟨rfl, hb0.trans (hb1.mono hb0.size)⟩

set_option maxHeartbeats 800000 in
theorem indexFunc_cut (v : Value) (l : List R) (c : Addr) (P : R → Bool) (w : World) (h : RecSl w v l) (hl : l.length ≤ 1048576)
    (HF : ∀ r ∈ l, ∀ w', Below w.heap.size w w' → Calls Tryz.prog 192 #[r.val, .pointer (some c)] w' fun e w'' => e = .returned (.bool (P r)) ∧ Below w'.heap.size w' w'') :
    Calls Tryz.prog 209 #[v, .func (.func 192) #[] #[.pointer (some c)]] w fun e w' => e = .returned (.int .i64 (idxFrom P l 0)) ∧ Below w.heap.size w w' := by
  obtain ⟨A, cap, rfl, hcap, h⟩ := h
  have H := Lib.hid h
  have HFh := Lib.hid HF
  clear h HF
  go_enter Tryz.func209, Tryz.ntmps209
  go_wp2
  go_loopw [8] (fun i wr => ∃ k : Nat, k ≤ l.length ∧ i = .int .i64 k ∧ Hid (idxFrom P l 0 = idxFrom P (l.drop k) k) ∧ Below w.heap.size w wr) (fun i _ => l.length - (intOf i).toNat)
  case atStart => exact ⟨0, by omega, rfl, rfl, Below.refl _ _⟩
  case round =>
    obtain ⟨k, hk, rfl, HK, hbw⟩ := hrel
    by_cases hlt : k < l.length
    · obtain ⟨b, off, rfl, hb, hcell⟩ := H.out (by omega)
      obtain ⟨c0, c1, c2, c3, c4⟩ := (hcell k l[k] (by simp [hlt])).below hbw hb
      have HS := Lib.hid (HK.out.trans (idx_step hlt))
      clear hcell HK
      have hi1 : (k : Int) < (l.length : Int) := by omega
      have hi0 : (0 : Int) ≤ (k : Int) := by omega
      have HC := HFh.out l[k] (List.getElem_mem hlt) _ hbw
      unfold R.val at HC
      rcases Bool.eq_false_or_eq_true (P l[k]) with he | he
      · have HE : Hid (idxFrom P l 0 = k) := by show _ = _; rw [HS.out, if_pos he]
        go_wp2_with (go_at_call 192; refine HC.mono ?_; rintro e w1 ⟨rfl, hb1⟩)
        go_ret
        exact ⟨ret_int HE.out.symm, hbw.trans (hb1.mono hbw.size)⟩
      · have HE : Hid (idxFrom P l 0 = idxFrom P (l.drop (k + 1)) (k + 1)) := by show _ = _; rw [HS.out, if_neg (by rw [he]; decide)]
        go_wp2_with (go_at_call 192; refine HC.mono ?_; rintro e w1 ⟨rfl, hb1⟩)
        exact ⟨⟨k + 1, by omega, by go_num, HE, hbw.trans (hb1.mono hbw.size)⟩, by simp [intOf]; omega⟩
    · have HE := Lib.hid (HK.out.trans (idx_end (by omega)))
      go_wp2
      go_ret
      exact ⟨ret_int HE.out.symm, hbw⟩

theorem containsFunc_cut (v f : Value) (n : Int) (w : World)
    (HC : Calls Tryz.prog 209 #[v, f] w fun e w' => e = .returned (.int .i64 n) ∧ Below w.heap.size w w') :
    Calls Tryz.prog 191 #[v, f] w fun e w' => e = .returned (.bool (decide (0 ≤ n))) ∧ Below w.heap.size w w' := by
  go_enter Tryz.func191, Tryz.ntmps191
  go_wp2_with fail
  refine HC.mono ?_
  rintro e w1 ⟨rfl, hb1⟩
  go_wp2_with fail
  go_ret
  exact ⟨rfl, hb1⟩

theorem cutsOff_any (v : Value) (l : List R) (q : ByteArray) (w : World) (h : RecSl w v l) (hl : l.length ≤ 1048576) (hq : q.size ≤ maxLen) (hr : ∀ r ∈ l, r.p.size ≤ maxLen) :
    Calls Tryz.prog 140 #[v, .string q] w fun e w' => e = .returned (.bool (cutsI l q)) ∧ Below w.heap.size w w' := by
  have hb0 : Below w.heap.size w (w.alloc (.cells #[.string q] 9)) := (Below.refl _ _).alloc (Nat.le_refl _) _
  have hc0 : (w.alloc (.cells #[.string q] 9)).cell? ⟨w.heap.size, 0, none⟩ = some (.string q) := by go_simp
  have h0 := h.below hb0
  have HC := indexFunc_cut v l ⟨w.heap.size, 0, none⟩ (fun r => stops r && isBelowB q r.p) (w.alloc (.cells #[.string q] 9)) h0 hl
    (fun r hm w' hb => cut_test r w.heap.size q w' ((hb.cell (p := ⟨w.heap.size, 0, none⟩) (by simp)).trans hc0) hq (hr r hm))
  have HD := containsFunc_cut _ _ _ _ HC
  rw [idx_any] at HD
  obtain ⟨A, cap, rfl, _⟩ := h
  go_enter Tryz.func140, Tryz.ntmps140
  go_wp2_with fail
  refine HD.mono ?_
  rintro e w1 ⟨rfl, hb1⟩
  go_wp2_with fail
  go_ret
  exact ⟨rfl, hb0.trans (hb1.mono hb0.size)⟩
end Go.Proofs.YthopokiablgjoaaGreatDoor.Recs
