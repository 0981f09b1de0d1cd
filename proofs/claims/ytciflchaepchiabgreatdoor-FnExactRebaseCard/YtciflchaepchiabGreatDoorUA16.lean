/- Parts of several texts of mine in one file (each begins with its own remark). -/
import Derived.Test.YtciflchaepchiabGreatDoorUA1
import Derived.Test.YtciflchaepchiabGreatDoorUA10
import Derived.Test.YtciflchaepchiabGreatDoorUA12
import Derived.Test.YtciflchaepchiabGreatDoorUA14
import Derived.Test.YtciflchaepchiabGreatDoorUA15
import Derived.Test.YtciflchaepchiabGreatDoorUA2
import Derived.Test.YtciflchaepchiabGreatDoorUA3
import Derived.Test.YtciflchaepchiabGreatDoorUA4
import Derived.Test.YtciflchaepchiabGreatDoorUA5
import Derived.Test.YtciflchaepchiabGreatDoorUA6
import Derived.Test.YtciflchaepchiabGreatDoorUA7
import Derived.Test.YtciflchaepchiabGreatDoorUA8
import Derived.Test.YtciflchaepchiabGreatDoorUA9
import Derived.Test.YtciflchaepchiabGreatDoorChecked
import Derived.Test.YtciflchaepchiabGreatDoorRows
import Derived.Test.YtciflchaepchiabGreatDoorProg
import Derived.Test.YtciflchaepchiabGreatDoorShelf
import Derived.Deep.RegionHeld3
import Derived.Deep.RegionWith
import Derived.OneCell
import Derived.Lib.SliceRun
import Derived.Laws.OwnMore
import Derived.Deep.Slices
import Derived.OpenShut
import Derived.ShutString
import Derived.ChangeArms
import Derived.WideShapes
import Derived.Lib.LaidTab
import Derived.BigQuiet
import Derived.Deep.QuietTactic
import Derived.StillTailTactics
import Derived.Deep.Draws
import Derived.Deep.LoopGhost
import Derived.WalkKit
import Derived.WalkSpells
import Derived.WalkSmall
import Derived.Lib.OthersKept
import Derived.Lib.Hide
import Derived.Lib.Strings
import Derived.Lib.Join
import Derived.Laws.BytesArg
import Derived.BigRegion
import Derived.Lib.Overlaps
import Derived.Lib.AppendZerosOnto
import Derived.Laws.NewBlocks
import Derived.Laws.IdiomCopy
import Derived.Deep.RegionLaw
import Derived.ChangeVars
import Derived.Deep.DeepHandedRow
import Derived.LaidEql
import Derived.Stop.Asserts
import Derived.Below
import Derived.Stop.LaidErr
import Derived.Stop.LaidTwo
import Derived.WalkLawsBesides
import Derived.RangeFuncNested
import Derived.RangeFuncBound
import Derived.RangeFuncCalls
import Derived.RangeFuncLeaves
import Derived.RangeFuncBox
import Derived.Shelf.Abstract
import Derived.Shelf.RegionOpen
import Derived.OwnWalkIn
import Derived.TacticsInMore
import Derived.LoopNIn
import Derived.LoopIn
/- Trees, of the program: TreeOK; the code of the errors of a call's arguments (a tree's, a text's, a node's). Conditions: the table of kinds, the two sentinels. -/
namespace Go.Proofs.YtciflchaepchiabGreatDoor.Recs
set_option maxRecDepth 100000
open Go.RowKit Paths Errs

theorem grow_ok {l : List R} : growK l = .fine ↔ treeOK l = true := by
  constructor
  · intro h
    unfold growK at h
    split at h
    · cases h
    · split at h
      · assumption
      · cases h
  · intro h
    exact grow_fine (tree_of h)
set_option maxHeartbeats 400000 in
theorem checkTree_any (v : Value) (l : List R) (x y : Addr) (w : World) (h : NodSl w v l) (hl : l.length ≤ 1048576) (hr : ∀ r ∈ l, r.p.size ≤ maxLen) (hT : Three w x y) :
    Calls Tryz.prog 105 #[v] w fun e w' => e = .returned ((growK l).val x y) ∧ Below w.heap.size w w' := by
  have HG := growTree_any v l x y w h hl hr hT
  obtain ⟨ho, sA, cap, rfl, hcap, h⟩ := h
  clear h
  go_enter Tryz.func105, Tryz.ntmps105
  go_wp2_with fail
  refine HG.mono ?_
  rintro e w1 ⟨hb1, (⟨hk, rfl⟩ | ⟨hk, A, S, rfl, hTr⟩)⟩
  · cases hg : growK l with
    | fine => exact absurd hg hk
    | long =>
      have HG2 := Lib.hid hg
      clear hg
      unfold EN.val errV
      go_wp2_with fail
      go_ret
      exact ⟨by rw [HG2.out]; rfl, hb1⟩
    | inv =>
      have HG2 := Lib.hid hg
      clear hg
      unfold EN.val errV
      go_wp2_with fail
      go_ret
      exact ⟨by rw [HG2.out]; rfl, hb1⟩
  · have HG2 := Lib.hid hk
    clear hk
    unfold ptr
    go_wp2_with fail
    go_ret
    exact ⟨by rw [HG2.out]; rfl, hb1⟩

/-- The code of a call's arguments' errors. -/
def enFrom : List EN → Int → Int
  | [], c => c
  | .fine :: t, c => enFrom t c
  | .long :: _, _ => 2
  | .inv :: t, _ => enFrom t 1
theorem en_end {L : List EN} {k : Nat} {c : Int} (h : L.length ≤ k) : enFrom (L.drop k) c = c := by rw [List.drop_eq_nil_of_le h]; rfl
theorem en_fine {L : List EN} {k : Nat} {c : Int} (h : k < L.length) (he : L[k] = .fine) : enFrom (L.drop k) c = enFrom (L.drop (k + 1)) c := by rw [List.drop_eq_getElem_cons h, he]; rfl
theorem en_long {L : List EN} {k : Nat} {c : Int} (h : k < L.length) (he : L[k] = .long) : enFrom (L.drop k) c = 2 := by rw [List.drop_eq_getElem_cons h, he]; rfl
theorem en_inv {L : List EN} {k : Nat} {c : Int} (h : k < L.length) (he : L[k] = .inv) : enFrom (L.drop k) c = enFrom (L.drop (k + 1)) 1 := by rw [List.drop_eq_getElem_cons h, he]; rfl

set_option maxHeartbeats 1600000 in
theorem argumentN_any (g : Nat) (L : List EN) (x y : Addr) (w : World) (hT : Three w x y) (hg : g < w.heap.size) (hn : L.length ≤ 1000) (hc : ∀ k (h : k < L.length), w.cell? ⟨g, k, none⟩ = some (L[k].val x y)) :
    Calls Tryz.prog 74 #[.slice (some ⟨g, 0, none⟩) L.length L.length] w fun e w' => e = .returned (.int .i64 (enFrom L 0)) ∧ Below w.heap.size w w' := by
  have HC := Lib.hid hc
  have HT := Lib.hid hT
  clear hc hT
  go_enter Tryz.func74, Tryz.ntmps74
  go_wp2
  go_loopw [3, 8] (fun c i wr => ∃ (k : Nat) (d : Int), k ≤ L.length ∧ i = .int .i64 k ∧ c = .int .i64 d ∧ Hid (enFrom L 0 = enFrom (L.drop k) d) ∧ Below w.heap.size w wr) (fun _ i _ => L.length - (intOf i).toNat)
  case atStart => exact ⟨0, 0, by omega, rfl, rfl, rfl, Below.refl _ _⟩
  case round =>
    obtain ⟨k, d, hk, rfl, rfl, HK, hbw⟩ := hrel
    by_cases hlt : k < L.length
    · have hcell : wr.cell? ⟨g, k, none⟩ = some (L[k].val x y) := (hbw.cell (p := ⟨g, k, none⟩) hg).trans (HC.out k hlt)
      have hTr := HT.out.below hbw (Nat.le_refl _)
      have hx := hTr.long
      have hy := hTr.bad
      have hi1 : (k : Int) < (L.length : Int) := by omega
      have hi0 : (0 : Int) ≤ (k : Int) := by omega
      cases hE : L[k] with
      | fine =>
        have HF := Lib.hid (HK.out.trans (en_fine hlt hE))
        rw [hE] at hcell
        unfold EN.val at hcell
        have H1 := is_nil x wr
        have H2 := is_nil y wr
        unfold errV at hx hy H1 H2
        go_wp2_with fail
        refine H1.mono ?_
        rintro e w1 ⟨rfl, rfl⟩
        go_wp2_with fail
        refine H2.mono ?_
        rintro e w2 ⟨rfl, rfl⟩
        go_wp2_with fail
        exact ⟨⟨k + 1, d, by omega, by go_num, rfl, HF, hbw⟩, by simp [intOf]; omega⟩
      | long =>
        have HF := Lib.hid (HK.out.trans (en_long hlt hE))
        rw [hE] at hcell
        unfold EN.val at hcell
        have H1 := is_same x wr
        unfold errV at hx hy H1 hcell
        go_wp2_with fail
        refine H1.mono ?_
        rintro e w1 ⟨rfl, rfl⟩
        go_wp2_with fail
        go_ret
        exact ⟨ret_int HF.out.symm, hbw⟩
      | inv =>
        have HF := Lib.hid (HK.out.trans (en_inv hlt hE))
        rw [hE] at hcell
        unfold EN.val at hcell
        obtain ⟨cx, tx, rx⟩ := hTr.rowx
        obtain ⟨cy, ty, ry⟩ := hTr.rowy
        have H1 := is_other y x _ _ _ _ wr (Ne.symm hTr.ne) ry rx
        have H2 := is_same y wr
        unfold errV at hx hy H1 H2 hcell
        go_wp2_with fail
        refine H1.mono ?_
        rintro e w1 ⟨rfl, rfl⟩
        go_wp2_with fail
        refine H2.mono ?_
        rintro e w2 ⟨rfl, rfl⟩
        go_wp2_with fail
        exact ⟨⟨k + 1, 1, by omega, by go_num, rfl, HF, hbw⟩, by simp [intOf]; omega⟩
    · have HE := Lib.hid (HK.out.trans (en_end (by omega)))
      go_wp2
      go_ret
      exact ⟨ret_int HE.out.symm, hbw⟩

/-- The arguments' errors, as the call of a variadic function lays them. -/
theorem argN2_any (a b : EN) (x y : Addr) (w : World) (hT : Three w x y) :
    Calls Tryz.prog 74 #[.slice (some ⟨w.heap.size, 0, none⟩) 2 2] (w.alloc (.cells #[a.val x y, b.val x y] 94)) fun e w' => e = .returned (.int .i64 (enFrom [a, b] 0)) ∧ Below w.heap.size w w' := by
  have hb0 : Below w.heap.size w (w.alloc (.cells #[a.val x y, b.val x y] 94)) := (Below.refl _ _).alloc (Nat.le_refl _) _
  have := argumentN_any w.heap.size [a, b] x y (w.alloc (.cells #[a.val x y, b.val x y] 94)) (hT.below hb0 (Nat.le_refl _)) (by simp) (by simp) (fun k hk => by
    have hk2 : k < 2 := hk
    match k, hk2 with
    | 0, _ => go_simp
    | 1, _ => go_simp)
  refine this.mono ?_
  rintro e w1 ⟨rfl, hb1⟩
  exact ⟨rfl, hb0.trans (hb1.mono hb0.size)⟩
end Go.Proofs.YtciflchaepchiabGreatDoor.Recs

/- The code of the errors of a call's arguments, whichever check they come from. Conditions: the table of kinds, the two sentinels. -/
namespace Go.Proofs.YtciflchaepchiabGreatDoor.Recs
set_option maxRecDepth 100000
open Go.RowKit Paths Errs

/-- An error that a check hands back: none, one of the two sentinels, or the one that names a record. -/
inductive EU where
  | fine
  | long
  | inv
  | bad (i c : Int)
def EU.val (x y : Addr) : EU → Value
  | .fine => .nilIface
  | .long => errV x
  | .inv => errV y
  | .bad i c => recV i c
def EN.u : EN → EU
  | .fine => .fine
  | .long => .long
  | .inv => .inv
theorem EN.u_val (e : EN) (x y : Addr) : e.u.val x y = e.val x y := by cases e <;> rfl
def euFrom : List EU → Int → Int
  | [], c => c
  | .fine :: t, c => euFrom t c
  | .long :: _, _ => 2
  | .inv :: t, _ => euFrom t 1
  | .bad _ _ :: t, _ => euFrom t 1
theorem eu_end {L : List EU} {k : Nat} {c : Int} (h : L.length ≤ k) : euFrom (L.drop k) c = c := by rw [List.drop_eq_nil_of_le h]; rfl
theorem eu_fine {L : List EU} {k : Nat} {c : Int} (h : k < L.length) (he : L[k] = .fine) : euFrom (L.drop k) c = euFrom (L.drop (k + 1)) c := by rw [List.drop_eq_getElem_cons h, he]; rfl
theorem eu_long {L : List EU} {k : Nat} {c : Int} (h : k < L.length) (he : L[k] = .long) : euFrom (L.drop k) c = 2 := by rw [List.drop_eq_getElem_cons h, he]; rfl
theorem eu_inv {L : List EU} {k : Nat} {c : Int} (h : k < L.length) (he : L[k] = .inv) : euFrom (L.drop k) c = euFrom (L.drop (k + 1)) 1 := by rw [List.drop_eq_getElem_cons h, he]; rfl
theorem eu_bad {L : List EU} {k : Nat} {c i d : Int} (h : k < L.length) (he : L[k] = .bad i d) : euFrom (L.drop k) c = euFrom (L.drop (k + 1)) 1 := by rw [List.drop_eq_getElem_cons h, he]; rfl

set_option maxHeartbeats 1600000 in
theorem argumentU_any (g : Nat) (L : List EU) (x y : Addr) (w : World) (hT : Three w x y) (hg : g < w.heap.size) (hn : L.length ≤ 1000) (hc : ∀ k (h : k < L.length), w.cell? ⟨g, k, none⟩ = some (L[k].val x y)) :
    Calls Tryz.prog 74 #[.slice (some ⟨g, 0, none⟩) L.length L.length] w fun e w' => e = .returned (.int .i64 (euFrom L 0)) ∧ Below w.heap.size w w' := by
  have HC := Lib.hid hc
  have HT := Lib.hid hT
  clear hc hT
  go_enter Tryz.func74, Tryz.ntmps74
  go_wp2
  go_loopw [3, 8] (fun c i wr => ∃ (k : Nat) (d : Int), k ≤ L.length ∧ i = .int .i64 k ∧ c = .int .i64 d ∧ Hid (euFrom L 0 = euFrom (L.drop k) d) ∧ Below w.heap.size w wr) (fun _ i _ => L.length - (intOf i).toNat)
  case atStart => exact ⟨0, 0, by omega, rfl, rfl, rfl, Below.refl _ _⟩
  case round =>
    obtain ⟨k, d, hk, rfl, rfl, HK, hbw⟩ := hrel
    by_cases hlt : k < L.length
    · have hcell : wr.cell? ⟨g, k, none⟩ = some (L[k].val x y) := (hbw.cell (p := ⟨g, k, none⟩) hg).trans (HC.out k hlt)
      have hTr := HT.out.below hbw (Nat.le_refl _)
      have hx := hTr.long
      have hy := hTr.bad
      have hi1 : (k : Int) < (L.length : Int) := by omega
      have hi0 : (0 : Int) ≤ (k : Int) := by omega
      cases hE : L[k] with
      | fine =>
        have HF := Lib.hid (HK.out.trans (eu_fine hlt hE))
        rw [hE] at hcell
        unfold EU.val at hcell
        have H1 := is_nil x wr
        have H2 := is_nil y wr
        unfold errV at hx hy H1 H2
        go_wp2_with fail
        refine H1.mono ?_
        rintro e w1 ⟨rfl, rfl⟩
        go_wp2_with fail
        refine H2.mono ?_
        rintro e w2 ⟨rfl, rfl⟩
        go_wp2_with fail
        exact ⟨⟨k + 1, d, by omega, by go_num, rfl, HF, hbw⟩, by simp [intOf]; omega⟩
      | long =>
        have HF := Lib.hid (HK.out.trans (eu_long hlt hE))
        rw [hE] at hcell
        unfold EU.val at hcell
        have H1 := is_same x wr
        unfold errV at hx hy H1 hcell
        go_wp2_with fail
        refine H1.mono ?_
        rintro e w1 ⟨rfl, rfl⟩
        go_wp2_with fail
        go_ret
        exact ⟨ret_int HF.out.symm, hbw⟩
      | inv =>
        have HF := Lib.hid (HK.out.trans (eu_inv hlt hE))
        rw [hE] at hcell
        unfold EU.val at hcell
        obtain ⟨cx, tx, rx⟩ := hTr.rowx
        obtain ⟨cy, ty, ry⟩ := hTr.rowy
        have H1 := is_other y x _ _ _ _ wr (Ne.symm hTr.ne) ry rx
        have H2 := is_same y wr
        unfold errV at hx hy H1 H2 hcell
        go_wp2_with fail
        refine H1.mono ?_
        rintro e w1 ⟨rfl, rfl⟩
        go_wp2_with fail
        refine H2.mono ?_
        rintro e w2 ⟨rfl, rfl⟩
        go_wp2_with fail
        exact ⟨⟨k + 1, 1, by omega, by go_num, rfl, HF, hbw⟩, by simp [intOf]; omega⟩
      | bad i c =>
        have HF := Lib.hid (HK.out.trans (eu_bad hlt hE))
        rw [hE] at hcell
        unfold EU.val at hcell
        obtain ⟨cx, tx, rx⟩ := hTr.rowx
        obtain ⟨cy, ty, ry⟩ := hTr.rowy
        have H1 := is_rec_other i c y x _ _ _ _ wr hy (Ne.symm hTr.ne) ry rx
        have hxl := World.block_lt_of_cell? wr _ hx
        have hyl := World.block_lt_of_cell? wr _ hy
        have hye := hy
        unfold recV at hcell H1
        unfold errV at hx hy H1
        go_wp2_with fail
        refine H1.mono ?_
        rintro e w1 ⟨rfl, hb1⟩
        have hy1 : w1.cell? ⟨1, 0, none⟩ = some (errV y) := (hb1.cell (p := ⟨1, 0, none⟩) hyl).trans hye
        have H2 := is_rec_same i c y w1 hy1
        unfold recV at H2
        unfold errV at hy1 H2
        go_wp2_with fail
        refine H2.mono ?_
        rintro e w2 ⟨rfl, hb2⟩
        go_wp2_with fail
        exact ⟨⟨k + 1, 1, by omega, by go_num, rfl, HF, (hbw.trans (hb1.mono hbw.size)).trans (hb2.mono (hbw.trans (hb1.mono hbw.size)).size)⟩, by simp [intOf]; omega⟩
    · have HE := Lib.hid (HK.out.trans (eu_end (by omega)))
      go_wp2
      go_ret
      exact ⟨ret_int HE.out.symm, hbw⟩

/-- The arguments' errors, as the call of a variadic function lays them. -/
theorem argU2_any (a b : EU) (x y : Addr) (w : World) (hT : Three w x y) :
    Calls Tryz.prog 74 #[.slice (some ⟨w.heap.size, 0, none⟩) 2 2] (w.alloc (.cells #[a.val x y, b.val x y] 94)) fun e w' => e = .returned (.int .i64 (euFrom [a, b] 0)) ∧ Below w.heap.size w w' := by
  have hb0 : Below w.heap.size w (w.alloc (.cells #[a.val x y, b.val x y] 94)) := (Below.refl _ _).alloc (Nat.le_refl _) _
  have := argumentU_any w.heap.size [a, b] x y (w.alloc (.cells #[a.val x y, b.val x y] 94)) (hT.below hb0 (Nat.le_refl _)) (by simp) (by simp) (fun k hk => by
    have hk2 : k < 2 := hk
    match k, hk2 with
    | 0, _ => go_simp
    | 1, _ => go_simp)
  refine this.mono ?_
  rintro e w1 ⟨rfl, hb1⟩
  exact ⟨rfl, hb0.trans (hb1.mono hb0.size)⟩
/-- What checkLayer answers. -/
def checkU (l : List R) : EU := if 4096 < l.length then .long else if (layerFaultL l).2 ≠ 0 then .bad (layerFaultL l).1 (layerFaultL l).2 else .fine
theorem checkU_val (l : List R) (x y : Addr) : (checkU l).val x y = checkV l x := by
  unfold checkU checkV
  split
  · rfl
  · split <;> rfl
theorem checkU_any (v : Value) (l : List R) (x y : Addr) (w : World) (h : RecSl w v l) (hl : l.length ≤ 1048576) (hr : ∀ r ∈ l, r.p.size ≤ maxLen) (hT : Three w x y) :
    Calls Tryz.prog 83 #[v] w fun e w' => e = .returned ((checkU l).val x y) ∧ Below w.heap.size w w' := by
  rw [checkU_val]
  exact checkLayer_any v l x w h hl hr hT.tab hT.long
theorem growU_any (v : Value) (l : List R) (x y : Addr) (w : World) (h : NodSl w v l) (hl : l.length ≤ 1048576) (hr : ∀ r ∈ l, r.p.size ≤ maxLen) (hT : Three w x y) :
    Calls Tryz.prog 105 #[v] w fun e w' => e = .returned ((growK l).u.val x y) ∧ Below w.heap.size w w' := by
  rw [EN.u_val]
  exact checkTree_any v l x y w h hl hr hT
/-- The code of a call with a layer and a tree. -/
def codeLN (l t : List R) : Int := if 4096 < l.length ∨ 4096 < t.length then 2 else if layerOK l && treeOK t then 0 else 1
theorem arg_ln (l t : List R) : euFrom [checkU l, (growK t).u] 0 = codeLN l t := by
  by_cases h1 : 4096 < l.length <;> by_cases h2 : 4096 < t.length <;> by_cases h3 : (layerFaultL l).2 = 0 <;> cases h4 : treeOK t <;> simp [checkU, growK, EN.u, codeLN, euFrom, layerOK, h1, h2, h3, h4]
end Go.Proofs.YtciflchaepchiabGreatDoor.Recs

/- Slices of nodes in memory of their own; the laws' own copy, size and comparison of slices of nodes. -/
namespace Go.Proofs.YtciflchaepchiabGreatDoor.Recs
set_option maxRecDepth 100000
open Go.RowKit Paths

/-- A node's four cells. -/
def R.ns (r : R) : List Value := [.int .i64 r.k, .string r.p, .string r.b, .int .i64 r.m]
def flatN (l : List R) : List Value := l.flatMap R.ns
theorem flatN_len (l : List R) : (flatN l).length = l.length * 4 := by
  induction l with
  | nil => rfl
  | cons r t ih => simp only [flatN, List.flatMap_cons, List.length_append, List.length_cons] at ih ⊢; rw [ih]; simp [R.ns]; omega
theorem flatN_get : ∀ (l : List R) (j : Nat), (flatN l)[j]? = (l[j / 4]?).bind fun r => r.ns[j % 4]?
  | [], j => by simp [flatN]
  | r :: t, j => by
    have ih := flatN_get t (j - 4)
    by_cases hj : j < 4
    · have e1 : j / 4 = 0 := by omega
      have e2 : j % 4 = j := by omega
      rw [e1, e2]
      simp only [flatN, List.flatMap_cons]
      rw [List.getElem?_append_left (by simp [R.ns]; omega)]
      simp
    · have e1 : j / 4 = (j - 4) / 4 + 1 := by omega
      have e2 : j % 4 = (j - 4) % 4 := by omega
      rw [e1, e2]
      simp only [flatN, List.flatMap_cons]
      rw [List.getElem?_append_right (by simp [R.ns]; omega)]
      simp only [R.ns, List.length_cons, List.length_nil]
      exact ih
theorem flatN_field {M : List R} {i c : Nat} {r : R} {u : Value} (hi : i < M.length) (hc : c < 4) (h : r.ns = M[i].ns.set c u) : flatN (M.set i r) = (flatN M).set (i * 4 + c) u := by
  apply List.ext_getElem?
  intro j
  rw [flatN_get, List.getElem?_set, List.getElem?_set, flatN_len, flatN_get]
  by_cases hj : i = j / 4
  · rw [if_pos hj, if_pos (by omega)]
    simp only [Option.bind_some]
    rw [h, List.getElem?_set]
    by_cases hk : c = j % 4
    · rw [if_pos hk, if_pos (by simp [R.ns]; omega), if_pos (by omega), if_pos (by omega)]
    · rw [if_neg hk, if_neg (by omega), ← hj, List.getElem?_eq_getElem hi]
      rfl
  · rw [if_neg hj, if_neg (by omega)]

/-- A slice in memory of its own that holds the nodes M. -/
def RowN (w : World) (base : Nat) (v : Value) (n : Nat) (M : List R) : Prop := M.length = n ∧ w.ownsRow base 84 4 v n (flatN M) ∧ ∀ r ∈ M, r.o = false
theorem RowN.below {w w' : World} {base : Nat} {v : Value} {n : Nat} {M : List R} (h : RowN w base v n M) (hb : Below w.heap.size w w') : RowN w' base v n M := ⟨h.1, own_below h.2.1 hb, h.2.2⟩
theorem RowN.sl {w : World} {base : Nat} {v : Value} {n : Nat} {M : List R} (h : RowN w base v n M) : NodSl w v M := by
  obtain ⟨rfl, h, ho⟩ := h
  refine ⟨ho, ?_⟩
  rcases h.2 with ⟨rfl, hn⟩ | ⟨g, cap, cur, rfl, hb, hg, hc, _⟩
  · exact ⟨none, 0, by rw [hn], by omega, fun h => by omega⟩
  · refine ⟨_, cap, rfl, hc, fun _ => ⟨g, 0, rfl, (Array.getElem?_eq_some_iff.1 hg).1, fun i r hi => ?_⟩⟩
    have hlt : i < M.length := (List.getElem?_eq_some_iff.1 hi).1
    have one : ∀ c, c < 4 → w.cell? ⟨g, i * 4 + c, none⟩ = r.ns[c]? := fun c hc => by
      rw [h.cellAt (i * 4 + c) (by omega), flatN_get]
      have e1 : (i * 4 + c) / 4 = i := by omega
      have e2 : (i * 4 + c) % 4 = c := by omega
      rw [e1, e2, hi]
      rfl
    rw [Nat.zero_add]
    exact ⟨one 0 (by omega), one 1 (by omega), one 2 (by omega), one 3 (by omega)⟩
theorem RowN.field {w : World} {base g cap n : Nat} {M : List R} {i c : Nat} {r : R} {u : Value} (h : RowN w base (.slice (some ⟨g, 0, none⟩) n cap) n M) (hi : i < M.length) (hc : c < 4) (hr : r.ns = M[i].ns.set c u) (ho : r.o = false) :
    RowN (w.setCell ⟨g, i * 4 + c, none⟩ u) base (.slice (some ⟨g, 0, none⟩) n cap) n (M.set i r) ∧ w.grownBy (w.setCell ⟨g, i * 4 + c, none⟩ u) (some g) := by
  obtain ⟨h1, h2⟩ := h.2.1.stored (i * 4 + c) u
  exact ⟨⟨by rw [List.length_set]; exact h.1, by rw [flatN_field hi hc hr]; exact h1, fun x hx => (List.mem_or_eq_of_mem_set hx).elim (h.2.2 x) (fun e => by rw [e]; exact ho)⟩, h2⟩
theorem RowN.frozen {w : World} {base g cap n : Nat} {M : List R} (h : RowN w base (.slice (some ⟨g, 0, none⟩) n cap) n M) (j : Nat) : w.frozen? ⟨g, j, none⟩ = false := h.2.1.frozenAt j
theorem RowN.cells {w : World} {base g cap n : Nat} {M : List R} (h : RowN w base (.slice (some ⟨g, 0, none⟩) n cap) n M) {i : Nat} (hi : i < M.length) : NodCells w g (i * 4) M[i] := by
  have one : ∀ c, c < 4 → w.cell? ⟨g, i * 4 + c, none⟩ = M[i].ns[c]? := fun c hc => by
    rw [h.2.1.cellAt (i * 4 + c) (by rw [← h.1]; omega), flatN_get]
    have e1 : (i * 4 + c) / 4 = i := by omega
    have e2 : (i * 4 + c) % 4 = c := by omega
    rw [e1, e2, List.getElem?_eq_getElem hi]
    rfl
  exact ⟨one 0 (by omega), one 1 (by omega), one 2 (by omega), one 3 (by omega)⟩
/-- A whole node written. -/
theorem RowN.store {w : World} {base g cap n : Nat} {M : List R} {i : Nat} (r : R) (h : RowN w base (.slice (some ⟨g, 0, none⟩) n cap) n M) (hi : i < M.length) (ho : r.o = false) :
    RowN ((((w.setCell ⟨g, i * 4, none⟩ (.int .i64 r.k)).setCell ⟨g, i * 4 + 1, none⟩ (.string r.p)).setCell ⟨g, i * 4 + 2, none⟩ (.string r.b)).setCell ⟨g, i * 4 + 3, none⟩ (.int .i64 r.m)) base (.slice (some ⟨g, 0, none⟩) n cap) n (M.set i r) ∧
    w.grownBy ((((w.setCell ⟨g, i * 4, none⟩ (.int .i64 r.k)).setCell ⟨g, i * 4 + 1, none⟩ (.string r.p)).setCell ⟨g, i * 4 + 2, none⟩ (.string r.b)).setCell ⟨g, i * 4 + 3, none⟩ (.int .i64 r.m)) (some g) := by
  have hM := h.2.2 M[i] (List.getElem_mem hi)
  obtain ⟨a1, b1⟩ := h.field (i := i) (c := 0) (r := { M[i] with k := r.k }) (u := .int .i64 r.k) hi (by omega) rfl hM
  obtain ⟨a2, b2⟩ := a1.field (i := i) (c := 1) (r := { M[i] with k := r.k, p := r.p }) (u := .string r.p) (by simpa using hi) (by omega) (by simp [R.ns]) hM
  obtain ⟨a3, b3⟩ := a2.field (i := i) (c := 2) (r := { M[i] with k := r.k, p := r.p, b := r.b }) (u := .string r.b) (by simpa using hi) (by omega) (by simp [R.ns]) hM
  obtain ⟨a4, b4⟩ := a3.field (i := i) (c := 3) (r := r) (u := .int .i64 r.m) (by simpa using hi) (by omega) (by simp [R.ns]) ho
  refine ⟨?_, grown_trans (grown_trans (grown_trans b1 b2) b3) b4⟩
  simp only [List.set_set] at a4
  exact a4

theorem nodInfo : (Tryz.prog.info? 84).map (fun i => (i.zero, i.size, i.bytes)) = some (some (.agg #[.int .i64 0, .string ByteArray.empty, .string ByteArray.empty, .int .i64 0]), 4, 48) := by kernel_rfl
end Go.Proofs.YtciflchaepchiabGreatDoor.Recs

/- A tree in memory: its nodes as a list, its nodes as records (nodes, of the program; what LayerOfTree hands to each). -/
namespace Go.Proofs.YtciflchaepchiabGreatDoor.Recs
set_option maxRecDepth 100000
open Go.RowKit Paths

theorem nodR_cells_new (w : World) (r : R) (t : TypeId) (j : Nat) (u : Value) (h : r.ns[j]? = some u) : (w.alloc (.cells #[.int .i64 r.k, .string r.p, .string r.b, .int .i64 r.m] t)).cell? ((⟨w.heap.size, 0, none⟩ : Addr).add j) = some u := by
  rw [Addr.add_lit]
  match j, h with
  | 0, h => cases h; go_simp
  | 1, h => cases h; go_simp
  | 2, h => cases h; go_simp
  | 3, h => cases h; go_simp
  | j + 4, h => simp [R.ns] at h
theorem nodR_one (r : R) : ∀ u ∈ r.ns, u.oneCell' = true := by
  intro u hu
  simp only [R.ns, List.mem_cons, List.not_mem_nil, or_false] at hu
  rcases hu with rfl | rfl | rfl | rfl <;> rfl
theorem flatN_snoc (M : List R) (r : R) : flatN (M ++ [r]) = flatN M ++ r.ns := by simp [flatN]
theorem rowN_snoc {w : World} {base : Nat} {v : Value} {M : List R} {r : R} (h : w.ownsRow base 84 4 v (M.length + 1) (flatN M ++ r.ns)) (hM : ∀ x ∈ M, x.o = false) (hr : r.o = false) : RowN w base v (M ++ [r]).length (M ++ [r]) :=
  ⟨rfl, by rw [flatN_snoc, List.length_append]; exact h, fun x hx => by
    rcases List.mem_append.1 hx with hx | hx
    · exact hM x hx
    · rw [List.mem_singleton.1 hx]; exact hr⟩
theorem own_not {w : World} {base : Nat} {e e' : TypeId} {size : Nat} {v : Value} {m : Nat} {xs : List Value} (h : w.ownsRow base e size v m xs) (he : e ≠ e') {g : Nat} {cur : Array Value} {fz : Nat × Nat} (hg : w.heap[g]? = some (.cells cur e' fz)) : v.ownBlock ≠ some g := fun e0 => by
  rcases h.2 with ⟨rfl, _⟩ | ⟨g', cap, cur', rfl, _, hh, _⟩
  · cases e0
  · cases e0
    rw [hg] at hh
    simp only [Option.some.injEq, Obj.cells.injEq] at hh
    exact he hh.2.1.symm

end Go.Proofs.YtciflchaepchiabGreatDoor.Recs

/- Rows of nodes: parts of a row as the source of an append; a copy of a list of nodes that is never nil. -/
namespace Go.Proofs.YtciflchaepchiabGreatDoor.Recs
set_option maxRecDepth 100000
open Go.RowKit Paths

theorem flatN_append (a b : List R) : flatN (a ++ b) = flatN a ++ flatN b := by simp [flatN]
theorem flatN_take (l : List R) (k : Nat) : flatN (l.take k) = (flatN l).take (k * 4) := by
  by_cases hk : k ≤ l.length
  · conv => rhs; rw [← List.take_append_drop k l, flatN_append]
    rw [List.take_left' (by rw [flatN_len, List.length_take]; omega)]
  · rw [List.take_of_length_le (by omega), List.take_of_length_le (by rw [flatN_len]; omega)]
theorem flatN_drop (l : List R) (k : Nat) : flatN (l.drop k) = (flatN l).drop (k * 4) := by
  by_cases hk : k ≤ l.length
  · conv => rhs; rw [← List.take_append_drop k l, flatN_append]
    rw [List.drop_left' (by rw [flatN_len, List.length_take]; omega)]
  · rw [List.drop_eq_nil_of_le (by omega), List.drop_eq_nil_of_le (by rw [flatN_len]; omega)]
    rfl
theorem flatN_one (l : List R) : ∀ u ∈ flatN l, u.oneCell' = true := by
  intro u hu
  unfold flatN at hu
  rw [List.mem_flatMap] at hu
  obtain ⟨r, _, hr⟩ := hu
  exact nodR_one r u hr
/-- The cells of a part of a row. -/
theorem src_cells {w : World} {base g cap n : Nat} {l : List R} (h : RowN w base (.slice (some ⟨g, 0, none⟩) n cap) n l) (i : Nat) (m : List R) (hm : m = l.drop i ∨ (i = 0 ∧ ∃ k, m = l.take k)) :
    ∀ j u, (flatN m)[j]? = some u → w.cell? ((⟨g, i * 4, none⟩ : Addr).add j) = some u := by
  intro j u hj
  rw [Addr.add_lit]
  have key : (flatN l)[i * 4 + j]? = some u := by
    rcases hm with rfl | ⟨rfl, k, rfl⟩
    · rw [flatN_drop, List.getElem?_drop] at hj
      exact hj
    · rw [flatN_take, List.getElem?_take] at hj
      split at hj
      · rw [Nat.zero_mul, Nat.zero_add]; exact hj
      · cases hj
  have hlt : i * 4 + j < n * 4 := by
    have := (List.getElem?_eq_some_iff.1 key).1
    rw [flatN_len, h.1] at this
    exact this
  rw [h.2.1.cellAt (i * 4 + j) hlt]
  exact key
theorem notnil {w : World} {base : Nat} {v : Value} {n : Nat} {M : List R} (h : RowN w base v n M) (hv : v ≠ .slice none 0 0) : ∃ g cap, v = .slice (some ⟨g, 0, none⟩) n cap ∧ n ≤ cap ∧ cap ≤ maxLen ∧ base ≤ g ∧ g < w.heap.size := by
  rcases h.2.1.2 with ⟨rfl, _⟩ | ⟨g, cap, cur, rfl, hb, hg, hc, hm, _⟩
  · exact absurd rfl hv
  · exact ⟨g, cap, rfl, hc, hm, hb, (Array.getElem?_eq_some_iff.1 hg).1⟩

theorem own_down {w : World} {base base' : Nat} {e : TypeId} {size : Nat} {v : Value} {n : Nat} {xs : List Value} (h : w.ownsRow base e size v n xs) (hb : base' ≤ base) : w.ownsRow base' e size v n xs := by
  obtain ⟨h1, h2⟩ := h
  refine ⟨h1, ?_⟩
  rcases h2 with h2 | ⟨g, cap', cur, a, b, c⟩
  · exact .inl h2
  · exact .inr ⟨g, cap', cur, a, Nat.le_trans hb b, c⟩
end Go.Proofs.YtciflchaepchiabGreatDoor.Recs

/- Stacks: slices of slices of records: what the memory holds; one that came in; the laws' own size, copy and comparison of them. -/
namespace Go.Proofs.YtciflchaepchiabGreatDoor.Recs
set_option maxRecDepth 100000
open Go.RowKit Paths Go.WideShapes Go.ChangeShapes

/-- A slice of slices that reads as the lists LL. -/
def StkSl (w : World) (v : Value) (LL : List (List R)) : Prop :=
  ∃ A cap, v = .slice A LL.length cap ∧ LL.length ≤ cap ∧ (0 < LL.length → ∃ b off, A = some ⟨b, off, none⟩ ∧ b < w.heap.size ∧ ∀ i l, LL[i]? = some l → ∃ u, w.cell? ⟨b, off + i, none⟩ = some u ∧ RecSl w u l)
theorem StkSl.below {w w' : World} {v : Value} {LL : List (List R)} (h : StkSl w v LL) (hb : Below w.heap.size w w') : StkSl w' v LL := by
  obtain ⟨A, cap, rfl, hc, h⟩ := h
  refine ⟨A, cap, rfl, hc, fun hn => ?_⟩
  obtain ⟨b, off, rfl, hlt, hcell⟩ := h hn
  refine ⟨b, off, rfl, Nat.lt_of_lt_of_le hlt hb.size, fun i l hi => ?_⟩
  obtain ⟨u, h1, h2⟩ := hcell i l hi
  exact ⟨u, (hb.cell (p := ⟨b, off + i, none⟩) hlt).trans h1, h2.below hb⟩

section
variable {H : Type} {enc : TypeId × Value → H} {w : World} {base : Nat} {spare : Nat → Bool} {held : Bool}
end

end Go.Proofs.YtciflchaepchiabGreatDoor.Recs

/- Stacks: a copy in memory of its own; StackOK of the program and of its model. Conditions (of the program's): the table of kinds, the two sentinels. -/
namespace Go.Proofs.YtciflchaepchiabGreatDoor.Recs
set_option maxRecDepth 100000
open Go.RowKit Paths Errs

/-- The first j slices of a row of slices hold the lists, each in a row of its own, apart from the others. -/
def StkUpto (w : World) (base g : Nat) (us : List Value) (LL : List (List R)) (j : Nat) : Prop :=
  (∀ i u l, i < j → us[i]? = some u → LL[i]? = some l → RowOf w base u l.length l ∧ u.ownBlock ≠ some g) ∧
  ∀ i k u u' c, i < j → k < j → us[i]? = some u → us[k]? = some u' → u.ownBlock = some c → u'.ownBlock = some c → i = k
/-- A slice of slices, all in memory of their own. -/
def StkRow (w : World) (base : Nat) (v : Value) (LL : List (List R)) : Prop :=
  ∃ g us, v = .slice (some ⟨g, 0, none⟩) LL.length LL.length ∧ us.length = LL.length ∧ w.ownsRow base 26 1 v LL.length us ∧ StkUpto w base g us LL LL.length
theorem StkRow.sl {w : World} {base : Nat} {v : Value} {LL : List (List R)} (h : StkRow w base v LL) : StkSl w v LL := by
  obtain ⟨g, us, rfl, hn, ho, h1, _⟩ := h
  refine ⟨_, _, rfl, Nat.le_refl _, fun hp => ⟨g, 0, rfl, (ho.lt g rfl).2, fun i l hi => ?_⟩⟩
  have hlt : i < LL.length := (List.getElem?_eq_some_iff.1 hi).1
  refine ⟨us[i]'(by omega), ?_, (h1 i _ l hlt (List.getElem?_eq_getElem (by omega)) hi).1.sl⟩
  have := ho.cellAt i (by omega)
  rw [List.getElem?_eq_getElem (by omega)] at this
  rw [Nat.zero_add]
  exact this
theorem StkUpto.below {w w' : World} {base g : Nat} {us : List Value} {LL : List (List R)} {j : Nat} (h : StkUpto w base g us LL j) (hb : Below w.heap.size w w') : StkUpto w' base g us LL j :=
  ⟨fun i u l hi hu hl => ⟨(h.1 i u l hi hu hl).1.below hb, (h.1 i u l hi hu hl).2⟩, h.2⟩
theorem StkRow.below {w w' : World} {base : Nat} {v : Value} {LL : List (List R)} (h : StkRow w base v LL) (hb : Below w.heap.size w w') : StkRow w' base v LL := by
  obtain ⟨g, us, rfl, hn, ho, hu⟩ := h
  exact ⟨g, us, rfl, hn, own_below ho hb, hu.below hb⟩
/-- One slice more. -/
theorem StkUpto.step {w w1 : World} {base g j n : Nat} {us : List Value} {LL : List (List R)} {x : Value} (h : StkUpto w base g us LL j) (hj : j < LL.length) (hu : us.length = LL.length) (hb1 : Below w.heap.size w w1) (hg : base ≤ g) (hgl : g < w.heap.size)
    (ho : w.ownsRow base 26 1 (.slice (some ⟨g, 0, none⟩) n n) n us) (hx : RowOf w1 w.heap.size x LL[j].length LL[j]) :
    StkUpto (w1.setCell ⟨g, j, none⟩ x) base g (us.set j x) LL (j + 1) ∧ (w1.setCell ⟨g, j, none⟩ x).ownsRow base 26 1 (.slice (some ⟨g, 0, none⟩) n n) n (us.set j x) ∧ w1.grownBy (w1.setCell ⟨g, j, none⟩ x) (some g) := by
  obtain ⟨ho1, hgr⟩ := (own_below ho hb1).stored j x
  have hxb : ∀ c, x.ownBlock = some c → w.heap.size ≤ c := fun c hc => (hx.2.lt c hc).1
  have hold : ∀ i u l, i < j → us[i]? = some u → LL[i]? = some l → ∀ c, u.ownBlock = some c → c < w.heap.size := fun i u l hi hui hl c hc => ((h.1 i u l hi hui hl).1.2.lt c hc).2
  refine ⟨⟨fun i u l hi hui hl => ?_, fun i k u u' c hi hk hui huk hc hc' => ?_⟩, ho1, hgr⟩
  · rw [List.getElem?_set] at hui
    by_cases hij : j = i
    · subst hij
      rw [if_pos rfl, if_pos (by omega)] at hui
      cases hui
      rw [List.getElem?_eq_getElem hj] at hl
      cases hl
      have hne : x.ownBlock ≠ some g := fun e => by have := hxb g e; omega
      exact ⟨⟨rfl, own_down (hx.2.kept hgr (.inr hne)) (by omega)⟩, hne⟩
    · rw [if_neg hij] at hui
      obtain ⟨h1, h2⟩ := h.1 i u l (by omega) hui hl
      exact ⟨⟨rfl, (h1.below hb1).2.kept hgr (.inr h2)⟩, h2⟩
  · rw [List.getElem?_set] at hui huk
    by_cases hij : j = i
    · by_cases hkj : j = k
      · omega
      · rw [if_pos hij, if_pos (by omega)] at hui
        rw [if_neg hkj] at huk
        cases hui
        have h1 := hxb c hc
        have h2 := hold k u' LL[k] (by omega) huk (List.getElem?_eq_getElem (by omega)) c hc'
        omega
    · rw [if_neg hij] at hui
      by_cases hkj : j = k
      · rw [if_pos hkj, if_pos (by omega)] at huk
        cases huk
        have h1 := hxb c hc'
        have h2 := hold i u LL[i] (by omega) hui (List.getElem?_eq_getElem (by omega)) c hc
        omega
      · rw [if_neg hkj] at huk
        exact h.2 i k u u' c (by omega) (by omega) hui huk hc hc'

end Go.Proofs.YtciflchaepchiabGreatDoor.Recs

/- The code of a call with a stack. Conditions: the table of kinds, the two sentinels. -/
namespace Go.Proofs.YtciflchaepchiabGreatDoor.Recs
set_option maxRecDepth 100000
open Go.RowKit Paths Errs

theorem StkSl.form {w : World} {v : Value} {LL : List (List R)} (h : StkSl w v LL) : ∃ A cap, v = .slice A LL.length cap := by
  obtain ⟨A, cap, rfl, _⟩ := h
  exact ⟨A, cap, rfl⟩
end Go.Proofs.YtciflchaepchiabGreatDoor.Recs

/- The highest layer that cuts a path off: of the program (a range over the library's slices.Backward) and of its model; CutDepth. Conditions (of the program's): the table of kinds, the two sentinels. -/
namespace Go.Proofs.YtciflchaepchiabGreatDoor.Recs
set_option maxRecDepth 100000
open Go.RowKit Paths Errs Go.Shelf
attribute [local go_sem] Oper.semAt_some

theorem others_of {w w' : World} (h : Below w.heap.size w w') : KeepsOthers w w' := ⟨h.size, fun k _ hk _ => (h.block k (Array.getElem?_eq_some_iff.1 hk).1).trans hk⟩

end Go.Proofs.YtciflchaepchiabGreatDoor.Recs
