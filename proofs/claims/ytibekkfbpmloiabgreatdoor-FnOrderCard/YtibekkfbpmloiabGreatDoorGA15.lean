/- Parts of several texts of mine in one file (each begins with its own remark). -/
import Derived.Test.YtibekkfbpmloiabGreatDoorGA1
import Derived.Test.YtibekkfbpmloiabGreatDoorGA11
import Derived.Test.YtibekkfbpmloiabGreatDoorGA12
import Derived.Test.YtibekkfbpmloiabGreatDoorGA13
import Derived.Test.YtibekkfbpmloiabGreatDoorGA14
import Derived.Test.YtibekkfbpmloiabGreatDoorGA2
import Derived.Test.YtibekkfbpmloiabGreatDoorGA3
import Derived.Test.YtibekkfbpmloiabGreatDoorGA4
import Derived.Test.YtibekkfbpmloiabGreatDoorGA5
import Derived.Test.YtibekkfbpmloiabGreatDoorGA8
import Derived.Test.YtibekkfbpmloiabGreatDoorGA9
import Derived.Test.YtibekkfbpmloiabGreatDoorRows
import Derived.Test.YtibekkfbpmloiabGreatDoorChecked
import Derived.Test.YtibekkfbpmloiabGreatDoorProg
import Derived.Test.YtibekkfbpmloiabGreatDoorShelf
import Derived.ChangeVars
import Derived.Deep.DeepHandedRow
import Derived.Lib.LaidTab
import Derived.OpenShut
import Derived.ShutString
import Derived.ChangeArms
import Derived.WideShapes
import Derived.BigQuiet
import Derived.Deep.QuietTactic
import Derived.Deep.RegionHeld3
import Derived.StillTailTactics
import Derived.Deep.Draws
import Derived.Deep.LoopGhost
import Derived.WalkKit
import Derived.WalkSpells
import Derived.WalkSmall
import Derived.Lib.OthersKept
import Derived.Lib.Hide
import Derived.Lib.Strings
import Derived.LaidEql
import Derived.Stop.Asserts
import Derived.Below
import Derived.Stop.LaidErr
import Derived.Stop.LaidTwo
import Derived.Laws.OwnMore
import Derived.BigRegion
import Derived.Deep.Slices
import Derived.Lib.Join
import Derived.Laws.BytesArg
import Derived.WalkLawsBesides
/- What the rows' lists give: the table of kinds, the two sentinels. -/
namespace Go.Proofs.YtibekkfbpmloiabGreatDoor.Recs
set_option maxRecDepth 100000
open Go.RowKit Paths Errs

theorem gLong : Tryz.prog.globalNamed "loop.example/g00798/impl.errTooLong" = some 0 := by kernel_rfl
theorem gLongType : (Tryz.prog.globals[(0 : Nat)]?).map (·.type) = some 83 := by kernel_rfl
theorem gBad : Tryz.prog.globalNamed "loop.example/g00798/impl.errInvalid" = some 1 := by kernel_rfl
theorem gBadType : (Tryz.prog.globals[(1 : Nat)]?).map (·.type) = some 83 := by kernel_rfl

theorem star : "*" ++ "errors.errorString" = "*errors.errorString" := by decide
theorem rowErr (u : TypeId) (h : Tryz.prog.typeName? 3 u = some "*errors.errorString") : u = 277 :=
  typeName_ptr_named (nm := "errors.errorString") (by rw [star]; kernel_rfl) (by kernel_rfl) (by decide) u (by rw [star]; exact h)

section
variable {H : Type} {enc : TypeId × Value → H} {P : Program} {w : World} {spare : Nat → Bool}
theorem vars2 {a b : String} {gs : List (DataW H)} {ps : List MemPlace} (h : DataW.TrodVars enc P w spare [a, b] gs ps) : ∃ x y, gs = [x, y] := by
  cases gs with
  | nil => exact h.elim
  | cons x t =>
    obtain ⟨_, _, _, _, _, q, _, _, _, _, h2, _⟩ := h
    cases t with
    | nil => exact h2.elim
    | cons y t =>
      obtain ⟨_, _, _, _, _, q, _, _, _, _, h3, _⟩ := h2
      cases t with
      | nil => exact ⟨x, y, rfl⟩
      | cons z t => exact h3.elim
theorem vars3 {a b c : String} {gs : List (DataW H)} {ps : List MemPlace} (h : DataW.TrodVars enc P w spare [a, b, c] gs ps) : ∃ x y z, gs = [x, y, z] := by
  cases gs with
  | nil => exact h.elim
  | cons x t =>
    obtain ⟨_, _, _, _, _, q, _, _, _, _, h2, _⟩ := h
    obtain ⟨y, z, rfl⟩ := vars2 h2
    exact ⟨x, y, z, rfl⟩
end

/-- The table, and the first sentinel. -/
structure Two (w : World) : Prop where
  tab : Tab w
  long : ∃ x, w.cell? ⟨0, 0, none⟩ = some (errV x)
theorem Two.below {w w' : World} {B : Nat} (h : Two w) (hb : Below B w w') (hB : w.heap.size ≤ B) : Two w' := by
  obtain ⟨x, hx⟩ := h.long
  exact ⟨h.tab.below hb hB, x, (hb.cell (p := ⟨0, 0, none⟩) (Nat.lt_of_lt_of_le (World.block_lt_of_cell? w _ hx) hB)).trans hx⟩

/-- The table, and the two sentinels: two pointers into rows of which nothing is frozen. -/
structure Three (w : World) (x y : Addr) : Prop where
  tab : Tab w
  long : w.cell? ⟨0, 0, none⟩ = some (errV x)
  bad : w.cell? ⟨1, 0, none⟩ = some (errV y)
  ne : x ≠ y
  rowx : ∃ c t, w.heap[x.block]? = some (.cells c t (0, 0))
  rowy : ∃ c t, w.heap[y.block]? = some (.cells c t (0, 0))
theorem Three.below {w w' : World} {B : Nat} {x y : Addr} (h : Three w x y) (hb : Below B w w') (hB : w.heap.size ≤ B) : Three w' x y := by
  obtain ⟨cx, tx, hx⟩ := h.rowx
  obtain ⟨cy, ty, hy⟩ := h.rowy
  exact ⟨h.tab.below hb hB, (hb.cell (p := ⟨0, 0, none⟩) (Nat.lt_of_lt_of_le (World.block_lt_of_cell? w _ h.long) hB)).trans h.long,
    (hb.cell (p := ⟨1, 0, none⟩) (Nat.lt_of_lt_of_le (World.block_lt_of_cell? w _ h.bad) hB)).trans h.bad, h.ne,
    ⟨cx, tx, (hb.block _ (Nat.lt_of_lt_of_le (Array.getElem?_eq_some_iff.1 hx).1 hB)).trans hx⟩, ⟨cy, ty, (hb.block _ (Nat.lt_of_lt_of_le (Array.getElem?_eq_some_iff.1 hy).1 hB)).trans hy⟩⟩

theorem three_of {W : World} (hm : laidMet Tryz.prog [("loop.example/g00798/impl.kindRules", Rows.laid_loop_example_g00798_impl_kindRules), ("loop.example/g00798/impl.errTooLong", Rows.laid_loop_example_g00798_impl_errTooLong), ("loop.example/g00798/impl.errInvalid", Rows.laid_loop_example_g00798_impl_errInvalid)] W) : ∃ x y, Three W x y := by
  obtain ⟨x, y, s0, s1, c0, c1, t0, t1, hv0, hv1, hc0, hs0, hz0, hc1, hs1, hz1, hne, hb0, hb1⟩ := laid_sentinels2 hm.tail gLong gLongType gBad gBadType Tryz.underlying83 rowErr Tryz.underlying277 Tryz.underlying300 rfl rfl Tryz.underlying9 (by kernel_rfl) (by kernel_rfl)
  refine ⟨x, y, ?_, ?_, ?_, hne, ⟨_, _, hb0⟩, ⟨_, _, hb1⟩⟩
  · obtain ⟨ps, ⟨g', t', cs, fuel, p, q, hg', ht', hvar, hd, _, _⟩, _⟩ := hm
    obtain rfl := Option.some.inj (gTab.symm.trans hg')
    obtain rfl := Option.some.inj (gTabType.symm.trans ht')
    exact tab_of_cells hg' hvar (rules_of_trod hd)
  · rw [World.var?_cell gLong hv0 0]
    rfl
  · rw [World.var?_cell gBad hv1 0]
    rfl
theorem laid3 {W : World} (h : laidMetH Tryz.prog [("loop.example/g00798/impl.kindRules", Rows.laid_loop_example_g00798_impl_kindRules), ("loop.example/g00798/impl.errTooLong", Rows.laid_loop_example_g00798_impl_errTooLong), ("loop.example/g00798/impl.errInvalid", Rows.laid_loop_example_g00798_impl_errInvalid)] W) : ∃ x y, Three W x y :=
  three_of (show laidMet Tryz.prog _ W from h)
end Go.Proofs.YtibekkfbpmloiabGreatDoor.Recs

/- The code of the errors of a call's arguments. Conditions: the table of kinds, the two sentinels. -/
namespace Go.Proofs.YtibekkfbpmloiabGreatDoor.Recs
set_option maxRecDepth 100000
open Go.RowKit Paths Errs

/-- An error that a check hands back: none, the sentinel of long arguments, or the one that names a record. -/
inductive EK where
  | fine
  | long
  | bad (i c : Int)
def EK.val (x : Addr) : EK → Value
  | .fine => .nilIface
  | .long => errV x
  | .bad i c => recV i c
def argFrom : List EK → Int → Int
  | [], c => c
  | .fine :: t, c => argFrom t c
  | .long :: _, _ => 2
  | .bad _ _ :: t, _ => argFrom t 1
theorem arg_end {L : List EK} {k : Nat} {c : Int} (h : L.length ≤ k) : argFrom (L.drop k) c = c := by rw [List.drop_eq_nil_of_le h]; rfl
theorem arg_fine {L : List EK} {k : Nat} {c : Int} (h : k < L.length) (he : L[k] = .fine) : argFrom (L.drop k) c = argFrom (L.drop (k + 1)) c := by rw [List.drop_eq_getElem_cons h, he]; rfl
theorem arg_long {L : List EK} {k : Nat} {c : Int} (h : k < L.length) (he : L[k] = .long) : argFrom (L.drop k) c = 2 := by rw [List.drop_eq_getElem_cons h, he]; rfl
theorem arg_bad {L : List EK} {k : Nat} {c i d : Int} (h : k < L.length) (he : L[k] = .bad i d) : argFrom (L.drop k) c = argFrom (L.drop (k + 1)) 1 := by rw [List.drop_eq_getElem_cons h, he]; rfl

set_option maxHeartbeats 1600000 in
theorem argumentCode_any (g : Nat) (L : List EK) (x y : Addr) (w : World) (hT : Three w x y) (hg : g < w.heap.size) (hn : L.length ≤ 1000) (hc : ∀ k (h : k < L.length), w.cell? ⟨g, k, none⟩ = some (L[k].val x)) :
    Calls Tryz.prog 69 #[.slice (some ⟨g, 0, none⟩) L.length L.length] w fun e w' => e = .returned (.int .i64 (argFrom L 0)) ∧ Below w.heap.size w w' := by
  have HC := Lib.hid hc
  have HT := Lib.hid hT
  clear hc hT
  go_enter Tryz.func69, Tryz.ntmps69
  go_wp2
  go_loopw [3, 8] (fun c i wr => ∃ (k : Nat) (d : Int), k ≤ L.length ∧ i = .int .i64 k ∧ c = .int .i64 d ∧ Hid (argFrom L 0 = argFrom (L.drop k) d) ∧ Below w.heap.size w wr) (fun _ i _ => L.length - (intOf i).toNat)
  case atStart => exact ⟨0, 0, by omega, rfl, rfl, rfl, Below.refl _ _⟩
  case round =>
    obtain ⟨k, d, hk, rfl, rfl, HK, hbw⟩ := hrel
    by_cases hlt : k < L.length
    · have hcell : wr.cell? ⟨g, k, none⟩ = some (L[k].val x) := (hbw.cell (p := ⟨g, k, none⟩) hg).trans (HC.out k hlt)
      have hTr := HT.out.below hbw (Nat.le_refl _)
      have hx := hTr.long
      have hy := hTr.bad
      have hi1 : (k : Int) < (L.length : Int) := by omega
      have hi0 : (0 : Int) ≤ (k : Int) := by omega
      cases hE : L[k] with
      | fine =>
        have HF := Lib.hid (HK.out.trans (arg_fine hlt hE))
        rw [hE] at hcell
        unfold EK.val at hcell
        have H1 := is_nil x wr
        have H2 := is_nil y wr
        unfold errV at hx hy H1 H2
        go_wp2_with fail
        refine H1.mono ?_
        rintro e w1 ⟨rfl, rfl⟩
        go_wp2_with fail
        refine H2.mono ?_
        rintro e w2 ⟨rfl, rfl⟩
        go_wp2_with fail
        exact ⟨⟨k + 1, d, by omega, by go_num, rfl, HF, hbw⟩, by simp [intOf]; omega⟩
      | long =>
        have HF := Lib.hid (HK.out.trans (arg_long hlt hE))
        rw [hE] at hcell
        unfold EK.val at hcell
        have H1 := is_same x wr
        unfold errV at hx hy H1 hcell
        go_wp2_with fail
        refine H1.mono ?_
        rintro e w1 ⟨rfl, rfl⟩
        go_wp2_with fail
        go_ret
        exact ⟨ret_int HF.out.symm, hbw⟩
      | bad i c =>
        have HF := Lib.hid (HK.out.trans (arg_bad hlt hE))
        rw [hE] at hcell
        unfold EK.val at hcell
        obtain ⟨cx, tx, rx⟩ := hTr.rowx
        obtain ⟨cy, ty, ry⟩ := hTr.rowy
        have H1 := is_rec_other i c y x _ _ _ _ wr hy (Ne.symm hTr.ne) ry rx
        have hxl := World.block_lt_of_cell? wr _ hx
        have hyl := World.block_lt_of_cell? wr _ hy
        have hye := hy
        unfold recV at hcell H1
        unfold errV at hx hy H1
        go_wp2_with fail
        refine H1.mono ?_
        rintro e w1 ⟨rfl, hb1⟩
        have hy1 : w1.cell? ⟨1, 0, none⟩ = some (errV y) := (hb1.cell (p := ⟨1, 0, none⟩) hyl).trans hye
        have H2 := is_rec_same i c y w1 hy1
        unfold recV at H2
        unfold errV at hy1 H2
        go_wp2_with fail
        refine H2.mono ?_
        rintro e w2 ⟨rfl, hb2⟩
        go_wp2_with fail
        exact ⟨⟨k + 1, 1, by omega, by go_num, rfl, HF, (hbw.trans (hb1.mono hbw.size)).trans (hb2.mono (hbw.trans (hb1.mono hbw.size)).size)⟩, by simp [intOf]; omega⟩
    · have HE := Lib.hid (HK.out.trans (arg_end (by omega)))
      go_wp2
      go_ret
      exact ⟨ret_int HE.out.symm, hbw⟩

/-- What checkLayer answers. -/
def checkK (l : List R) : EK := if 4096 < l.length then .long else if (layerFaultL l).2 ≠ 0 then .bad (layerFaultL l).1 (layerFaultL l).2 else .fine
theorem checkK_val (l : List R) (x : Addr) : (checkK l).val x = checkV l x := by
  unfold checkK checkV
  split
  · rfl
  · split <;> rfl
end Go.Proofs.YtibekkfbpmloiabGreatDoor.Recs

/- Layers: FindRecord, of the program and of its model. Conditions (of the program's): the table of kinds, the two sentinels. -/
namespace Go.Proofs.YtibekkfbpmloiabGreatDoor.Recs
set_option maxRecDepth 100000
open Go.RowKit Paths Errs

/-- The arguments' errors, as the call of a variadic function lays them. -/
theorem arg2_any (a b : EK) (x y : Addr) (w : World) (hT : Three w x y) :
    Calls Tryz.prog 69 #[.slice (some ⟨w.heap.size, 0, none⟩) 2 2] (w.alloc (.cells #[a.val x, b.val x] 83)) fun e w' => e = .returned (.int .i64 (argFrom [a, b] 0)) ∧ Below w.heap.size w w' := by
  have hb0 : Below w.heap.size w (w.alloc (.cells #[a.val x, b.val x] 83)) := (Below.refl _ _).alloc (Nat.le_refl _) _
  have := argumentCode_any w.heap.size [a, b] x y (w.alloc (.cells #[a.val x, b.val x] 83)) (hT.below hb0 (Nat.le_refl _)) (by simp) (by simp) (fun k hk => by
    have hk2 : k < 2 := hk
    match k, hk2 with
    | 0, _ => go_simp
    | 1, _ => go_simp)
  refine this.mono ?_
  rintro e w1 ⟨rfl, hb1⟩
  exact ⟨rfl, hb0.trans (hb1.mono hb0.size)⟩
end Go.Proofs.YtibekkfbpmloiabGreatDoor.Recs

/- What is above a path, by its parts: the paths of which the parts are the first parts of it. -/
namespace Go.Proofs.YtibekkfbpmloiabGreatDoor.Recs
open Go.RowKit Paths

theorem up_below {p : ByteArray} (h : pathB p.data.toList = true) (q : ByteArray) : q ∈ ups p ↔ belowP (cutAt 47 p.data.toList) (cutAt 47 q.data.toList) = true := by
  have hq : 0 < (cutAt 47 q.data.toList).length := by
    rcases Nat.eq_zero_or_pos (cutAt 47 q.data.toList).length with h0 | h0
    · exact absurd (List.eq_nil_of_length_eq_zero h0) (cutAt_ne 47 _)
    · exact h0
  refine path_ind (P := fun p => q ∈ ups p ↔ belowP (cutAt 47 p.data.toList) (cutAt 47 q.data.toList) = true) ?_ ?_ p h
  · intro p hp hn
    rw [ups_step hp, if_pos hn]
    rcases parent_cases hp with ⟨_, h2, _⟩ | ⟨_, _, h3, _⟩
    · rw [h2]
      unfold belowP
      constructor
      · intro hm; cases hm
      · intro hm
        simp only [Bool.and_eq_true, decide_eq_true_eq, List.length_singleton] at hm
        omega
    · exact absurd hn h3
  · intro p hp hn h1 ih
    rw [ups_step hp, if_neg hn]
    rcases parent_cases hp with ⟨h2, _⟩ | ⟨_, h2, _, _, _⟩
    · exact absurd h2 hn
    · have e := cut_parent p.data.toList
      rw [← h2] at e
      have ih' := ih
      rw [parO_data] at ih'
      generalize hA : cutAt 47 (parentL p.data.toList) = A at e ih'
      generalize hB : cutAt 47 q.data.toList = B at ih' hq ⊢
      rw [e]
      rw [List.mem_cons, ih']
      unfold belowP
      simp only [Bool.and_eq_true, decide_eq_true_eq, beq_iff_eq, List.length_append, List.length_singleton]
      constructor
      · rintro (rfl | ⟨h3, h4⟩)
        · rw [parO_data, hA] at hB
          subst hB
          exact ⟨by omega, by simp⟩
        · refine ⟨by omega, ?_⟩
          rw [List.take_append_of_le_length (by omega)]
          exact h4
      · rintro ⟨h3, h4⟩
        rcases Nat.lt_or_ge B.length A.length with h5 | h5
        · rw [List.take_append_of_le_length (by omega)] at h4
          exact .inr ⟨h5, h4⟩
        · left
          have h6 : B.length = A.length := by omega
          rw [h6, List.take_left'  rfl] at h4
          apply bytes_cut
          rw [parO_data, hA, hB, h4]
/-- The same by the strings' own function. -/
theorem isUp_below {p q : ByteArray} (h : pathB p.data.toList = true) : isUp q p = belowL p.data.toList q.data.toList := by
  rw [Bool.eq_iff_iff, isUp_iff, up_below h, below_cut]
end Go.Proofs.YtibekkfbpmloiabGreatDoor.Recs

/- Layers: UnderOpaque, of the program and of its model. Conditions (of the program's): the table of kinds, the two sentinels. -/
namespace Go.Proofs.YtibekkfbpmloiabGreatDoor.Recs
set_option maxRecDepth 100000
open Go.RowKit Paths Errs

def pm : Value → Nat
  | .string s => if s.size = 0 then 0 else (cutAt 47 s.data.toList).length
  | _ => 0
theorem parO_size {p : ByteArray} (h : parentL p.data.toList = []) : (parO p).size = 0 := by rw [Lib.size_eq, parO_data, h]; rfl
theorem path_pos {p : ByteArray} (h : pathB p.data.toList = true) : p.size ≠ 0 := fun e => by rw [pathB_empty e] at h; cases h
theorem pm_down {p : ByteArray} (h : pathB p.data.toList = true) : pm (.string (parO p)) < pm (.string p) := by
  have h0 := path_pos h
  have h1 : 0 < (cutAt 47 p.data.toList).length := cutAt_pos 47 _
  show (if (parO p).size = 0 then 0 else (cutAt 47 (parO p).data.toList).length) < (if p.size = 0 then 0 else (cutAt 47 p.data.toList).length)
  rw [if_neg h0]
  by_cases hp : parentL p.data.toList = []
  · rw [if_pos (parO_size hp)]; exact h1
  · obtain ⟨h2, h3⟩ := parts_parent h hp
    rw [if_neg (path_pos h2)]
    omega
/-- What is still to look at: none, or the path and what is above it. -/
def Left (l : List R) (u : Bool) (p : ByteArray) : Prop := (p.size = 0 ∧ u = false) ∨ (pathB p.data.toList = true ∧ u = (opaqueAt l p || underL l p))
theorem left_start {l : List R} {q : ByteArray} (h : pathB q.data.toList = true) : Left l (underL l q) (parO q) := by
  by_cases hp : parentL q.data.toList = []
  · exact .inl ⟨parO_size hp, by rw [underL_step l h, if_pos hp]⟩
  · exact .inr ⟨(parts_parent h hp).1, by rw [underL_step l h, if_neg hp]⟩
theorem left_next {l : List R} {u : Bool} {p : ByteArray} (h : pathB p.data.toList = true) (hu : u = (opaqueAt l p || underL l p)) (ho : opaqueAt l p = false) : Left l u (parO p) := by
  rw [ho, Bool.false_or] at hu
  rw [hu]
  exact left_start h
theorem opaque_none {l : List R} {p : ByteArray} (h : atL l p = -1) : opaqueAt l p = false := by unfold opaqueAt; rw [h]; rfl
theorem opaque_at {l : List R} {p : ByteArray} {j : Nat} (hj : j < l.length) (h : atL l p = (j : Int)) : opaqueAt l p = l[j].o := by
  unfold opaqueAt; rw [h]; simp [hj]

set_option maxHeartbeats 800000 in
theorem l03Under_any (v : Value) (l : List R) (q : ByteArray) (w : World) (h : RecSl w v l) (hl : l.length ≤ 1048576) (hq : pathB q.data.toList = true) :
    Calls Tryz.prog 201 #[v, .string q] w fun e w' => e = .returned (.bool (underL l q)) ∧ w = w' := by
  have hsl := h
  obtain ⟨A, cap, rfl, hcap, h⟩ := h
  have HS := Lib.hid hsl
  have H := Lib.hid h
  have HL0 := Lib.hid (left_start (l := l) hq)
  have hqs := path_short hq
  clear h hsl
  go_enter Tryz.func201, Tryz.ntmps201
  go_wp2_with fail
  refine (l01Parent_any q _ (by unfold maxLen; omega)).mono ?_
  rintro e w1 ⟨rfl, rfl⟩
  go_wp2_with fail
  go_loop [5] (fun p => ∃ P : ByteArray, p = .string P ∧ Hid (Left l (underL l q) P)) (fun p => pm p)
  case atStart => exact ⟨parO q, rfl, HL0⟩
  case round =>
    obtain ⟨P, rfl, HP⟩ := hrel
    rcases HP.out with ⟨h0, hu⟩ | ⟨hp, hu⟩
    · have HU := Lib.hid hu
      have he := isEmpty_true h0
      clear h0 hu
      go_wp2_with fail
      go_ret
      exact ⟨ret_bool HU.out.symm, rfl⟩
    · have HU := Lib.hid hu
      have he := isEmpty_false (Nat.pos_of_ne_zero (path_pos hp))
      have hps := path_short hp
      have HM := Lib.hid (pm_down hp)
      clear hu
      go_wp2_with fail
      refine (l03At_any _ l _ _ HS.out hl).mono ?_
      rintro e w1 ⟨rfl, rfl⟩
      rcases atL_cases l P with ⟨ha, -⟩ | ⟨j, hj, ha, -⟩
      · have HN := Lib.hid (left_next hp HU.out (opaque_none ha))
        rw [ha]
        go_wp2_with fail
        refine (l01Parent_any P _ (by unfold maxLen; omega)).mono ?_
        rintro e w1 ⟨rfl, rfl⟩
        go_wp2_with fail
        exact ⟨⟨parO P, rfl, HN⟩, HM.out⟩
      · have HO := Lib.hid (opaque_at hj ha)
        obtain ⟨b, off, rfl, hb, hcell⟩ := H.out (by omega)
        obtain ⟨_, _, _, _, f4⟩ := hcell j l[j] (by simp [hj])
        have j1 : (0 : Int) ≤ (j : Int) := by omega
        have j2 : (j : Int) < (l.length : Int) := by omega
        have j3 : decide ((0 : Int) ≤ (j : Int)) = true := by simp
        rw [ha]
        clear ha hcell
        rcases Bool.eq_false_or_eq_true l[j].o with ho | ho
        · have HF : Hid (underL l q = true) := by show _ = _; rw [HU.out, HO.out, ho]; rfl
          rw [ho] at f4
          go_wp2_with fail
          go_ret
          exact ⟨ret_bool HF.out.symm, rfl⟩
        · have HN := Lib.hid (left_next hp HU.out (HO.out.trans ho))
          rw [ho] at f4
          go_wp2_with fail
          refine (l01Parent_any P _ (by unfold maxLen; omega)).mono ?_
          rintro e w1 ⟨rfl, rfl⟩
          go_wp2_with fail
          exact ⟨⟨parO P, rfl, HN⟩, HM.out⟩

/-- The program's way to look comes to the same. -/
theorem under_gen {l : List R} (hs : Sorted l) (hf : ∀ r ∈ l, r.fault = 0) {q : ByteArray} (hq : pathB q.data.toList = true) : underI l q = underL l q := by
  rw [underL_any]
  unfold underI
  rw [Bool.eq_iff_iff, List.any_eq_true, List.any_eq_true]
  constructor
  · rintro ⟨r, hm, hr⟩
    have hp := (fault_path (hf r hm)).1
    simp only [Bool.and_eq_true] at hr
    rw [below_two (path_pos hp) hq hp, ← isUp_below hq, isUp_iff] at hr
    refine ⟨r.p, hr.2, ?_⟩
    rw [opaqueAt_eq, recAt_of (hs) hm]
    exact hr.1
  · rintro ⟨a, ha, ho⟩
    rw [opaqueAt_eq] at ho
    cases hr : recAt l a with
    | none => rw [hr] at ho; cases ho
    | some r =>
      rw [hr] at ho
      obtain ⟨hm, rfl⟩ := recAt_mem hr
      have hp := (fault_path (hf r hm)).1
      refine ⟨r, hm, ?_⟩
      simp only [Bool.and_eq_true]
      refine ⟨ho, ?_⟩
      rw [below_two (path_pos hp) hq hp, ← isUp_below hq, isUp_iff]
      exact ha
end Go.Proofs.YtibekkfbpmloiabGreatDoor.Recs

/- Layers: the canonical form, of the program. -/
namespace Go.Proofs.YtibekkfbpmloiabGreatDoor.Recs
set_option maxRecDepth 100000
open Go.RowKit Paths Errs

theorem canon_skip {l : List R} {r : R} (hu : underL l r.p = true) (hk : r.k = 4) : canonR l r = none := by unfold canonR; rw [if_pos hu, if_pos hk]
theorem canon_under {l : List R} {r : R} (hu : underL l r.p = true) (hk : r.k ≠ 4) : canonR l r = some { r with o := false } := by unfold canonR; rw [if_pos hu, if_neg hk]
theorem canon_deep {l : List R} {r : R} (hu : underL l r.p = false) (hd : (cutAt 47 r.p.data.toList).length = 4) : canonR l r = some { r with o := false } := by
  unfold canonR; rw [if_neg (by rw [hu]; decide), hd]; simp
theorem canon_plain {l : List R} {r : R} (hu : underL l r.p = false) (hd : (cutAt 47 r.p.data.toList).length < 4) : canonR l r = some r := by
  unfold canonR; rw [if_neg (by rw [hu]; decide), decide_eq_true hd]; simp
/-- What is done, and what is still to do. -/
def Done (l : List R) (k : Nat) (M : List R) : Prop := canonL l = M ++ (l.drop k).filterMap (canonR l)
theorem done_start (l : List R) : Done l 0 [] := rfl
theorem done_skip {l M : List R} {k : Nat} (hk : k < l.length) (h : Done l k M) (hc : canonR l l[k] = none) : Done l (k + 1) M := by
  unfold Done at h ⊢
  rw [h, List.drop_eq_getElem_cons hk, List.filterMap_cons, hc]
theorem done_take {l M : List R} {k : Nat} {r : R} (hk : k < l.length) (h : Done l k M) (hc : canonR l l[k] = some r) : Done l (k + 1) (M ++ [r]) := by
  unfold Done at h ⊢
  rw [h, List.drop_eq_getElem_cons hk, List.filterMap_cons, hc]
  simp
theorem done_end {l M : List R} {k : Nat} (hk : l.length ≤ k) (h : Done l k M) : canonL l = M := by
  unfold Done at h
  rw [h, List.drop_eq_nil_of_le hk]
  simp
theorem done_len {l M : List R} {k : Nat} (h : Done l k M) (hl : l.length ≤ 1024) : M.length ≤ 1024 := by
  have h1 : (canonL l).length ≤ l.length := List.length_filterMap_le _ _
  unfold Done at h
  rw [h, List.length_append] at h1
  omega
set_option maxHeartbeats 3200000 in
theorem canonicalForm_gen (v : Value) (l : List R) (w : World) (h : RecSl w v l) (hsd : Sorted l) (hf : ∀ r ∈ l, r.fault = 0) (hl16 : l.length ≤ 1024) (hr : ∀ r ∈ l, r.p.size ≤ maxLen) :
    Calls Tryz.prog 89 #[v] w fun e w' => ∃ x, e = .returned x ∧ Below w.heap.size w w' ∧ RowOf w' w.heap.size x (canonL l).length (canonL l) := by
  obtain ⟨i0, hi, hI0, hI1, hI2⟩ := info_parts recInfo
  have hsl := h
  obtain ⟨A, cap, rfl, hcap, h⟩ := h
  have HSl := Lib.hid hsl
  have H := Lib.hid h
  have HO := Lib.hid hf
  have HSD := Lib.hid hsd
  clear h hsl hf hsd
  go_enter Tryz.func89, Tryz.ntmps89
  go_wp2
  go_loopw [3, 9] (fun f i wr => ∃ (k : Nat) (M : List R), k ≤ l.length ∧ i = .int .i64 k ∧ RowOf wr w.heap.size f M.length M ∧ Hid (Done l k M) ∧ Below w.heap.size w wr) (fun _ i _ => l.length - (intOf i).toNat)
  case atStart => exact ⟨0, [], by omega, rfl, ⟨rfl, World.ownsRow_nil _ _ _ _⟩, done_start l, Below.refl _ _⟩
  case round =>
    obtain ⟨k, M, hk, rfl, hrow, HD, hbw⟩ := hrel
    by_cases hlt : k < l.length
    · obtain ⟨b, off, rfl, hb, hcell⟩ := H.out (by omega)
      obtain ⟨c0, c1, c2, c3, c4⟩ := (hcell k l[k] (by simp [hlt])).below hbw hb
      clear hcell
      have hi1 : (k : Int) < (l.length : Int) := by omega
      have hi0 : (0 : Int) ≤ (k : Int) := by omega
      have hm := List.getElem_mem hlt
      have hp := (fault_path (HO.out _ hm)).1
      have HU := Lib.hid (under_gen HSD.out HO.out hp)
      have hq := hr l[k] hm
      have hM := done_len HD.out hl16
      obtain ⟨fA, fcap, rfl⟩ := hrow.form
      have hbA : Below wr.heap.size wr (wr.alloc (.cells #[.int .i64 l[k].k, .string l[k].p, .string l[k].b, .int .i64 l[k].m, .bool l[k].o] 53)) := (Below.refl _ _).alloc (Nat.le_refl _) _
      have hslA := HSl.out.below (hbw.trans (hbA.mono hbw.size))
      have HC := underOpaque_any _ l l[k].p _ hslA (by omega) hq hr
      rw [HU.out] at HC
      have hrA := hrow.below hbA
      rcases Bool.eq_false_or_eq_true (underL l l[k].p) with hu | hu
      · rw [hu] at HC
        by_cases h4 : l[k].k = 4
        · have HN := Lib.hid (done_skip hlt HD.out (canon_skip hu h4))
          have hd4 : (l[k].k == 4) = true := by simpa using h4
          clear h4
          go_wp2_with fail
          refine HC.mono ?_
          rintro e w1 ⟨rfl, hb1⟩
          obtain ⟨hc1, hf1⟩ := bcell hb1
          have hz1 : wr.heap.size < w1.heap.size := by have := hb1.size; simp at this; omega
          have cA := hbw.trans (hbA.mono hbw.size)
          have c1 := cA.trans (hb1.mono cA.size)
          go_wp2_with fail
          exact ⟨⟨k + 1, M, by omega, by go_num, hrA.below hb1, HN, c1⟩, by simp [intOf]; omega⟩
        · have HN := Lib.hid (done_take hlt HD.out (canon_under hu h4))
          have hd4 : (l[k].k == 4) = false := by simpa using h4
          clear h4
          go_wp2_with fail
          refine HC.mono ?_
          rintro e w1 ⟨rfl, hb1⟩
          obtain ⟨hc1, hf1⟩ := bcell hb1
          have hz1 : wr.heap.size < w1.heap.size := by have := hb1.size; simp at this; omega
          have cA := hbw.trans (hbA.mono hbw.size)
          have c1 := cA.trans (hb1.mono cA.size)
          have hr2 : RowOf (w1.setCell ⟨wr.heap.size, 4, none⟩ (.bool false)) w.heap.size (.slice fA M.length fcap) M.length M := ⟨rfl, ownsRow_setCell_other (hrA.below hb1).2 hrow.ne _⟩
          have cW : Below w.heap.size w (w1.setCell ⟨wr.heap.size, 4, none⟩ (.bool false)) := c1.setCell hbw.size _
          have hr3 : ((w1.setCell ⟨wr.heap.size, 4, none⟩ (.bool false)).alloc (.cells #[.int .i64 l[k].k, .string l[k].p, .string l[k].b, .int .i64 l[k].m, .bool false] 53)).ownsRow w.heap.size 53 5 (.slice fA M.length fcap) M.length (flat M) := hr2.2.alloc _
          have hsz : (w1.setCell ⟨wr.heap.size, 4, none⟩ (.bool false)).heap.size = w1.heap.size := by simp [World.setCell]
          have hnews := rec_cells_new (w1.setCell ⟨wr.heap.size, 4, none⟩ (.bool false)) { l[k] with o := false } 53
          rw [hsz] at hnews
          have hone := rec_one { l[k] with o := false }
          have hbz : w.heap.size ≤ ((w1.setCell ⟨wr.heap.size, 4, none⟩ (.bool false)).alloc (.cells #[.int .i64 l[k].k, .string l[k].p, .string l[k].b, .int .i64 l[k].m, .bool false] 53)).heap.size := (cW.alloc cW.size _).size
          go_wp2_with (first
            | (at_builtin; refine wpList_append_own _ rfl _ _ 27 rfl w.heap.size 53 i0 (.agg #[.int .i64 0, .string ByteArray.empty, .string ByteArray.empty, .int .i64 0, .bool false]) 5 56 Tryz.underlying27 hi hI0 hI1 hI2 rfl (by decide) _ _ _ rfl hr3 ⟨w1.heap.size, 0, none⟩ 1 1 (R.cs { l[k] with o := false }) rfl rfl hnews hone (by unfold maxLen; omega) (by omega) hbz ?_; intro v' w9 hown' hgrow9 hnil9))
          exact ⟨⟨k + 1, M ++ [{ l[k] with o := false }], by omega, by go_num, row_snoc hown', HN, (cW.alloc cW.size _).grown hgrow9 hbz (fun j hj => (hrow.2.lt j hj).1)⟩, by simp [intOf]; omega⟩
      · rw [hu] at HC
        go_wp2_with fail
        refine HC.mono ?_
        rintro e w1 ⟨rfl, hb1⟩
        obtain ⟨hc1, hf1⟩ := bcell hb1
        have hz1 : wr.heap.size < w1.heap.size := by have := hb1.size; simp at this; omega
        have cA := hbw.trans (hbA.mono hbw.size)
        have c1 := cA.trans (hb1.mono cA.size)
        go_wp2_with fail
        refine (splitPath_any _ _ hq).mono ?_
        rintro e w2 ⟨v2, rfl, hb2, ho2, -, -⟩
        rw [partsOf_yes hp] at ho2
        obtain ⟨A2, cap2, rfl⟩ := own_form ho2
        obtain ⟨hc2, hf2⟩ := bcell hb2
        have hz2 : wr.heap.size < w2.heap.size := by have := hb2.size; omega
        have c2 := c1.trans (hb2.mono c1.size)
        have hp4 := (pathB_parts hp).1
        by_cases h4 : (cutAt 47 l[k].p.data.toList).length = 4
        · have HN := Lib.hid (done_take hlt HD.out (canon_deep hu h4))
          rw [h4]
          have hr2 : RowOf (w2.setCell ⟨wr.heap.size, 4, none⟩ (.bool false)) w.heap.size (.slice fA M.length fcap) M.length M := ⟨rfl, ownsRow_setCell_other ((hrA.below hb1).below hb2).2 hrow.ne _⟩
          have cW : Below w.heap.size w (w2.setCell ⟨wr.heap.size, 4, none⟩ (.bool false)) := c2.setCell hbw.size _
          have hr3 : ((w2.setCell ⟨wr.heap.size, 4, none⟩ (.bool false)).alloc (.cells #[.int .i64 l[k].k, .string l[k].p, .string l[k].b, .int .i64 l[k].m, .bool false] 53)).ownsRow w.heap.size 53 5 (.slice fA M.length fcap) M.length (flat M) := hr2.2.alloc _
          have hsz : (w2.setCell ⟨wr.heap.size, 4, none⟩ (.bool false)).heap.size = w2.heap.size := by simp [World.setCell]
          have hnews := rec_cells_new (w2.setCell ⟨wr.heap.size, 4, none⟩ (.bool false)) { l[k] with o := false } 53
          rw [hsz] at hnews
          have hone := rec_one { l[k] with o := false }
          have hbz : w.heap.size ≤ ((w2.setCell ⟨wr.heap.size, 4, none⟩ (.bool false)).alloc (.cells #[.int .i64 l[k].k, .string l[k].p, .string l[k].b, .int .i64 l[k].m, .bool false] 53)).heap.size := (cW.alloc cW.size _).size
          go_wp2_with (first
            | (at_builtin; refine wpList_append_own _ rfl _ _ 27 rfl w.heap.size 53 i0 (.agg #[.int .i64 0, .string ByteArray.empty, .string ByteArray.empty, .int .i64 0, .bool false]) 5 56 Tryz.underlying27 hi hI0 hI1 hI2 rfl (by decide) _ _ _ rfl hr3 ⟨w2.heap.size, 0, none⟩ 1 1 (R.cs { l[k] with o := false }) rfl rfl hnews hone (by unfold maxLen; omega) (by omega) hbz ?_; intro v' w9 hown' hgrow9 hnil9))
          exact ⟨⟨k + 1, M ++ [{ l[k] with o := false }], by omega, by go_num, row_snoc hown', HN, (cW.alloc cW.size _).grown hgrow9 hbz (fun j hj => (hrow.2.lt j hj).1)⟩, by simp [intOf]; omega⟩
        · have HN := Lib.hid (done_take hlt HD.out (canon_plain hu (by omega)))
          have hd4 : (((cutAt 47 l[k].p.data.toList).length : Int) == 4) = false := by simp; omega
          have hr2 : RowOf w2 w.heap.size (.slice fA M.length fcap) M.length M := (hrA.below hb1).below hb2
          have cW := c2
          have hr3 : (w2.alloc (.cells #[.int .i64 l[k].k, .string l[k].p, .string l[k].b, .int .i64 l[k].m, .bool l[k].o] 53)).ownsRow w.heap.size 53 5 (.slice fA M.length fcap) M.length (flat M) := hr2.2.alloc _
          have hsz : w2.heap.size = w2.heap.size := rfl
          have hnews := rec_cells_new w2 { l[k] with o := l[k].o } 53
          rw [hsz] at hnews
          have hone := rec_one { l[k] with o := l[k].o }
          have hbz : w.heap.size ≤ (w2.alloc (.cells #[.int .i64 l[k].k, .string l[k].p, .string l[k].b, .int .i64 l[k].m, .bool l[k].o] 53)).heap.size := (cW.alloc cW.size _).size
          go_wp2_with (first
            | (at_builtin; refine wpList_append_own _ rfl _ _ 27 rfl w.heap.size 53 i0 (.agg #[.int .i64 0, .string ByteArray.empty, .string ByteArray.empty, .int .i64 0, .bool false]) 5 56 Tryz.underlying27 hi hI0 hI1 hI2 rfl (by decide) _ _ _ rfl hr3 ⟨w2.heap.size, 0, none⟩ 1 1 (R.cs { l[k] with o := l[k].o }) rfl rfl hnews hone (by unfold maxLen; omega) (by omega) hbz ?_; intro v' w9 hown' hgrow9 hnil9))
          exact ⟨⟨k + 1, M ++ [{ l[k] with o := l[k].o }], by omega, by go_num, row_snoc hown', HN, (cW.alloc cW.size _).grown hgrow9 hbz (fun j hj => (hrow.2.lt j hj).1)⟩, by simp [intOf]; omega⟩
    · have HE := Lib.hid (done_end (by omega) HD.out)
      go_wp2
      go_ret
      exact ⟨_, rfl, hbw, by rw [HE.out]; exact hrow⟩
end Go.Proofs.YtibekkfbpmloiabGreatDoor.Recs
