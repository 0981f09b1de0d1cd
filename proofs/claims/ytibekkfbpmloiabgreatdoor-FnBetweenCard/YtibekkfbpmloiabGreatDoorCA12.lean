/- Parts of several texts of mine in one file (each begins with its own remark). -/
import Derived.Test.YtibekkfbpmloiabGreatDoorCA10
import Derived.Test.YtibekkfbpmloiabGreatDoorCA11
import Derived.Test.YtibekkfbpmloiabGreatDoorCA2
import Derived.Test.YtibekkfbpmloiabGreatDoorCA3
import Derived.Test.YtibekkfbpmloiabGreatDoorCA4
import Derived.Test.YtibekkfbpmloiabGreatDoorCA5
import Derived.Test.YtibekkfbpmloiabGreatDoorCA7
import Derived.Test.YtibekkfbpmloiabGreatDoorCA8
import Derived.Test.YtibekkfbpmloiabGreatDoorCA9
import Derived.Test.YtibekkfbpmloiabGreatDoorChecked
import Derived.Test.YtibekkfbpmloiabGreatDoorShelf
import Derived.Test.YtibekkfbpmloiabGreatDoorRows
import Derived.Test.YtibekkfbpmloiabGreatDoorProg
import Derived.RangeFuncNested
import Derived.RangeFuncBound
import Derived.RangeFuncCalls
import Derived.RangeFuncLeaves
import Derived.RangeFuncBox
import Derived.Shelf.Abstract
import Derived.Shelf.RegionOpen
import Derived.OwnWalkIn
import Derived.TacticsInMore
import Derived.LoopNIn
import Derived.LoopIn
import Derived.Maps.OwnIn
import Derived.Maps.AppendAt
import Derived.Sort.MapsRangeIn
import Derived.Sort.KeysCollected
import Derived.Deep.RegionHeld3
import Derived.Laws.IdiomRangeMap
import Derived.StillTailTactics
import Derived.Deep.Slices
import Derived.OpenShut
import Derived.ShutString
import Derived.ChangeArms
import Derived.WideShapes
import Derived.Lib.LaidTab
import Derived.BigQuiet
import Derived.Deep.QuietTactic
import Derived.Deep.Draws
import Derived.Deep.LoopGhost
import Derived.WalkKit
import Derived.WalkSpells
import Derived.WalkSmall
import Derived.Lib.OthersKept
import Derived.Lib.Hide
import Derived.Lib.Strings
import Derived.Maps.RangeWalk
import Derived.Maps.Ext
import Derived.Lib.SlMapFilter
import Derived.Laws.OwnMore
import Derived.BigRegion
import Derived.Lib.Join
import Derived.Laws.BytesArg
import Derived.WalkLawsBesides
import Derived.Deep.RegionWith
import Derived.OneCell
import Derived.Lib.SliceRun
import Derived.Lib.Overlaps
import Derived.Lib.AppendZerosOnto
import Derived.Laws.NewBlocks
import Derived.Laws.IdiomCopy
import Derived.Deep.RegionLaw
import Derived.ChangeVars
import Derived.Deep.DeepHandedRow
import Derived.LaidEql
import Derived.Stop.Asserts
import Derived.Below
import Derived.Stop.LaidErr
import Derived.Stop.LaidTwo
import Derived.Deep.Cut
import Derived.Deep.CutRange
import Derived.Deep.CutBlock
/- The program's map of paths: the library's iterator over its values, and these values appended to a slice. -/
namespace Go.Proofs.YtibekkfbpmloiabGreatDoor.Recs
set_option maxRecDepth 100000
open Go.RowKit Paths Go.Shelf
attribute [local go_sem] Oper.semAt_some

theorem map_once {es : List (Lit × DataW Unit)} {t : List R} (hap : es.Pairwise (fun p q => p.1 ≠ q.1)) (hes : ∀ p, p ∈ es ↔ ∃ x ∈ t, p = kd x) (hto : ∀ x ∈ t, x.o = false) {x y : R} (hx : x ∈ t) (hy : y ∈ t) (h : (kd x).1 = (kd y).1) : x = y := by
  obtain ⟨i, hi, h1⟩ := List.getElem_of_mem ((hes (kd x)).2 ⟨x, hx, rfl⟩)
  obtain ⟨j, hj, h2⟩ := List.getElem_of_mem ((hes (kd y)).2 ⟨y, hy, rfl⟩)
  have hp := List.pairwise_iff_getElem.1 hap
  rcases Nat.lt_trichotomy i j with hij | hij | hij
  · exact absurd (by rw [h1, h2]; exact h) (hp i j hi hj hij)
  · subst hij
    have e : kd x = kd y := h1.symm.trans h2
    exact nodD_inj (hto x hx) (hto y hy) (congrArg Prod.snd e)
  · exact absurd (by rw [h1, h2]; exact h.symm) (hp j i hj hi hij)
/-- What has come of the nodes t: those that are not left. -/
def Coll (t : List R) (left : Lit → Bool) (ps : List R) : Prop := ps.Nodup ∧ ∀ x, x ∈ ps ↔ x ∈ t ∧ left (kd x).1 = false
def AllT (t ps : List R) : Prop := ps.Nodup ∧ ∀ x, x ∈ ps ↔ x ∈ t
theorem Coll.start {es : List (Lit × DataW Unit)} {t : List R} (hes : ∀ p, p ∈ es ↔ ∃ x ∈ t, p = kd x) : Coll t (Maps.has (.map es)) [] := by
  refine ⟨List.nodup_nil, fun x => ⟨(fun h => by cases h), fun ⟨hx, hl⟩ => ?_⟩⟩
  have : Maps.has (DataW.map es) (kd x).1 = true := List.any_eq_true.2 ⟨kd x, (hes _).2 ⟨x, hx, rfl⟩, WideAt.sameKey_self trivial⟩
  rw [this] at hl
  cases hl
theorem Coll.step {t ps : List R} {left : Lit → Bool} {x : R} (h : Coll t left ps) (hx : x ∈ t) (hl : left (kd x).1 = true) (once : ∀ y ∈ t, (kd y).1 = (kd x).1 → y = x) : Coll t (fun z => left z && !z.sameKey (kd x).1) (ps ++ [x]) := by
  have hnx : x ∉ ps := fun hm => by rw [((h.2 x).1 hm).2] at hl; cases hl
  refine ⟨List.nodup_append.2 ⟨h.1, by simp, fun a ha b hb => ?_⟩, fun y => ?_⟩
  · rw [List.mem_singleton.1 hb]
    exact fun e => hnx (e ▸ ha)
  · rw [List.mem_append, List.mem_singleton, h.2 y]
    constructor
    · rintro (⟨h1, h2⟩ | rfl)
      · exact ⟨h1, by simp [h2]⟩
      · exact ⟨hx, by simp [WideAt.sameKey_self (a := (kd y).1) trivial]⟩
    · rintro ⟨h1, h2⟩
      cases hly : left (kd y).1 with
      | false => exact .inl ⟨h1, rfl⟩
      | true =>
        refine .inr (once y h1 (WideAt.sameKey_eq ?_))
        simpa [hly] using h2
theorem Coll.all {t ps : List R} {left : Lit → Bool} (h : Coll t left ps) (hl : ∀ kl, left kl = false) : AllT t ps := ⟨h.1, fun x => by rw [h.2 x, hl]; simp⟩
theorem at_some {es : List (Lit × DataW Unit)} {kl : Lit} {c : R} (h : ∀ zd, (DataW.map es).atKey kl zd = nodD c) : (kl, nodD c) ∈ es := by
  have h0 := h .nil
  simp only [DataW.atKey] at h0
  split at h0
  · rename_i q hf
    have hm := List.mem_of_find?_eq_some hf
    have hk0 : q.1.sameKey kl = true := List.find?_some (p := fun q : Lit × DataW Unit => q.1.sameKey kl) hf
    have hk := WideAt.sameKey_eq hk0
    have : q = (kl, nodD c) := Prod.ext hk h0
    rw [← this]
    exact hm
  · cases h0

set_option maxHeartbeats 2000000 in
/-- maps.Values' iterator over the program's map, for every loop body. -/
theorem values1_in (F : Fence) (n : Nat) (hF : F.fn 217) (hro : F.round = none) (hn : 1 ≤ n) (l Bm b nn : Nat) (t : List R) (J Jx : List R → World → Prop)
    (hY : ∀ pre x W, J pre W → pre.length < nn → YieldAt F (n - 1) Tryz.prog l #[x.nod] W fun e W' =>
      (e = .returned (.bool true) ∧ J (pre ++ [x]) W' ∧ KeepsWalks W W') ∨ (e = .returned (.bool false) ∧ Jx (pre ++ [x]) W'))
    (W : World) (hJ : AbidesFrom W.heap.size J) (hm : W.cell? ⟨Bm, 0, none⟩ = some (.map (some b))) (hM : MapT W b nn t) (h0 : J [] W) :
    CallsIn F n Tryz.prog 217 #[.func (.yield l) #[] #[], .pointer (some ⟨Bm, 0, none⟩)] W fun e W' => (∃ v, e = .returned v) ∧
      ((∃ xs, AllT t xs ∧ J xs W') ∨ (∃ pre, True ∧ Jx pre W')) := by
  obtain ⟨⟨es, hown, hes⟩, hMo⟩ := hM
  obtain ⟨es', he, hap, _⟩ := hown.entries keyed
  cases he
  have hsz := hown.size_le
  refine callsIn_of_wp Tryz.func217 rfl hF ?_ hro
  simp only [Tryz.ntmps217, List.size_toArray, List.length_cons, List.length_nil, Nat.reduceAdd, Nat.reduceSub, Array.replicate_succ, Array.replicate_zero, List.push_toArray, List.append_toArray, List.nil_append, List.cons_append]
  gi_wp2_with (first
    | (gi_at_range; refine wpListIn_range_own _ rfl _ 150 rfl 9 68 keyed Tryz.underlying150 _ b nn _ rfl hown ?_; intro w0 hrg0 hg0 hs0)
    | gi_in)
  go_frame
  gi_loopw [] (fun wr => ∃ (left : Lit → Bool) (cnt : Nat) (ps : List R), wr.ranges Tryz.prog 9 readN b W.heap.size nn (.map es) left cnt ∧ ps.length + cnt ≤ Maps.size (DataW.map es) ∧ Coll t left ps ∧ J ps wr)
    (fun wr => wr.rangeLeft b W.heap.size)
  case atStart =>
    exact ⟨_, _, [], hrg0, by simp, Coll.start hes, hJ [] W w0 none h0 hg0 (fun r e => by cases e)⟩
  case round =>
    obtain ⟨left, cnt, ps, hrg, hcs, hC, hJs⟩ := hrel
    gi_wp2_with (first
      | (gi_at_next; refine wpListIn_next_ranges _ rfl _ rfl 9 keyed readN Value.string R.nod (fun key kl hk => (by obtain ⟨s, rfl, _⟩ := WideMaps.string_of_keyOf Tryz.underlying9 hk; exact ⟨s, rfl⟩)) (fun v y hv => (by obtain ⟨r, _, rfl, _⟩ := readN_inv hv; exact ⟨r, rfl⟩)) b W.heap.size nn _ _ _ rfl hrg ?_ ?_)
      | gi_in)
    · intro hc0 hl0
      gi_wp2
      go_end0
      exact ⟨⟨_, rfl⟩, .inl ⟨ps, hC.all hl0, hJs⟩⟩
    · intro s c kl yd yp w2 cnt2 hkey hlk hv hat hrg2 hlt hg2 hs2 hen
      obtain ⟨c', hco, hcc, hcy⟩ := readN_inv hv
      obtain rfl : yd = nodD c' := (Prod.mk.inj hcy).1
      obtain ⟨x, hx, hxe⟩ := (hes _).1 (at_some hat)
      obtain rfl : c' = x := nodD_inj hco (hMo x hx) (congrArg Prod.snd hxe)
      obtain rfl : kl = (kd c').1 := congrArg Prod.fst hxe
      rw [hcc] at hen hv ⊢
      have hJ2 : J ps w2 := hJ ps wr w2 (some W.heap.size) hJs hg2 (fun r e => by cases e; exact ⟨Nat.le_refl _, hrg.iter_walk⟩)
      have hJ3 : J ps (w2.alloc (.cells #[.int .i64 c'.k, .string c'.p, .string c'.b, .int .i64 c'.m] 68)) := hJ ps w2 _ none hJ2 (World.grownBy_alloc _ _ _) (fun r e => by cases e)
      obtain ⟨fn, tmps, assign, body, hy, hR⟩ := hY ps c' _ hJ3 (by omega)
      have hC2 := hC.step hx hlk (fun y hy e => map_once hap hes hMo hy hx e)
      unfold R.nod at hen hy ⊢
      clear hs2 hcc hxe hat hv hcy
      gi_wp2
      refine hR.mono ?_
      rintro e W3 (⟨rfl, hJ4, hk3⟩ | ⟨rfl, hJx3⟩)
      · gi_wp2
        have hrg3 := (hrg2.alloc _).of_walks hk3
        go_roundw
        case rel => exact ⟨_, cnt2, ps ++ [c'], hrg3, by simp; omega, hC2, hJ4⟩
        case measure => rw [hrg3.left_eq, hrg.left_eq]; exact hlt
      · gi_wp2
        refine bodyPost_ret (results_none rfl _ _ _) rfl ?_
        exact ⟨⟨_, rfl⟩, .inr ⟨_, trivial, hJx3⟩⟩

theorem values_stops (F : Fence) (n : Nat) (hF : F.fn 217) (hro : F.round = none) (hn : 1 ≤ n) (Bm b nn : Nat) (t : List R) (w : World) (hBm : Bm < w.heap.size)
    (hm : w.cell? ⟨Bm, 0, none⟩ = some (.map (some b))) (hM : MapT w b nn t) :
    SeqStopsK F n Tryz.prog 217 #[.pointer (some ⟨Bm, 0, none⟩)] (fun x : R => #[x.nod]) KeepsWalks (AllT t) (fun _ => True) nn w := fun l J Jx W hW hJ _ hY h0 =>
  values1_in F n hF hro hn l Bm b nn t J Jx hY W hJ ((hW.cell (p := ⟨Bm, 0, none⟩) hBm).trans hm) (hM.below hW) h0

theorem item_own (Bx : Nat) (x : R) : Own (fun (_ : Unit) W => Item W Bx x) := fun _ X Y row hs hg hrow => by
  refine hs.grown hg (fun e => ?_)
  obtain ⟨o, ho, hc⟩ := hrow Bx e
  rw [show X.heap[Bx]? = _ from hs] at ho
  cases ho
  cases hc

set_option maxHeartbeats 2000000 in
theorem appendSeq_in (F : Fence) (n : Nat) (hA : F.fn 229) (hV : F.fn 217) (hro : F.round = none) (hn : 6 ≤ n) (Bm b nn : Nat) (t : List R) (w : World) (hBm : Bm < w.heap.size)
    (hm : w.cell? ⟨Bm, 0, none⟩ = some (.map (some b))) (hM : MapT w b nn t) (hnn : nn ≤ 100000) :
    CallsIn F n Tryz.prog 229 #[.slice none 0 0, .func (.func 217) #[] #[.pointer (some ⟨Bm, 0, none⟩)]] w fun e w' =>
      ∃ v xs, e = .returned v ∧ Below w.heap.size w w' ∧ AllT t xs ∧ w'.ownsRow w.heap.size 68 4 v xs.length (flatN xs) := by
  obtain ⟨i0, hi, hI0, hI1, hI2⟩ := info_parts nodInfo
  have h1 : 1 ≤ n := by omega
  have hb0 : Below w.heap.size w (w.alloc (.cells #[.slice none 0 0] 23)) := (Below.refl _ _).alloc (Nat.le_refl _) _
  refine callsIn_of_wp_marks Tryz.func229 rfl hA ?_ hro
  simp only [Tryz.ntmps229, List.size_toArray, List.length_cons, List.length_nil, Nat.reduceAdd, Nat.reduceSub, Array.replicate_succ, Array.replicate_zero, List.push_toArray, List.append_toArray, List.nil_append, List.cons_append]
  gi_wp2
  refine wpIn_rangeFunc_ownH hro h1 (gf := 217) (lb := #[.pointer (some ⟨Bm, 0, none⟩)]) rfl hV (enters_of Tryz.func217 (by kernel_rfl) rfl)
    (values_stops F (n - 1) hV hro (by omega) Bm b nn t w hBm hm hM) walksK_t walksK_b hb0 (fun _ => rfl)
    (fun pre W => (∃ v, Boxed W w.heap.size 23 v ∧ W.ownsRow w.heap.size 68 4 v pre.length (flatN pre) ∧ True) ∧ Below w.heap.size w W)
    (fun _ _ _ => False)
    (OwnFrom.and (Own.from (holdsRow_own w.heap.size w.heap.size 23 68 4 (fun pre : List R => pre.length) (fun pre => flatN pre) (fun _ _ => True)) _) (ownFrom_below (Nat.le_refl _) (by simp)))
    (fun _ _ _ _ _ hs _ _ => hs)
    ⟨⟨_, Boxed.new w _ _, (World.ownsRow_nil _ _ _ _), trivial⟩, hb0⟩
    (fun x a' W => ∃ Bx, w.heap.size < Bx ∧ Item W Bx x ∧ a' = { tmps := #[.slice none 0 0, .func (.func 217) #[] #[.pointer (some ⟨Bm, 0, none⟩)], .pointer (some ⟨w.heap.size, 0, none⟩), undef, .slice none 0 0, .pointer (some ⟨Bx, 0, none⟩), .func (.func 217) #[] #[.pointer (some ⟨Bm, 0, none⟩)], x.nod, undef, undef, undef, undef, undef], defers := [] })
    (fun x a' _ X Y row hs hg hr => by obtain ⟨Bx, h1, h2, h3⟩ := hs; exact ⟨Bx, h1, item_own Bx x () X Y row h2 hg (fun r e => (hr r e).2), h3⟩)
    ?assign ?body ?done ?stop
  case assign =>
    rintro l pre x W K ⟨⟨v, hv, hrow, _⟩, hB⟩ hK
    unfold R.nod at hK ⊢
    gi_wp2
    exact hK _ _ ((KeepsOthers.alloc _ _).from _) (KeepsWalks.alloc _ _) ⟨⟨v, hv.alloc _, hrow.alloc _, trivial⟩, hB.alloc hB.size _⟩ ⟨W.heap.size, hv.lt, Item.new W x, rfl⟩
  case body =>
    rintro l pre x a' W hl ⟨r, hr⟩ ⟨⟨v, hv, hrow, _⟩, hB⟩ ⟨Bx, hBx, hIt, rfl⟩ hlt
    obtain ⟨d0, d1, d2, d3⟩ := hIt.nod
    have hvc := hv.cell
    have hvf := hv.frozen
    have hBs := hB.size
    unfold R.nod
    gi_wp2_with (first
      | (gi_at_builtin; refine wpListIn_append_own _ rfl _ _ 23 rfl w.heap.size 68 i0 (.agg #[.int .i64 0, .string ByteArray.empty, .string ByteArray.empty, .int .i64 0]) 4 48 Tryz.underlying23 hi hI0 hI1 hI2 rfl (by decide) _ _ _ rfl (hrow.alloc _) ⟨W.heap.size, 0, none⟩ 1 1 x.ns rfl rfl (nodR_cells_new W x 68) (nodR_one x) (by unfold maxLen; omega) (by omega) (by simp; omega) ?_; intro v' w1 hown' hgrow _; obtain ⟨g', cap', rfl⟩ := ownsRow_succ hown'; obtain ⟨hv1, hv2, hr2, hk2, hb2⟩ := hv.appended (by decide) hrow hB.size (Nat.le_refl _) hown' hgrow; have hc1 := hv1.cell; have hf1 := hv1.frozen)
      | gi_in)
    refine ⟨hk2.from _, hk2.walks, ⟨_, hv2, ?_, trivial⟩, hB.trans hb2⟩
    rw [flatN_append, List.length_append]
    simpa [flatN] using hr2
  case done =>
    rintro D xs W hD hS ⟨⟨v, hv, hrow, _⟩, hB⟩ hK
    have hvc := hv.cell
    obtain ⟨vA, vcap, rfl⟩ := own_form hrow
    gi_wp2
    refine ⟨by simp, .inl ⟨_, _, rfl, run_takeDeferred hK, ?_⟩⟩
    exact ⟨_, results_tmp rfl _ _ _, _, xs, rfl, hB.trans (belowK_b (w := w) (Nat.le_refl _) W D _ _ (by simp at hD; omega) hK rfl rfl), hS, ownsRow_putObj hrow _ hK rfl⟩
  case stop =>
    rintro D c pre W _ _ h _
    exact h.elim
end Go.Proofs.YtibekkfbpmloiabGreatDoor.Recs
