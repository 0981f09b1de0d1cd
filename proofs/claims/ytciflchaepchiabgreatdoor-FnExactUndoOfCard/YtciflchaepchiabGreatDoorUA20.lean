/- Parts of several texts of mine in one file (each begins with its own remark). -/
import Derived.Test.YtciflchaepchiabGreatDoorUA1
import Derived.Test.YtciflchaepchiabGreatDoorUA10
import Derived.Test.YtciflchaepchiabGreatDoorUA11
import Derived.Test.YtciflchaepchiabGreatDoorUA12
import Derived.Test.YtciflchaepchiabGreatDoorUA14
import Derived.Test.YtciflchaepchiabGreatDoorUA15
import Derived.Test.YtciflchaepchiabGreatDoorUA16
import Derived.Test.YtciflchaepchiabGreatDoorUA17
import Derived.Test.YtciflchaepchiabGreatDoorUA19
import Derived.Test.YtciflchaepchiabGreatDoorUA2
import Derived.Test.YtciflchaepchiabGreatDoorUA3
import Derived.Test.YtciflchaepchiabGreatDoorUA4
import Derived.Test.YtciflchaepchiabGreatDoorUA5
import Derived.Test.YtciflchaepchiabGreatDoorUA6
import Derived.Test.YtciflchaepchiabGreatDoorUA7
import Derived.Test.YtciflchaepchiabGreatDoorUA8
import Derived.Test.YtciflchaepchiabGreatDoorUA9
import Derived.Test.YtciflchaepchiabGreatDoorChecked
import Derived.Test.YtciflchaepchiabGreatDoorShelf
import Derived.Test.YtciflchaepchiabGreatDoorProg
import Derived.Test.YtciflchaepchiabGreatDoorRows
import Derived.Maps.OwnIn
import Derived.Deep.Slices
import Derived.OpenShut
import Derived.ShutString
import Derived.ChangeArms
import Derived.WideShapes
import Derived.Lib.LaidTab
import Derived.BigQuiet
import Derived.Deep.QuietTactic
import Derived.Deep.RegionHeld3
import Derived.StillTailTactics
import Derived.Deep.Draws
import Derived.Deep.LoopGhost
import Derived.WalkKit
import Derived.WalkSpells
import Derived.WalkSmall
import Derived.Lib.OthersKept
import Derived.Lib.Hide
import Derived.Lib.Strings
import Derived.Lib.Join
import Derived.WalkLawsBesides
import Derived.Laws.BytesArg
import Derived.Laws.OwnMore
import Derived.BigRegion
import Derived.Stop.LaidErr
import Derived.LaidEql
import Derived.Stop.Asserts
import Derived.Below
import Derived.Stop.LaidTwo
import Derived.Deep.RegionWith
import Derived.Laws.AppendOwnNone
import Derived.RegionTactic
import Derived.RangeFuncNested
import Derived.RangeFuncBound
import Derived.RangeFuncCalls
import Derived.RangeFuncLeaves
import Derived.RangeFuncBox
import Derived.Shelf.Abstract
import Derived.Shelf.RegionOpen
import Derived.OwnWalkIn
import Derived.TacticsInMore
import Derived.LoopNIn
import Derived.LoopIn
import Derived.ChangeVars
import Derived.Deep.DeepHandedRow
import Derived.OneCell
import Derived.Lib.SliceRun
import Derived.Lib.Overlaps
import Derived.Lib.AppendZerosOnto
import Derived.Laws.NewBlocks
import Derived.Laws.IdiomCopy
import Derived.Deep.RegionLaw
import Derived.Laws.IdiomRangeMap
import Derived.Maps.RangeWalk
import Derived.Maps.Ext
import Derived.Lib.SlMapFilter
/- The paths above a path, the record of a change, a look into the map of a tree: of the program. -/
namespace Go.Proofs.YtciflchaepchiabGreatDoor.Recs
set_option maxRecDepth 100000
open Go.RowKit Paths

theorem ups_range {q : ByteArray} (h : pathB q.data.toList = true) : (ups q).reverse = (List.range (nparts q - 1)).map (pre q) := by
  refine ups_ext (ups_order h) ?_ fun x => ?_
  · unfold Ups
    rw [List.pairwise_map]
    refine (List.pairwise_iff_getElem.2 fun i j hi hj hij => ?_)
    rw [List.getElem_range, List.getElem_range]
    rw [List.length_range] at hj
    exact ups_less (pre_path h j) _ (pre_up h hij (by omega))
  · rw [List.mem_reverse, List.mem_map]
    constructor
    · intro hx
      obtain ⟨i, hi, rfl⟩ := ups_pre h hx
      exact ⟨i, List.mem_range.2 (by omega), rfl⟩
    · rintro ⟨i, hi, rfl⟩
      exact pre_ups h (by have := List.mem_range.1 hi; omega)
/-- Paths as values. -/
def sv (P : List ByteArray) : List Value := P.map Value.string
theorem sv_snoc (P : List ByteArray) (q : ByteArray) : sv (P ++ [q]) = sv P ++ [.string q] := by unfold sv; rw [List.map_append]; rfl
theorem pre_join (q : ByteArray) (i : Nat) : strV (Lib.join ((cutAt 47 q.data.toList).take (i + 1)) [47]) = .string (pre q i) := rfl
theorem join_short {q : ByteArray} (h : pathB q.data.toList = true) (i : Nat) : (Lib.join ((cutAt 47 q.data.toList).take (i + 1)) [47]).length ≤ 140737488355328 := by
  have := pathB_len (pre_path h i)
  rw [pre_data] at this
  omega

set_option maxHeartbeats 1000000 in
theorem pathsAbove_any (q : ByteArray) (w : World) (hq : pathB q.data.toList = true) :
    Calls Tryz.prog 159 #[.string q] w fun e w' => ∃ v, e = .returned v ∧ Below w.heap.size w w' ∧ w'.ownsRow w.heap.size 9 1 v (ups q).length (sv (ups q).reverse) := by
  obtain ⟨i0, hi, hz0, hz1, hz2⟩ := info_parts strInfo
  have hqs : q.size ≤ maxLen := path_max hq
  have HUP := Lib.hid (ups_range hq)
  have HJS := Lib.hid (join_short hq)
  have hlen := (pathB_parts hq).1
  have hpos := cutAt_pos 47 q.data.toList
  have HPT : Hid (partsOf q.data.toList = cutAt 47 q.data.toList) := partsOf_yes hq
  have HNP : Hid (nparts q = (cutAt 47 q.data.toList).length) := rfl
  clear hq
  go_enter Tryz.func159, Tryz.ntmps159
  go_wp2_with fail
  refine (splitPath_any q _ hqs).mono ?_
  rintro e w1 ⟨v, rfl, hb1, ho1, -, -⟩
  rw [HPT.out] at ho1
  generalize hL : cutAt 47 q.data.toList = L at *
  have HPJ : Hid (∀ i, strV (Lib.join (L.take (i + 1)) [47]) = .string (pre q i)) := fun i => by rw [← hL]; exact pre_join q i
  clear hL
  obtain ⟨g, cap, rfl, hcap, hg0, hg1, hcell⟩ := own_slice ho1 (by omega)
  have HO1 := Lib.hid ho1
  clear hcell ho1
  go_wp2_with fail
  go_loopw [4, 5] (fun f i wr => ∃ (k : Nat) (P : List ByteArray), 1 ≤ k ∧ k ≤ L.length ∧ i = .int .i64 k ∧ Hid (P = (List.range (k - 1)).map (pre q)) ∧ Hid (P.length + 1 = k) ∧ wr.ownsRow w1.heap.size 9 1 f P.length (sv P) ∧ Below w1.heap.size w1 wr) (fun _ i _ => L.length - (intOf i).toNat)
  case atStart => exact ⟨1, [], by omega, by omega, rfl, rfl, rfl, World.ownsRow_nil _ _ _ _, Below.refl _ _⟩
  case round =>
    obtain ⟨k, P, hk1, hk, rfl, HP, HPL, hrow, hbw⟩ := hrel
    obtain ⟨fA, fcap, rfl⟩ := own_form hrow
    by_cases hlt : k < L.length
    · have hki : (k : Int) < (L.length : Int) := by omega
      have hk0 : (0 : Int) ≤ (k : Int) := by omega
      have hkc : (k : Int) ≤ (cap : Int) := by omega
      have hst := (Strs.own (own_below HO1.out hbw)).take (k := k) (by omega)
      have HST := Lib.hid hst
      have HN : Hid (P ++ [pre q (k - 1)] = (List.range (k + 1 - 1)).map (pre q)) := by
        show _ = _
        obtain ⟨m, rfl⟩ : ∃ m, k = m + 1 := ⟨k - 1, by omega⟩
        have hp := HP.out
        rw [show m + 1 - 1 = m from rfl] at hp
        rw [show m + 1 + 1 - 1 = m + 1 from rfl, show m + 1 - 1 = m from rfl, List.range_succ, List.map_append, hp]
        rfl
      have HJ := join_any _ (L.take k) wr HST.out (by have := HJS.out (k - 1); rw [Nat.sub_add_cancel hk1] at this; exact this) (by rw [List.length_take]; omega)
      have hj1 := HPJ.out (k - 1)
      rw [Nat.sub_add_cancel hk1] at hj1
      rw [hj1] at HJ
      have hPl : P.length ≤ 4 := by have := HPL.out; omega
      have hsz := hbw.size
      clear hst hj1
      go_wp2_with fail
      refine HJ.mono ?_
      rintro e w2 ⟨rfl, hb2⟩
      have c2 := hbw.trans (hb2.mono hbw.size)
      have hr2 := own_below hrow hb2
      have hsz2 := c2.size
      go_wp2_with (first
        | (at_builtin; refine wpList_append_own _ rfl _ _ 45 rfl w1.heap.size 9 i0 (.string ByteArray.empty) 1 16 Tryz.underlying45 hi hz0 hz1 hz2 rfl (by decide) _ _ _ rfl (hr2.alloc _) ⟨w2.heap.size, 0, none⟩ 1 1 [.string (pre q (k - 1))] rfl rfl (cell_one_new _ _ _) (fun x hx => by simp at hx; subst hx; rfl) (by unfold maxLen; omega) (by omega) (by simp; omega) ?_; intro v' w9 hown' hgrow9 hnil9))
      exact ⟨⟨k + 1, P ++ [pre q (k - 1)], by omega, by omega, by go_num, HN, by show _ = _; rw [List.length_append, List.length_singleton]; have := HPL.out; omega, by rw [List.length_append, sv_snoc]; exact hown', (c2.alloc c2.size _).grown hgrow9 (c2.alloc c2.size _).size (fun j hj => (hr2.lt j hj).1)⟩, by simp [intOf]; omega⟩
    · obtain rfl : k = L.length := by omega
      have HF : Hid (P = (ups q).reverse) := by show _ = _; rw [HP.out, HUP.out, HNP.out]
      go_wp2
      go_ret
      refine ⟨_, rfl, hb1.trans (hbw.mono hb1.size), ?_⟩
      rw [← HF.out, show (ups q).length = P.length by rw [HF.out, List.length_reverse]]
      exact own_le hrow hb1.size

/-- The record of a change; the node behind it is none or a valid one. -/
theorem recordAfter_any (c : Chg) (w : World) (ho : c.2.2.o = false) (hz : c.2.2 = zR ∨ 1 ≤ c.2.2.k) :
    Calls Tryz.prog 161 #[chgVN c] w fun e w' => e = .returned (aftR c).val ∧ Below w.heap.size w w' := by
  obtain ⟨q, x, y⟩ := c
  simp only at ho hz
  unfold chgVN
  simp only
  rcases hz with hz | hk
  · subst hz
    have HA : Hid (aftR (q, x, zR) = whiteR q) := if_pos rfl
    unfold zR
    go_enter Tryz.func161, Tryz.ntmps161
    go_wp2_with fail
    refine bodyPost_ret (v := .agg #[.int .i64 4, .string q, .string ⟨#[]⟩, .int .i64 0, .bool false]) (by simp [results, Tryz.results161, go_sem]) rfl ⟨?_, ?_⟩
    · show _ = Ending.returned (aftR (q, x, zR)).val
      rw [HA.out]
      rfl
    · repeat (first | refine Below.setCell ?_ (by simp) _ | refine Below.alloc ?_ (by simp <;> omega) _)
      exact Below.refl _ _
  · have HA : Hid (aftR (q, x, y) = y) := by
      have hne : y ≠ zR := fun e => by rw [e] at hk; exact absurd hk (by decide)
      show (if y = zR then whiteR q else nodeOf y) = y
      rw [if_neg hne]
      obtain ⟨k, m, p, b, o⟩ := y
      simp only at ho
      subst ho
      rfl
    have f0 : (y.k == 0) = false := by simp; omega
    have HREC := fun W => recordOfNode_any y ho W
    unfold R.nod R.val at HREC
    rw [ho] at HREC
    have HV : Hid ((aftR (q, x, y)).val = .agg #[.int .i64 y.k, .string y.p, .string y.b, .int .i64 y.m, .bool false]) := by show _ = _; rw [HA.out]; unfold R.val; rw [ho]
    have HRB : Hid (Rbox ((w.alloc (.cells #[.string q, .int .i64 x.k, .string x.p, .string x.b, .int .i64 x.m, .int .i64 y.k, .string y.p, .string y.b, .int .i64 y.m] 133)).alloc (.cells #[.int .i64 0, .string ⟨#[]⟩, .string ⟨#[]⟩, .int .i64 0, .bool false] 53)) (w.heap.size + 1) zR) := by
      have h := alloc_here (w.alloc (.cells #[.string q, .int .i64 x.k, .string x.p, .string x.b, .int .i64 x.m, .int .i64 y.k, .string y.p, .string y.b, .int .i64 y.m] 133)) (.cells #[.int .i64 0, .string ⟨#[]⟩, .string ⟨#[]⟩, .int .i64 0, .bool false] 53)
      rw [World.size_alloc] at h
      exact h
    have hb0 : Below w.heap.size w ((w.alloc (.cells #[.string q, .int .i64 x.k, .string x.p, .string x.b, .int .i64 x.m, .int .i64 y.k, .string y.p, .string y.b, .int .i64 y.m] 133)).alloc (.cells #[.int .i64 0, .string ⟨#[]⟩, .string ⟨#[]⟩, .int .i64 0, .bool false] 53)) := ((Below.refl _ _).alloc (Nat.le_refl _) _).alloc (by simp) _
    clear hk ho
    go_enter Tryz.func161, Tryz.ntmps161
    go_wp2_with fail
    refine (HREC _).mono ?_
    rintro e w1 ⟨rfl, hb1⟩
    have hrb := HRB.out.below hb1 (by simp)
    have c1 := hb0.trans (hb1.mono hb0.size)
    obtain ⟨⟨c0, c1', c2, c3, c4⟩, g0, g1, g2, g3, g4⟩ := hrb.facts
    simp only [zR] at c0 c1' c2 c3 c4
    have HFI : Hid (Rbox (((((w1.setCell ⟨w.heap.size + 1, 0, none⟩ (.int .i64 y.k)).setCell ⟨w.heap.size + 1, 1, none⟩ (.string y.p)).setCell ⟨w.heap.size + 1, 2, none⟩ (.string y.b)).setCell ⟨w.heap.size + 1, 3, none⟩ (.int .i64 y.m)).setCell ⟨w.heap.size + 1, 4, none⟩ (.bool false)) (w.heap.size + 1) { y with o := false }) := hrb.set { y with o := false }
    have HBE : Hid (Below w.heap.size w (((((w1.setCell ⟨w.heap.size + 1, 0, none⟩ (.int .i64 y.k)).setCell ⟨w.heap.size + 1, 1, none⟩ (.string y.p)).setCell ⟨w.heap.size + 1, 2, none⟩ (.string y.b)).setCell ⟨w.heap.size + 1, 3, none⟩ (.int .i64 y.m)).setCell ⟨w.heap.size + 1, 4, none⟩ (.bool false))) := by
      show Below _ _ _
      repeat (refine Below.setCell ?_ (by simp) _)
      exact c1
    clear hrb c1
    go_wp2_with fail
    have hfi := HFI.out
    have hbe := HBE.out
    clear HFI HBE
    generalize (((((w1.setCell ⟨w.heap.size + 1, 0, none⟩ (.int .i64 y.k)).setCell ⟨w.heap.size + 1, 1, none⟩ (.string y.p)).setCell ⟨w.heap.size + 1, 2, none⟩ (.string y.b)).setCell ⟨w.heap.size + 1, 3, none⟩ (.int .i64 y.m)).setCell ⟨w.heap.size + 1, 4, none⟩ (.bool false)) = WF at *
    obtain ⟨⟨q0, q1, q2, q3, q4⟩, -⟩ := hfi.facts
    exact bodyPost_ret (v := .agg #[.int .i64 y.k, .string y.p, .string y.b, .int .i64 y.m, .bool false]) (by simp [results, Tryz.results161, go_sem, q0, q1, q2, q3, q4]) rfl ⟨by rw [HV.out], hbe⟩

/-- A look into the map of a tree. -/
theorem MapT.look {w : World} {b n : Nat} {t : List R} (h : MapT w b n t) (q : ByteArray) (hq : q.size ≤ maxLen) :
    ∃ r : R, (Instr.lookup 169 (.map (some b)) (.string q) false).run Tryz.prog w = .ok r.nod w ∧ ((r ∈ t ∧ r.p = q) ∨ ((∀ x ∈ t, x.p ≠ q) ∧ r = zR)) := by
  obtain ⟨⟨es, h1, h2⟩, h3⟩ := h
  obtain ⟨v, ps, hrun, hv⟩ := h1.lookup keyed Tryz.underlying169 (z := zR.nod) (Tryz.zeroValue84 w) (zd := nodD zR) (zp := []) (readN_nod zR) (key := .string q) (kl := .string q.data.toList) (WideMaps.keyOf_string_mk (P := Tryz.prog) Tryz.underlying9 hq)
  obtain ⟨r, hro, rfl, hr⟩ := readN_inv hv
  refine ⟨r, hrun, ?_⟩
  have hat : (DataW.map es).atKey (.string q.data.toList) (nodD zR) = nodD r := (Prod.mk.inj hr).1
  unfold DataW.atKey at hat
  cases hf : es.find? (fun p => p.1.sameKey (.string q.data.toList)) with
  | some p =>
    simp only [hf] at hat
    obtain ⟨x, hx, rfl⟩ := (h2 p).1 (List.mem_of_find?_eq_some hf)
    have hk := List.find?_some hf
    rw [kd_key] at hk
    have hxr : x = r := nodD_inj (h3 x hx) hro hat
    exact .inl ⟨hxr ▸ hx, hxr ▸ (of_decide_eq_true hk)⟩
  | none =>
    simp only [hf] at hat
    refine .inr ⟨fun x hx e => ?_, (nodD_inj rfl hro hat).symm⟩
    have := List.find?_eq_none.1 hf (kd x) ((h2 _).2 ⟨x, hx, rfl⟩)
    rw [kd_key, decide_eq_true e] at this
    exact this rfl
end Go.Proofs.YtciflchaepchiabGreatDoor.Recs

/- The layer between two trees, of the program: what it gathers. -/
namespace Go.Proofs.YtciflchaepchiabGreatDoor.Recs
set_option maxRecDepth 100000
open Go.RowKit Paths Errs Go.Shelf
attribute [local go_sem] Oper.semAt_some

/-- The root as a node. -/
def rootN : R := ⟨3, 0, ⟨#[]⟩, ⟨#[]⟩, false⟩
theorem parO_root {q : ByteArray} (h : parentL q.data.toList = []) : parO q = ⟨#[]⟩ := by unfold parO; rw [h]
theorem empty_of {q : ByteArray} (h : parO q = ⟨#[]⟩) : parentL q.data.toList = [] := by
  have := congrArg (fun b : ByteArray => b.data.toList) h
  simpa [parO_data] using this
/-- What the program finds at the parent's path tells whether it is a directory or the root. -/
theorem look_homed {B : List R} (hb : IsTree B) {q : ByteArray} {r : R} (h : (r ∈ rootN :: B ∧ r.p = parO q) ∨ ((∀ x ∈ rootN :: B, x.p ≠ parO q) ∧ r = zR)) : homed B q = decide (r.k = 3) := by
  unfold homed
  by_cases hp : parentL q.data.toList = []
  · rw [decide_eq_true hp, Bool.true_or]
    rcases h with ⟨hr, he⟩ | ⟨hn, _⟩
    · rcases List.mem_cons.1 hr with rfl | hr
      · rfl
      · rw [parO_root hp] at he
        have := hb.path r hr
        rw [he] at this
        exact absurd rfl (pathB_ne this)
    · exact absurd (parO_root hp).symm (hn rootN (List.mem_cons_self ..))
  · rw [decide_eq_false hp, Bool.false_or]
    rcases h with ⟨hr, he⟩ | ⟨hn, rfl⟩
    · rcases List.mem_cons.1 hr with rfl | hr
      · exact absurd (empty_of he.symm) hp
      · rw [← he, recAt_of hb.sorted hr]
        rfl
    · have : recAt B (parO q) = none := by
        cases hc : recAt B (parO q) with
        | none => rfl
        | some x =>
          obtain ⟨h1, h2⟩ := recAt_mem hc
          exact absurd h2 (hn x (List.mem_cons_of_mem _ h1))
      rw [this]
      rfl
theorem look_rec {B : List R} (hb : IsTree B) (hoB : ∀ r ∈ B, r.o = false) {q a : ByteArray} (hq : pathB q.data.toList = true) (hh : homed B q = true) (ha : a ∈ ups q) {r : R} (h : (r ∈ rootN :: B ∧ r.p = a) ∨ ((∀ x ∈ rootN :: B, x.p ≠ a) ∧ r = zR)) : recB B a = r ∧ r.o = false := by
  obtain ⟨n, hn, _⟩ := homed_up hb hq hh a ha
  obtain ⟨hnm, hnp⟩ := recAt_mem hn
  rcases h with ⟨hr, he⟩ | ⟨hno, _⟩
  · rcases List.mem_cons.1 hr with rfl | hr
    · have := ups_path hq a ha
      rw [← he] at this
      exact absurd rfl (pathB_ne this)
    · have hra := recAt_of hb.sorted hr
      rw [he] at hra
      have ho := hoB r hr
      refine ⟨?_, ho⟩
      rw [recB_some hra]
      obtain ⟨k, m, p, b, o⟩ := r
      simp only at ho
      subst ho
      rfl
  · exact absurd hnp (hno n (List.mem_cons_of_mem _ hnm))

def lbL (B : List R) (cs : List Chg) : List R := cs.foldl (stepB B) []
theorem lbL_snoc (B : List R) (cs : List Chg) (c : Chg) : lbL B (cs ++ [c]) = stepB B (lbL B cs) c := by unfold lbL; rw [List.foldl_append]; rfl
theorem addB_len (B : List R) : ∀ (ds : List ByteArray) (L : List R), (ds.foldl (addB B) L).length ≤ L.length + ds.length
  | [], L => by simp
  | d :: ds, L => by
    have h := addB_len B ds (addB B L d)
    have h2 : (addB B L d).length ≤ L.length + 1 := by
      cases hd : recAt L d with
      | none => rw [addB_none hd]; simp
      | some y => rw [addB_some hd]; omega
    rw [List.foldl_cons, List.length_cons]
    omega
theorem ups_3 {q : ByteArray} (h : pathB q.data.toList = true) : (ups q).length ≤ 3 := by
  have := congrArg List.length (ups_range h)
  rw [List.length_reverse, List.length_map, List.length_range] at this
  have h4 := (pathB_parts h).1
  unfold nparts at this
  omega
theorem lbL_len (B : List R) : ∀ cs : List Chg, (∀ c ∈ cs, pathB c.1.data.toList = true) → (lbL B cs).length ≤ 4 * cs.length := by
  intro cs
  suffices H : ∀ (cs : List Chg) (L : List R), (∀ c ∈ cs, pathB c.1.data.toList = true) → (cs.foldl (stepB B) L).length ≤ L.length + 4 * cs.length by
    intro h
    have := H cs [] h
    simpa [lbL] using this
  intro cs
  induction cs with
  | nil => intro L _; simp
  | cons c cs ih =>
    intro L h
    have h1 := ih (stepB B L c) (fun d hd => h d (List.mem_cons_of_mem _ hd))
    have h2 : (stepB B L c).length ≤ L.length + 4 := by
      unfold stepB
      split
      · have := addB_len B (ups c.1).reverse L
        have h3 := ups_3 (h c (by simp))
        rw [List.length_reverse] at this
        rw [List.length_append, List.length_singleton]
        omega
      · omega
    rw [List.foldl_cons, List.length_cons]
    omega
end Go.Proofs.YtciflchaepchiabGreatDoor.Recs
