/- Parts of several texts of mine in one file (each begins with its own remark). -/
import Derived.Test.YtcnjiphoahoojaaDoorCA1
import Derived.Test.YtcnjiphoahoojaaDoorCA2
import Derived.Test.YtcnjiphoahoojaaDoorCA3
import Derived.Test.YtcnjiphoahoojaaDoorCA4
import Derived.Test.YtcnjiphoahoojaaDoorCA5
import Derived.Test.YtcnjiphoahoojaaDoorCA6
import Derived.Test.YtcnjiphoahoojaaDoorCA7
import Derived.Test.YtcnjiphoahoojaaDoorCB1
import Derived.Test.YtcnjiphoahoojaaDoorCB10
import Derived.Test.YtcnjiphoahoojaaDoorCB11
import Derived.Test.YtcnjiphoahoojaaDoorCB2
import Derived.Test.YtcnjiphoahoojaaDoorCB3
import Derived.Test.YtcnjiphoahoojaaDoorCB4
import Derived.Test.YtcnjiphoahoojaaDoorCB5
import Derived.Test.YtcnjiphoahoojaaDoorCB6
import Derived.Test.YtcnjiphoahoojaaDoorCB8
import Derived.Test.YtcnjiphoahoojaaDoorCB9
import Derived.Test.YtcnjiphoahoojaaDoorChecked
import Derived.Test.YtcnjiphoahoojaaDoorShelf
import Derived.Test.YtcnjiphoahoojaaDoorProg
import Derived.Test.YtcnjiphoahoojaaDoorRows
import Derived.Deep.AppendLies
import Derived.Laws.IdiomCopy
import Derived.BigRegion
import Derived.StillTailTactics
import Derived.Deep.Slices
import Derived.OpenShut
import Derived.ShutString
import Derived.ChangeArms
import Derived.WideShapes
import Derived.Lib.LaidTab
import Derived.BigQuiet
import Derived.Deep.QuietTactic
import Derived.Deep.RegionHeld3
import Derived.Deep.Draws
import Derived.Deep.LoopGhost
import Derived.WalkKit
import Derived.WalkSpells
import Derived.WalkSmall
import Derived.Lib.OthersKept
import Derived.Lib.Hide
import Derived.Lib.Strings
import Derived.Lib.Join
import Derived.Laws.OwnMore
import Derived.Laws.BytesArg
import Derived.Stop.LaidErr
import Derived.WalkLawsBesides
import Derived.LaidEql
import Derived.Stop.Asserts
import Derived.Below
import Derived.Stop.LaidTwo
import Derived.ChangeVars
import Derived.Deep.DeepHandedRow
import Derived.Deep.RegionWith
import Derived.OneCell
import Derived.Lib.SliceRun
import Derived.Lib.Overlaps
import Derived.Lib.AppendZerosOnto
import Derived.Laws.NewBlocks
import Derived.Deep.RegionLaw
import Derived.RangeFuncNested
import Derived.RangeFuncBound
import Derived.RangeFuncCalls
import Derived.RangeFuncLeaves
import Derived.RangeFuncBox
import Derived.Shelf.Abstract
import Derived.Shelf.RegionOpen
import Derived.OwnWalkIn
import Derived.TacticsInMore
import Derived.LoopNIn
import Derived.LoopIn
/- PathsOf, of the program. Conditions: the table of kinds, the two sentinels. -/
namespace Go.Proofs.YtcnjiphoahoojaaDoor.Recs
set_option maxRecDepth 100000
open Go.RowKit Paths Errs

def bts (P : List ByteArray) : List (List UInt8) := P.map fun q => q.data.toList
theorem bts_step {P : List ByteArray} {k : Nat} (hk : k < P.length) : bts (P.take (k + 1)) = bts (P.take k) ++ [P[k].data.toList] := by
  unfold bts
  rw [List.take_add_one, List.getElem?_eq_getElem hk, List.map_append]
  rfl
def poR (LL : List (List R)) : List (List UInt8) := if codeS LL = 0 then bts (pathsL LL) else []
theorem po_ok {LL : List (List R)} (h : codeS LL = 0) : poR LL = bts (pathsL LL) := if_pos h
theorem po_bad {LL : List (List R)} {c : Int} (h : codeS LL = c) (hc : c ≠ 0) : poR LL = [] := if_neg (by rw [h]; exact hc)
theorem po_len (LL : List (List R)) : (poR LL).length ≤ 1048576 := by
  unfold poR
  split
  · rename_i h
    obtain ⟨_, ho⟩ := fine_s h
    have hst := stack_of ho
    have := pathsL_len (LL := LL) (fun l hm => layer_len (hst.2 l hm)) hst.1
    unfold bts
    rw [List.length_map]
    omega
  · simp
theorem grp_head {LL : List (List R)} (hs : ∀ l ∈ LL, layerOK l = true) {q : ByteArray} (hq : q ∈ pathsL LL) : ∃ a t, grp LL q = a :: t ∧ a.1.p = q := by
  have hsr : ∀ l ∈ LL, Sorted l := fun l hm => layer_sorted (hs l hm)
  obtain ⟨l, hl, r, hr, hrp⟩ := (pathsL_mem LL q).1 hq
  obtain ⟨i, hi, rfl⟩ := List.getElem_of_mem hl
  have hm : (r, i + 1) ∈ grp LL q := (grp_all hsr q (r, i + 1)).2 ⟨hrp, LL[i], by omega, by rw [Nat.add_sub_cancel]; exact List.getElem?_eq_getElem hi, hr⟩
  cases hg : grp LL q with
  | nil => rw [hg] at hm; cases hm
  | cons a t => exact ⟨a, t, rfl, ((grp_all hsr q a).1 (by rw [hg]; exact List.mem_cons_self ..)).1⟩

theorem row_apart {w : World} {b b' : Nat} {T T' : TypeId} {k k' : Nat} {u v : Value} {n m : Nat} {xs ys : List Value} (hT : T ≠ T') (h : w.ownsRow b T k u n xs) (hk : w.ownsRow b' T' k' v m ys) : u.ownBlock = none ∨ u.ownBlock ≠ v.ownBlock := by
  rcases hk.2 with ⟨rfl, _⟩ | ⟨g, cap, cur, rfl, _, hg, _⟩
  · cases hu : u.ownBlock with
    | none => exact .inl rfl
    | some c => exact .inr (fun e => by cases e)
  · exact .inr (own_not h hT hg)
theorem GrpOwn.keptS {w w' : World} {b b' n : Nat} {v f : Value} {us xs : List Value} {Gs : List (List (R × Nat))} (h : GrpOwn w b v us Gs) (hg : w.grownBy w' f.ownBlock) (ho : w.ownsRow b' 9 1 f n xs) : GrpOwn w' b v us Gs :=
  ⟨h.len, h.own.kept hg (row_apart (by decide) h.own ho), fun i u g hi hq => RowG.kept (h.rows i u g hi hq) hg (row_apart (by decide) (h.rows i u g hi hq).2 ho), h.apart⟩

set_option maxHeartbeats 1600000 in
theorem pathsOf_impl (v : Value) (LL : List (List R)) (x y : Addr) (w : World) (h : StkSl w v LL) (hl : LL.length ≤ 1048576) (hr : ∀ l ∈ LL, l.length ≤ 1048576 ∧ ∀ r ∈ l, r.p.size ≤ maxLen) (hT : Three w x y) :
    Calls Tryd.prog 9 #[v] w fun e w' => ∃ z, e = .returned (.tuple #[z, .int .i64 (codeS LL)]) ∧ Below w.heap.size w w' ∧ w'.ownsRow w.heap.size 9 1 z (poR LL).length ((poR LL).map strV) := by
  obtain ⟨i0, hi, hz0, hz1, hz2⟩ := info_parts strInfo
  have HARG : euFrom [(stkE LL).u] 0 = codeS LL := arg_s LL
  by_cases h0 : codeS LL = 0
  · obtain ⟨hc, hSO⟩ := fine_s h0
    have H0 := Lib.hid h0
    have HC := stackU_any v LL x y w h hl hr hT
    rw [hc] at HC
    unfold EN.u EU.val at HC
    have hst := stack_of hSO
    have hP80 := pathsL_len (LL := LL) (fun l hm => layer_len (hst.2 l hm)) hst.1
    have HGH : Hid (∀ q ∈ pathsL LL, ∃ a t, grp LL q = a :: t ∧ a.1.p = q) := fun q hq => grp_head hst.2 hq
    have HGO := fun w1 hb => groupsOf_any v LL w1 (h.below hb) hst.1 hst.2
    clear HARG h0 hst h
    go_enter Tryd.func9, Tryd.ntmps9
    go_wp2_with fail
    refine HC.mono ?_
    rintro e w1 ⟨rfl, hb1⟩
    have hT1 := hT.below hb1 (Nat.le_refl _)
    have HA := argU1_any .fine x y w1 hT1
    unfold EU.val at HA
    go_wp2_with fail
    refine HA.mono ?_
    rintro e w3 ⟨rfl, hb3⟩
    have c3 := hb1.trans (hb3.mono hb1.size)
    have hcode : euFrom [.fine] 0 = 0 := rfl
    rw [hcode]
    clear hcode
    go_wp2_with fail
    refine (HGO w3 c3).mono ?_
    rintro e w4 ⟨gv, us, rfl, hb4, hg4⟩
    have c4 := c3.trans (hb4.mono c3.size)
    obtain ⟨gA, gcap, rfl⟩ := own_form hg4.own
    have hgl : Hid (((pathsL LL).map (grp LL)).length = (pathsL LL).length) := List.length_map _
    have hul : us.length = (pathsL LL).length := hg4.len.trans hgl.out
    have HG4 := Lib.hid hg4
    clear HGO hg4
    rw [hgl.out]
    go_wp2_with fail
    go_loopw [5, 18] (fun f i wr => ∃ (k : Nat) (M : List (List UInt8)), k ≤ (pathsL LL).length ∧ i = .int .i64 k ∧ Hid (M = bts ((pathsL LL).take k)) ∧ Hid (M.length = k) ∧ wr.ownsRow w.heap.size 9 1 f M.length (M.map strV) ∧ Below w.heap.size w wr ∧ Hid (GrpOwn wr w3.heap.size (.slice gA (pathsL LL).length gcap) us ((pathsL LL).map (grp LL)))) (fun _ i _ => (pathsL LL).length - (intOf i).toNat)
    case atStart => exact ⟨0, [], by omega, rfl, rfl, rfl, World.ownsRow_nil _ _ _ _, c4, by have := HG4.out; rw [hgl.out] at this; exact this⟩
    case round =>
      obtain ⟨k, M, hk, rfl, HM, hMk, hown, hbw, HG⟩ := hrel
      by_cases hlt : k < (pathsL LL).length
      · obtain ⟨a, t, hg, hap⟩ := HGH.out _ (List.getElem_mem hlt)
        have hgk : ((pathsL LL).map (grp LL))[k]? = some (a :: t) := by rw [List.getElem?_map, List.getElem?_eq_getElem hlt, Option.map_some, hg]
        have huk : us[k]? = some (us[k]'(by omega)) := List.getElem?_eq_getElem _
        have hru := HG.out.rows k _ (a :: t) huk hgk
        obtain ⟨gu, c, hue, _, hgu, _, _⟩ := RowG.atom hru (by simp)
        have hown0 := HG.out.own
        rw [hgl.out] at hown0
        obtain ⟨go, cap, hve, hgo⟩ : ∃ go cap, (Value.slice gA (pathsL LL).length gcap) = .slice (some ⟨go, 0, none⟩) (pathsL LL).length cap ∧ go < wr.heap.size := by
          rcases hown0.2 with ⟨_, h0⟩ | ⟨g, cap, cur, e, _, h2, _⟩
          · omega
          · exact ⟨g, cap, e, (Array.getElem?_eq_some_iff.1 h2).1⟩
        have hcu : wr.cell? ⟨go, k, none⟩ = some (us[k]'(by omega)) := by
          rw [hve] at hown0
          have := hown0.cellAt k (by omega)
          rw [huk] at this
          exact this
        rw [hue] at hru hcu
        have hca := RowG.cell csP_len hru (i := 0) (c := 1) (by simp) (by omega)
        simp only [csP, List.getElem?_cons_zero, List.getElem?_cons_succ, List.getElem_cons_zero, Nat.zero_mul, Nat.zero_add] at hca
        cases hve
        have hi1 : (k : Int) < ((pathsL LL).length : Int) := by omega
        have hi0 : (0 : Int) ≤ (k : Int) := by omega
        obtain ⟨fA, fcap, rfl⟩ := own_form hown
        have HN : Hid (M ++ [a.1.p.data.toList] = bts ((pathsL LL).take (k + 1))) := by show _ = _; rw [bts_step hlt, ← HM.out, hap]
        clear hru hown0 huk hgk hg hap
        have BW : Hid (Below wr.heap.size wr (wr.alloc (.cells #[.string a.1.p] 9))) := (Below.refl _ _).alloc (Nat.le_refl _) _
        have hMl : M.length ≤ 1000 := by have := hMk.out; omega
        have ho1 := hown
        have hsz1 := hbw.size
        go_wp2_with (first
          | (at_builtin; refine wpList_append_own _ rfl _ _ 24 rfl w.heap.size 9 i0 (.string ByteArray.empty) 1 16 Tryd.underlying24 hi hz0 hz1 hz2 rfl (by decide) _ _ _ rfl (ho1.alloc _) ⟨wr.heap.size, 0, none⟩ 1 1 [.string a.1.p] rfl rfl (cell_one_new _ _ _) (fun x hx => by simp at hx; subst hx; rfl) (by unfold maxLen; omega) (by omega) (by simp; omega) ?_; intro v' w9 hown' hgrow9 hnil9))
        exact ⟨⟨k + 1, _, by omega, by go_num, HN, by show _ = _; simp [hMk.out], str_snoc hown', (hbw.alloc hbw.size _).grown hgrow9 (hbw.alloc hbw.size _).size (fun j hj => (hown.lt j hj).1), (HG.out.below BW.out).keptS hgrow9 (ho1.alloc _)⟩, by simp [intOf]; omega⟩
      · have HF : Hid (M = bts (pathsL LL)) := by show _ = _; rw [HM.out, List.take_of_length_le (by omega)]
        go_wp2
        go_ret2
        exact ⟨_, by rw [H0.out]; rfl, hbw, by rw [po_ok H0.out, ← HF.out]; exact hown⟩
  · cases hc : stkE LL <;> (
      rw [hc] at HARG
      first
      | exact absurd (HARG.symm.trans rfl) h0
      | (have HC := stackU_any v LL x y w h hl hr hT
         rw [hc] at HC
         unfold EN.u EU.val at HC
         try unfold errV at HC
         try unfold recV at HC
         obtain ⟨vA, vcap, rfl⟩ := h.form
         go_enter Tryd.func9, Tryd.ntmps9
         go_wp2_with fail
         refine HC.mono ?_
         rintro e w1 ⟨rfl, hb1⟩
         have hT1 := hT.below hb1 (Nat.le_refl _)
         have HA := argU1_any ((stkE LL).u) x y w1 hT1
         rw [hc] at HA
         have hne : (codeS LL != 0) = true := (by simpa using h0)
         have HQ := Lib.hid (po_bad (LL := LL) rfl h0)
         rw [HARG] at HA
         try unfold EN.u at HA
         unfold EU.val at HA
         try unfold errV at HA
         try unfold recV at HA
         generalize hC : codeS LL = C at *
         have HCC := Lib.hid hC
         clear HARG h0 hC
         go_wp2_with fail
         refine HA.mono ?_
         rintro e w3 ⟨rfl, hb3⟩
         have c3 := hb1.trans (hb3.mono hb1.size)
         go_wp2_with fail
         go_ret2
         exact ⟨.slice none 0 0, by first | rfl | (rw [HCC.out]; rfl) | (rw [← HCC.out]; rfl), c3, by rw [HQ.out]; exact World.ownsRow_nil _ _ _ _⟩))
end Go.Proofs.YtcnjiphoahoojaaDoor.Recs

/- Paths in their order: a path put in from the back (plain: for the model's list of paths). -/
namespace Go.Proofs.YtcnjiphoahoojaaDoor.Recs
set_option maxRecDepth 100000
open Paths

/-- Behind the place all are above q; the one ahead of the place is not: it is q, or q goes in here. -/
theorem ins_back {P : List ByteArray} {q : ByteArray} {n : Nat} (hP : Ups P) (hn : n ≤ P.length) (h1 : ∀ j (hj : j < P.length), n ≤ j → lessQ q P[j] = true) (h2 : ∀ (hp : n - 1 < P.length), 0 < n → lessQ q P[n - 1] = false) :
    insP q P = if 0 < n ∧ P[n - 1]? = some q then P else P.take n ++ [q] ++ P.drop n := by
  have hup := insP_ups q P hP
  have hall := List.pairwise_iff_getElem.1 hP
  split
  · rename_i h
    refine ups_ext hup hP fun x => ?_
    rw [insP_mem]
    exact ⟨fun e => e.elim (fun e => e ▸ List.mem_of_getElem? h.2) id, .inr⟩
  · rename_i h
    have hlow : ∀ j (hj : j < P.length), j < n → lessQ P[j] q = true := by
      intro j hj hjn
      have hp : n - 1 < P.length := by omega
      have hne : P[n - 1] ≠ q := fun e => h ⟨by omega, by rw [List.getElem?_eq_getElem hp, e]⟩
      have hl : lessQ P[n - 1] q = true := (lessQ_total hne).resolve_right (by rw [h2 hp (by omega)]; decide)
      by_cases e : j = n - 1
      · subst e; exact hl
      · exact lessQ_trans _ _ _ (hall j (n - 1) hj hp (by omega)) hl
    have hu2 : Ups (P.take n ++ [q] ++ P.drop n) := by
      unfold Ups
      rw [List.append_assoc, List.pairwise_append]
      refine ⟨hP.sublist (List.take_sublist ..), ?_, ?_⟩
      · show (q :: P.drop n).Pairwise _
        refine List.pairwise_cons.2 ⟨fun b hb => ?_, hP.sublist (List.drop_sublist ..)⟩
        obtain ⟨j, hj, rfl⟩ := List.getElem_of_mem hb
        rw [List.getElem_drop]
        exact h1 _ _ (by omega)
      · intro a ha b hb
        obtain ⟨i, hi, rfl⟩ := List.getElem_of_mem ha
        rw [List.length_take] at hi
        rw [List.getElem_take]
        have ha' := hlow i (by omega) (by omega)
        rcases List.mem_cons.1 hb with rfl | hb
        · exact ha'
        · have hb' : b ∈ P.drop n := hb
          obtain ⟨j, hj, rfl⟩ := List.getElem_of_mem hb'
          rw [List.getElem_drop]
          exact lessQ_trans _ _ _ ha' (h1 _ _ (by omega))
    refine ups_ext hup hu2 fun x => ?_
    rw [insP_mem, List.append_assoc, List.mem_append, List.singleton_append, List.mem_cons]
    have := List.mem_append (a := x) (s := P.take n) (t := P.drop n)
    rw [List.take_append_drop] at this
    rw [this]
    exact ⟨fun e => e.elim (fun e => .inr (.inl e)) (fun e => e.elim .inl (fun e => .inr (.inr e))), fun e => e.elim (fun e => .inr (.inl e)) (fun e => e.elim .inl (fun e => .inr (.inr e)))⟩
/-- The paths of the first k lists and of the first j records of the next. -/
def pathsTo (LL : List (List R)) (k j : Nat) : List ByteArray := ((LL.take k).flatten ++ ((LL[k]?).getD []).take j).foldl (fun P r => insP r.p P) []
theorem to_next {LL : List (List R)} {k : Nat} (hk : k < LL.length) : pathsTo LL (k + 1) 0 = pathsTo LL k (LL[k].length) := by
  unfold pathsTo
  rw [List.take_zero, List.append_nil, List.take_add_one, List.getElem?_eq_getElem hk, Option.toList_some, List.flatten_append, List.flatten_singleton, Option.getD_some, List.take_length]
theorem to_end (LL : List (List R)) : pathsTo LL LL.length 0 = pathsL LL := by
  unfold pathsTo pathsL
  rw [List.take_zero, List.append_nil, List.take_length]
theorem to_step {LL : List (List R)} {k j : Nat} (hk : k < LL.length) (hj : j < LL[k].length) : pathsTo LL k (j + 1) = insP LL[k][j].p (pathsTo LL k j) := by
  unfold pathsTo
  rw [List.getElem?_eq_getElem hk, Option.getD_some, List.take_add_one, List.getElem?_eq_getElem hj, Option.toList_some, ← List.append_assoc, List.foldl_append]
  rfl
theorem to_ups (LL : List (List R)) (k j : Nat) : Ups (pathsTo LL k j) := (fold_ins _ [] List.Pairwise.nil).1
end Go.Proofs.YtcnjiphoahoojaaDoor.Recs
