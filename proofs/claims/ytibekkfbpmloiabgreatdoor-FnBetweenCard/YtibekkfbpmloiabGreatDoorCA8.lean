/- Parts of several texts of mine in one file (each begins with its own remark). -/
import Derived.Test.YtibekkfbpmloiabGreatDoorCA1
import Derived.Test.YtibekkfbpmloiabGreatDoorCA2
import Derived.Test.YtibekkfbpmloiabGreatDoorCA3
import Derived.Test.YtibekkfbpmloiabGreatDoorCA4
import Derived.Test.YtibekkfbpmloiabGreatDoorCA5
import Derived.Test.YtibekkfbpmloiabGreatDoorCA6
import Derived.Test.YtibekkfbpmloiabGreatDoorCA7
import Derived.Test.YtibekkfbpmloiabGreatDoorChecked
import Derived.Test.YtibekkfbpmloiabGreatDoorShelf
import Derived.Deep.Slices
import Derived.OpenShut
import Derived.ShutString
import Derived.ChangeArms
import Derived.WideShapes
import Derived.Lib.LaidTab
import Derived.BigQuiet
import Derived.Deep.QuietTactic
import Derived.Deep.RegionHeld3
import Derived.StillTailTactics
import Derived.Deep.Draws
import Derived.Deep.LoopGhost
import Derived.WalkKit
import Derived.WalkSpells
import Derived.WalkSmall
import Derived.Lib.OthersKept
import Derived.Lib.Hide
import Derived.Lib.Strings
import Derived.Lib.Join
import Derived.WalkLawsBesides
import Derived.Laws.BytesArg
import Derived.Laws.IdiomRangeMap
import Derived.Maps.RangeWalk
import Derived.Maps.Ext
import Derived.Lib.SlMapFilter
import Derived.Laws.OwnMore
import Derived.BigRegion
/- Applying a layer record by record upon a set of nodes. -/
namespace Go.Proofs.YtibekkfbpmloiabGreatDoor.Recs
open Paths

theorem layer_take {l : List R} (h : IsLayer l) (k : Nat) : IsLayer (l.take k) := by
  refine ⟨h.sorted.sublist (List.take_sublist k l), fun r hr hp => ?_, fun x hx => h.path x (List.mem_of_mem_take hx)⟩
  obtain ⟨i, hi, rfl⟩ := List.mem_take_iff_getElem.1 hr
  have hil : i < l.length := by omega
  obtain ⟨x, hx, hxp, hxk⟩ := h.housed _ (List.getElem_mem hil) hp
  obtain ⟨j, hj, rfl⟩ := List.getElem_of_mem hx
  have h2 := parent_less (h.path _ (List.getElem_mem hil)) hp
  have hji : j < i := by
    rcases Nat.lt_trichotomy j i with h1 | h1 | h1
    · exact h1
    · subst h1
      rw [← hxp, lessP_irrefl] at h2
      cases h2
    · have h3 := sorted_get h.sorted hj h1
      unfold lessR at h3
      rw [hxp] at h3
      rw [lessP_asymm _ _ h2] at h3
      cases h3
  exact ⟨_, List.mem_take_iff_getElem.2 ⟨j, by omega, rfl⟩, hxp, hxk⟩
theorem apply_snoc (l t : List R) {k : Nat} (hk : k < l.length) : applyL (l.take (k + 1)) t = doR (applyL (l.take k) t) l[k] := by
  unfold applyL
  rw [List.take_succ_eq_append_getElem hk, List.foldl_append]
  rfl
theorem isUp_isBelow {p q : ByteArray} (hp : pathB p.data.toList = true) (hq : pathB q.data.toList = true) : isBelowB p q = isUp q p := by
  unfold isBelowB
  rw [hp, hq, isUp_below hp]
  have : ¬ q.size = 0 := by rw [Lib.size_eq]; exact fun e => pathB_ne hq (List.eq_nil_of_length_eq_zero e)
  rw [decide_eq_false this]
  simp
/-- What the program's own step leaves of a set of nodes. -/
def sweepR (t : List R) (r : R) : List R := if stops r then t.filter (fun x => !isBelowB x.p r.p) else t
def stepR (t : List R) (r : R) : List R := if r.k = 4 then (sweepR t r).filter (fun x => decide (x.p ≠ r.p)) else nodeOf r :: (sweepR t r).filter (fun x => decide (x.p ≠ r.p))
theorem mem_sweep {t : List R} (ht : IsTree t) {r : R} (hr : pathB r.p.data.toList = true) {x : R} : x ∈ sweepR t r ↔ x ∈ t ∧ (stops r = true → r.p ∉ ups x.p) := by
  unfold sweepR
  split
  · rename_i hs
    rw [List.mem_filter]
    refine and_congr_right fun hx => ?_
    rw [isUp_isBelow (ht.path x hx) hr, hs]
    simp [← isUp_no]
  · rename_i hs
    simp [hs]
theorem mem_step {t : List R} (ht : IsTree t) {r : R} (hr : pathB r.p.data.toList = true) {x : R} : x ∈ stepR t r ↔ x ∈ doR t r := by
  have hcl : ∀ y ∈ t, r.p ∈ ups y.p → clears t r = true → stops r = true := fun y hy hu hc => by
    unfold clears at hc
    obtain ⟨z, hz, hk⟩ := dir_up ht (recAt_of ht.sorted hy) hu
    rw [hz] at hc
    simpa [hk] using hc
  rw [mem_do]
  unfold stepR
  split
  · rename_i h4
    have hs : stops r = true := by unfold stops; simp [h4]
    rw [List.mem_filter, mem_sweep ht hr]
    simp [h4, hs]
    constructor
    · rintro ⟨⟨a, b⟩, c⟩; exact ⟨a, c, b⟩
    · rintro ⟨a, c, b⟩; exact ⟨⟨a, b⟩, c⟩
  · rename_i h4
    rw [List.mem_cons, List.mem_filter, mem_sweep ht hr]
    constructor
    · rintro (rfl | ⟨⟨a, b⟩, c⟩)
      · exact .inl ⟨h4, rfl⟩
      · refine .inr ⟨a, by simpa using c, ?_⟩
        rintro (h | h)
        · exact absurd h h4
        · exact fun hu => b (hcl x a hu h) hu
    · rintro (⟨_, rfl⟩ | ⟨a, c, b⟩)
      · exact .inl rfl
      · refine .inr ⟨⟨a, fun hs => b (.inr ?_)⟩, by simpa using c⟩
        unfold clears
        rw [hs]
        rfl
end Go.Proofs.YtibekkfbpmloiabGreatDoor.Recs

/- The program's map of paths: made of a tree, swept below a path, a layer applied to it. -/
namespace Go.Proofs.YtibekkfbpmloiabGreatDoor.Recs
set_option maxRecDepth 100000
open Go.RowKit Paths

theorem take_put {l : List R} (hs : Sorted l) {k : Nat} (hk : k < l.length) (x : R) : x ∈ l.take (k + 1) ↔ x ∈ l[k] :: (l.take k).filter (fun x => decide (x.p ≠ l[k].p)) := by
  rw [List.take_succ_eq_append_getElem hk, List.mem_append, List.mem_singleton, List.mem_cons, List.mem_filter]
  constructor
  · rintro (h | h)
    · obtain ⟨i, hi, rfl⟩ := List.mem_take_iff_getElem.1 h
      refine .inr ⟨h, ?_⟩
      simpa using less_ne (sorted_get hs hk (by omega))
    · exact .inl h
  · rintro (h | ⟨h, _⟩)
    · exact .inr h
    · exact .inl h

set_option maxHeartbeats 1000000 in
theorem mapOfTree_any (v : Value) (l : List R) (w : World) (h : NodSl w v l) (hl : l.length ≤ 1048576) (hs : Sorted l) (hp : ∀ r ∈ l, r.p.size ≤ maxLen) :
    Calls Tryz.prog 131 #[v] w fun e w' => e = .returned (.map (some w.heap.size)) ∧ Below w.heap.size w w' ∧ MapT w' w.heap.size l.length l := by
  obtain ⟨ho, sA, cap, rfl, hcap, h⟩ := h
  have H := Lib.hid h
  have HO := Lib.hid ho
  have HP := Lib.hid hp
  have HS := Lib.hid hs
  clear h ho hp hs
  have hmm := @run_makeMap Tryz.prog
  have hb0 : Below w.heap.size w (w.alloc (.map #[] 0)) := (Below.refl _ _).alloc (Nat.le_refl _) _
  go_enter Tryz.func131, Tryz.ntmps131
  go_wp2
  go_loopw [9] (fun i wr => ∃ k : Nat, k ≤ l.length ∧ i = .int .i64 k ∧ Below w.heap.size w wr ∧ MapT wr w.heap.size k (l.take k)) (fun i _ => l.length - (intOf i).toNat)
  case atStart => exact ⟨0, by omega, rfl, hb0, MapT.made w⟩
  case round =>
    obtain ⟨k, hk, rfl, hbw, ⟨es, hown, hes⟩, hMo⟩ := hrel
    by_cases hlt : k < l.length
    · obtain ⟨b, off, rfl, hb, hcell⟩ := H.out (by omega)
      obtain ⟨c0, c1, c2, c3⟩ := (hcell k l[k] (by simp [hlt])).below hbw hb
      clear hcell
      have HES := Lib.hid hes
      have HMO := Lib.hid hMo
      have hi1 : (k : Int) < (l.length : Int) := by omega
      have hi0 : (0 : Int) ≤ (k : Int) := by omega
      have hkey := WideMaps.keyOf_string_mk (P := Tryz.prog) Tryz.underlying9 (HP.out _ (List.getElem_mem hlt))
      have hval := readN_nod l[k]
      have hle := hbw.size
      unfold R.nod at hval
      clear hes hMo
      go_wp2_with (first
        | (at_mapUpdate; refine wpList_mapUpdate_own _ rfl _ _ _ 150 rfl 9 68 keyed Tryz.underlying150 readN w.heap.size k (.map es) rfl (hown.alloc _) (by unfold maxLen; omega) _ _ _ rfl rfl hkey _ [] hval ?_; intro w1 hown1 hgrow1)
        | go_in)
      go_roundw
      case rel => exact ⟨k + 1, by omega, by go_num, (hbw.alloc hbw.size _).grown hgrow1 (by simp; omega) (fun j hj => by cases hj; exact Nat.le_refl _), (MapT.put l[k] HES.out HMO.out (HO.out _ (List.getElem_mem hlt)) hown1).congr (take_put HS.out hlt)⟩
      case measure => simp [intOf]; omega
    · obtain rfl : k = l.length := by omega
      rw [List.take_of_length_le (Nat.le_refl _)] at hes hMo
      have HM : Hid (MapT wr w.heap.size l.length l) := ⟨⟨es, hown, hes⟩, hMo⟩
      clear hown hes hMo
      go_wp2
      go_ret
      exact ⟨rfl, hbw, HM.out⟩

set_option maxHeartbeats 2000000 in
theorem removeBelow_any (b n : Nat) (t : List R) (q : ByteArray) (w : World) (hM : MapT w b n t) (hq : q.size ≤ maxLen) :
    Calls Tryz.prog 194 #[.map (some b), .string q] w fun e w' => e = .returned (.tuple #[]) ∧ w.grownBy w' (some b) ∧ MapT w' b n (t.filter fun x => !isBelowB x.p q) := by
  obtain ⟨⟨es0, hown, hes⟩, hMo⟩ := hM
  obtain ⟨es', he, hap, hkeys⟩ := hown.entries keyed
  cases he
  have HES := Lib.hid hes
  have HMO := Lib.hid hMo
  have HAP := Lib.hid hap
  have HKS := Lib.hid hkeys
  clear hes hMo hap hkeys
  go_enter Tryz.func194, Tryz.ntmps194
  go_wp2_with (first
    | (at_range; refine wpList_range_own _ rfl _ 150 rfl 9 68 keyed Tryz.underlying150 readN b n _ rfl hown ?_; intro w0 hrg0 hg0 hs0)
    | go_in)
  go_frame
  go_loopw [] (fun wr => ∃ (left : Lit → Bool) (cnt : Nat), wr.ranges Tryz.prog 9 readN b w.heap.size n (Maps.Fk (belowK q) es0 left) left cnt ∧ w.grownBy wr (some b))
    (fun wr => wr.rangeLeft b w.heap.size)
  case atStart => exact ⟨_, _, by rw [Maps.Fk_start HKS.out]; exact hrg0, hg0.but _⟩
  case round =>
    obtain ⟨left, cnt, hrg, hgw⟩ := hrel
    go_wp2_with (first
      | (at_next; refine wpList_next_ranges _ rfl _ rfl 9 keyed readN Value.string R.nod (fun key kl hk => (by obtain ⟨s, rfl, _⟩ := WideMaps.string_of_keyOf Tryz.underlying9 hk; exact ⟨s, rfl⟩)) (fun v y hv => (by obtain ⟨r, _, rfl, _⟩ := readN_inv hv; exact ⟨r, rfl⟩)) b w.heap.size n _ _ _ rfl hrg ?_ ?_)
      | go_in)
    · intro _ hl0
      go_wp2
      go_end0
      exact ⟨rfl, hgw, MapT.sweep HES.out HMO.out (by rw [← Maps.Fk_end hl0]; exact hrg.owns)⟩
    · intro s c kl yd yp w1 cnt1 hkey hlx hv hat hrg1 hlt hg1 hs1 hen
      obtain ⟨s', es, rfl, hss⟩ := WideMaps.string_of_keyOf Tryz.underlying9 hkey
      cases es
      have hgw1 := hgw.andThen hg1 (fun j hj => by cases hj; exact Or.inl (Nat.le_refl _))
      have hc := isBelow_impl s q w1 hss hq
      have HAT := Lib.hid hat
      have HLX := Lib.hid hlx
      clear hat hlx
      unfold R.nod at hen
      cases hp : isBelowB s q <;> rw [hp] at hc
      · have hp' : Hid (belowK q (.string s.data.toList) yd = false) := hp
        clear hp
        go_wp2_with fail
        refine hc.mono ?_
        rintro e w2 ⟨rfl, hb2⟩
        have hg2 := below_grown hb2
        have hrg2 := hrg1.kept hg2 (by simp) (by simp)
        go_wp2_with fail
        go_roundw
        case rel => exact ⟨_, cnt1, by rw [← Maps.Fk_stays HAP.out (keyed.key hkey) HLX.out hp'.out HAT.out]; exact hrg2, hgw1.andThen hg2 (fun j hj => by cases hj)⟩
        case measure => rw [hrg2.left_eq, hrg.left_eq]; exact hlt
      · have hp' : Hid (belowK q (.string s.data.toList) yd = true) := hp
        clear hp
        go_wp2_with fail
        refine hc.mono ?_
        rintro e w2 ⟨rfl, hb2⟩
        have hg2 := below_grown hb2
        have hrg2 := hrg1.kept hg2 (by simp) (by simp)
        go_wp2_with (first
          | (at_delete; refine wpList_delete_ranges _ rfl _ _ 150 9 rfl 68 keyed Tryz.underlying150 readN b w.heap.size n _ _ _ rfl hrg2 _ _ rfl hkey ?_; intro w3 cnt3 hrg3 hle hturn; go_frame)
          | go_in)
        rw [Maps.strike_twice] at hrg3
        go_roundw
        case rel => exact ⟨_, cnt3, by rw [← Maps.Fk_struck HAP.out (keyed.key hkey) HLX.out hp'.out HAT.out]; exact hrg3, (hgw1.andThen hg2 (fun j hj => by cases hj)).andThen hturn.grown (fun j hj => by cases hj; exact Or.inr rfl)⟩
        case measure => rw [hrg3.left_eq, hrg.left_eq]; omega
end Go.Proofs.YtibekkfbpmloiabGreatDoor.Recs

/- The program's map of paths: a layer applied to it. -/
namespace Go.Proofs.YtibekkfbpmloiabGreatDoor.Recs
set_option maxRecDepth 100000
open Go.RowKit Paths

theorem MapT.nocell {w : World} {b n : Nat} {t : List R} (h : MapT w b n t) (off : Nat) : w.cell? ⟨b, off, none⟩ = none := by
  obtain ⟨⟨_, ⟨es, clock, hb, _⟩, _⟩, _⟩ := h
  simp [World.cell?, hb]
theorem cell_turned {w w' : World} {b n : Nat} {t : List R} (hg : w.grownBy w' (some b)) (hm : MapT w b n t) {g off : Nat} {u : Value} (h : w.cell? ⟨g, off, none⟩ = some u) : w'.cell? ⟨g, off, none⟩ = some u :=
  hg.cell h (fun e => by cases e; rw [hm.nocell] at h; cases h)
theorem RecSl.turned {w w' : World} {v : Value} {L : List R} {b n : Nat} {t : List R} (h : RecSl w v L) (hg : w.grownBy w' (some b)) (hm : MapT w b n t) : RecSl w' v L := by
  obtain ⟨A, cap, rfl, hc, h⟩ := h
  refine ⟨A, cap, rfl, hc, fun hn => ?_⟩
  obtain ⟨g, off, rfl, hlt, hcell⟩ := h hn
  refine ⟨g, off, rfl, Nat.lt_of_lt_of_le hlt hg.size, fun i r hi => ?_⟩
  obtain ⟨h0, h1, h2, h3, h4⟩ := hcell i r hi
  exact ⟨cell_turned hg hm h0, cell_turned hg hm h1, cell_turned hg hm h2, cell_turned hg hm h3, cell_turned hg hm h4⟩
theorem box_cells (w : World) (r : R) (t : TypeId) : RecCells (w.alloc (.cells #[.int .i64 r.k, .string r.p, .string r.b, .int .i64 r.m, .bool r.o] t)) w.heap.size 0 r := by
  have h := rec_cells_new w r t
  exact ⟨h 0 _ rfl, h 1 _ rfl, h 2 _ rfl, h 3 _ rfl, h 4 _ rfl⟩
theorem RecCells.turned {w w' : World} {g off b n : Nat} {r : R} {t : List R} (h : RecCells w g off r) (hg : w.grownBy w' (some b)) (hm : MapT w b n t) : RecCells w' g off r := by
  obtain ⟨h0, h1, h2, h3, h4⟩ := h
  exact ⟨cell_turned hg hm h0, cell_turned hg hm h1, cell_turned hg hm h2, cell_turned hg hm h3, cell_turned hg hm h4⟩
theorem RecCells.grown {w w' : World} {g off b : Nat} {r : R} (h : RecCells w g off r) (hg : w.grownBy w' (some b)) (hne : g ≠ b) : RecCells w' g off r := by
  obtain ⟨h0, h1, h2, h3, h4⟩ := h
  have hn : ∀ o : Nat, some (⟨g, o, none⟩ : Addr).block ≠ some b := fun o e => hne (by cases e; rfl)
  exact ⟨hg.cell h0 (hn _), hg.cell h1 (hn _), hg.cell h2 (hn _), hg.cell h3 (hn _), hg.cell h4 (hn _)⟩
theorem step_white {t : List R} {r : R} (h : r.k = 4) : stepR t r = (t.filter fun x => !isBelowB x.p r.p).filter fun x => decide (x.p ≠ r.p) := by
  have hs : stops r = true := by unfold stops; simp [h]
  unfold stepR sweepR
  rw [if_pos h, if_pos hs]
theorem step_stops {t : List R} {r : R} (h : r.k ≠ 4) (hs : stops r = true) : stepR t r = nodeOf r :: (t.filter fun x => !isBelowB x.p r.p).filter fun x => decide (x.p ≠ r.p) := by
  unfold stepR sweepR
  rw [if_neg h, if_pos hs]
theorem step_goes {t : List R} {r : R} (h : r.k ≠ 4) (hs : stops r = false) : stepR t r = nodeOf r :: t.filter fun x => decide (x.p ≠ r.p) := by
  unfold stepR sweepR
  rw [if_neg h, if_neg (by rw [hs]; decide)]

set_option maxHeartbeats 4000000 in
theorem mapApply_any (b n : Nat) (t : List R) (v : Value) (l : List R) (w : World) (hM : MapT w b n t) (h : RecSl w v l) (hl : n + l.length ≤ 100000) (hL : IsLayer l) (hT : IsTree t) :
    Calls Tryz.prog 144 #[.map (some b), v] w fun e w' => e = .returned (.tuple #[]) ∧ w.grownBy w' (some b) ∧ MapT w' b (n + l.length) (applyL l t) := by
  obtain ⟨sA, cap, rfl, hcap, hcells⟩ := h
  have H := Lib.hid hcells
  have HL := Lib.hid hL
  have HTR := Lib.hid hT
  have HM := Lib.hid hM
  clear hcells hL hT hM
  go_enter Tryz.func144, Tryz.ntmps144
  go_wp2
  go_loopw [8] (fun i wr => ∃ k : Nat, k ≤ l.length ∧ i = .int .i64 k ∧ w.grownBy wr (some b) ∧ Hid (MapT wr b (n + k) (applyL (l.take k) t))) (fun i _ => l.length - (intOf i).toNat)
  case atStart => exact ⟨0, by omega, rfl, ⟨rfl, rfl, rfl, Nat.le_refl _, fun _ _ _ => rfl⟩, HM.out⟩
  case round =>
    obtain ⟨k, hk, rfl, hgw, HK⟩ := hrel
    by_cases hlt : k < l.length
    · obtain ⟨g, off, rfl, hb, hcell⟩ := H.out (by omega)
      obtain ⟨c0, c1, c2, c3, c4⟩ := (hcell k l[k] (by simp [hlt])).turned hgw HM.out
      clear hcell
      have hi1 : (k : Int) < (l.length : Int) := by omega
      have hi0 : (0 : Int) ≤ (k : Int) := by omega
      have hpath := HL.out.path _ (List.getElem_mem hlt)
      have hsz : l[k].p.size ≤ maxLen := by
        have h35 : l[k].p.size ≤ 35 := by rw [Lib.size_eq]; exact pathB_len hpath
        unfold maxLen
        omega
      have HIT := Lib.hid (apply_tree (layer_take HL.out k) HTR.out)
      have HST : Hid (∀ x, x ∈ applyL (l.take (k + 1)) t ↔ x ∈ stepR (applyL (l.take k) t) l[k]) := fun x => by
        rw [apply_snoc l t hlt]
        exact (mem_step HIT.out hpath).symm
      have HPA := Lib.hid hpath
      clear hpath
      have hkey := WideMaps.keyOf_string_mk (P := Tryz.prog) Tryz.underlying9 hsz
      have hval := readN_nod l[k]
      have HNO := fun W => nodeOfRecord_any l[k] W
      unfold R.val R.nod at HNO
      unfold R.nod at hval
      have bc := box_cells wr l[k] 53
      have hM1 := HK.out.below ((Below.refl wr.heap.size wr).alloc (Nat.le_refl _) (.cells #[.int .i64 l[k].k, .string l[k].p, .string l[k].b, .int .i64 l[k].m, .bool l[k].o] 53))
      have hg1 : wr.grownBy (wr.alloc (.cells #[.int .i64 l[k].k, .string l[k].p, .string l[k].b, .int .i64 l[k].m, .bool l[k].o] 53)) none := World.grownBy_alloc _ _ _
      have hgw1 := hgw.andThen hg1 (fun j hj => by cases hj)
      have HSW := removeBelow_any b (n + k) _ l[k].p _ hM1 hsz
      generalize hrk : l[k] = r at *
      generalize hTT : applyL (l.take k) t = T at *
      have HM1 := Lib.hid hM1
      clear hM1 hrk hTT hg1
      have hbl := HK.out.lt
      obtain ⟨rk, rm, rp, rb, ro⟩ := r
      dsimp only at *
      by_cases h4 : rk = 4
      · have q3 : (rk != 3) = true := by simp [h4]
        have q4 : (rk == 4) = true := by simp [h4]
        have HQ : Hid (rk = 4) := h4
        clear h4
        go_wp2_with fail
        refine HSW.mono ?_
        rintro e w2 ⟨rfl, hg2, hM2⟩
        obtain ⟨d0, d1, d2, d3, d4⟩ := bc.turned hg2 HM1.out
        have hgw2 := hgw1.andThen hg2 (fun j hj => by cases hj; exact Or.inr rfl)
        clear bc
        obtain ⟨⟨es, hown, hes⟩, hMo⟩ := hM2
        have HES := Lib.hid hes
        have HMO := Lib.hid hMo
        clear hes hMo
        go_wp2_with (first
          | (at_delete; refine wpList_delete_own _ rfl _ _ 150 9 rfl 68 keyed Tryz.underlying150 readN b (n + k) _ rfl hown _ _ rfl hkey ?_; intro w3 hown3 hturn3; go_frame)
          | go_in)
        go_roundw
        case rel => exact ⟨k + 1, by omega, by go_num, hgw2.andThen hturn3.grown (fun j hj => by cases hj; exact Or.inr rfl), by
          show MapT w3 b (n + (k + 1)) _
          refine MapT.congr ?_ HST.out
          rw [step_white (r := ⟨rk, rm, rp, rb, ro⟩) HQ.out]
          exact (MapT.del HES.out HMO.out hown3).mono (by omega)⟩
        case measure => simp [intOf]; omega
      have q4 : (rk == 4) = false := by simp [h4]
      have HQ : Hid (rk ≠ 4) := h4
      clear h4
      by_cases h3 : rk = 3
      · have q3 : (rk != 3) = false := by simp [h3]
        cases ro with
        | true =>
          have HS : Hid (stops ⟨rk, rm, rp, rb, true⟩ = true) := (by show stops _ = true; unfold stops; simp)
          clear h3
          go_wp2_with fail
          refine HSW.mono ?_
          rintro e w2 ⟨rfl, hg2, hM2⟩
          obtain ⟨d0, d1, d2, d3, d4⟩ := bc.turned hg2 HM1.out
          have hgw2 := hgw1.andThen hg2 (fun j hj => by cases hj; exact Or.inr rfl)
          clear bc
          obtain ⟨⟨es, hown, hes⟩, hMo⟩ := hM2
          have HES := Lib.hid hes
          have HMO := Lib.hid hMo
          clear hes hMo
          have hrc : RecCells w2.drew wr.heap.size 0 ⟨rk, rm, rp, rb, true⟩ := ⟨d0, d1, d2, d3, d4⟩
          have hbx : wr.heap.size < w2.heap.size := World.block_lt_of_cell? w2 ⟨wr.heap.size, 0, none⟩ d0
          have hgd : w.grownBy w2.drew (some b) := ⟨hgw2.os, hgw2.tape, hgw2.output, hgw2.size, hgw2.block⟩
          go_wp2_with fail
          go_region_held3 (fun w' => w'.cell? ⟨wr.heap.size, 0, none⟩ = some (.int .i64 rk) ∧ w'.cell? ⟨wr.heap.size, 1, none⟩ = some (.string rp) ∧ w'.cell? ⟨wr.heap.size, 2, none⟩ = some (.string rb) ∧ w'.cell? ⟨wr.heap.size, 3, none⟩ = some (.int .i64 rm) ∧ w'.cell? ⟨wr.heap.size, 4, none⟩ = some (.bool true)) (first | exact ⟨d0, d1, d2, d3, d4⟩ | exact hS5 | exact hS4 | go_keep) (first
            | (go_at_call 115; refine (HNO _).mono ?_; rintro e w4 ⟨rfl, hb4⟩; obtain ⟨w5, hrun5, hown5, hgrow5⟩ := (hown.drew.kept (below_grown hb4) (by simp)).update keyed Tryz.underlying150 (by unfold maxLen; omega) hkey hval; have hS4 : RecCells w4 wr.heap.size 0 ⟨rk, rm, rp, rb, true⟩ := RecCells.below hrc hb4 hbx; have hS5 := hS4.grown hgrow5 (by omega)))
          have hg4 := hgd.andThen (below_grown hb4) (fun j hj => by cases hj)
          go_wp2_with fail
          go_roundw
          case rel => exact ⟨k + 1, by omega, by go_num, hg4.andThen hgrow5 (fun j hj => by cases hj; exact Or.inr rfl), by
            show MapT w5 b (n + (k + 1)) _
            refine MapT.congr ?_ HST.out
            rw [step_stops (r := ⟨rk, rm, rp, rb, true⟩) HQ.out HS.out]
            exact MapT.put (nodeOf ⟨rk, rm, rp, rb, true⟩) HES.out HMO.out rfl hown5⟩
          case measure => simp [intOf]; omega
        | false =>
          have HS : Hid (stops ⟨rk, rm, rp, rb, false⟩ = false) := (by show stops _ = false; unfold stops; simp [h3])
          clear h3
          obtain ⟨d0, d1, d2, d3, d4⟩ := bc
          have hM2 := HM1.out
          clear HM1 HSW
          go_wp2_with fail
          generalize wr.alloc _ = w2 at *
          obtain ⟨⟨es, hown, hes⟩, hMo⟩ := hM2
          have HES := Lib.hid hes
          have HMO := Lib.hid hMo
          clear hes hMo
          have hrc : RecCells w2.drew wr.heap.size 0 ⟨rk, rm, rp, rb, false⟩ := ⟨d0, d1, d2, d3, d4⟩
          have hbx : wr.heap.size < w2.heap.size := World.block_lt_of_cell? w2 ⟨wr.heap.size, 0, none⟩ d0
          have hgd : w.grownBy w2.drew (some b) := ⟨hgw1.os, hgw1.tape, hgw1.output, hgw1.size, hgw1.block⟩
          go_wp2_with fail
          go_region_held3 (fun w' => w'.cell? ⟨wr.heap.size, 0, none⟩ = some (.int .i64 rk) ∧ w'.cell? ⟨wr.heap.size, 1, none⟩ = some (.string rp) ∧ w'.cell? ⟨wr.heap.size, 2, none⟩ = some (.string rb) ∧ w'.cell? ⟨wr.heap.size, 3, none⟩ = some (.int .i64 rm) ∧ w'.cell? ⟨wr.heap.size, 4, none⟩ = some (.bool false)) (first | exact ⟨d0, d1, d2, d3, d4⟩ | exact hS5 | exact hS4 | go_keep) (first
            | (go_at_call 115; refine (HNO _).mono ?_; rintro e w4 ⟨rfl, hb4⟩; obtain ⟨w5, hrun5, hown5, hgrow5⟩ := (hown.drew.kept (below_grown hb4) (by simp)).update keyed Tryz.underlying150 (by unfold maxLen; omega) hkey hval; have hS4 : RecCells w4 wr.heap.size 0 ⟨rk, rm, rp, rb, false⟩ := RecCells.below hrc hb4 hbx; have hS5 := hS4.grown hgrow5 (by omega)))
          have hg4 := hgd.andThen (below_grown hb4) (fun j hj => by cases hj)
          go_wp2_with fail
          go_roundw
          case rel => exact ⟨k + 1, by omega, by go_num, hg4.andThen hgrow5 (fun j hj => by cases hj; exact Or.inr rfl), by
            show MapT w5 b (n + (k + 1)) _
            refine MapT.congr ?_ HST.out
            rw [step_goes (r := ⟨rk, rm, rp, rb, false⟩) HQ.out HS.out]
            exact MapT.put (nodeOf ⟨rk, rm, rp, rb, false⟩) HES.out HMO.out rfl hown5⟩
          case measure => simp [intOf]; omega
      · have q3 : (rk != 3) = true := by simp [h3]
        have HS : Hid (stops ⟨rk, rm, rp, rb, ro⟩ = true) := (by show stops _ = true; unfold stops; simp [h3])
        clear h3
        go_wp2_with fail
        refine HSW.mono ?_
        rintro e w2 ⟨rfl, hg2, hM2⟩
        obtain ⟨d0, d1, d2, d3, d4⟩ := bc.turned hg2 HM1.out
        have hgw2 := hgw1.andThen hg2 (fun j hj => by cases hj; exact Or.inr rfl)
        clear bc
        obtain ⟨⟨es, hown, hes⟩, hMo⟩ := hM2
        have HES := Lib.hid hes
        have HMO := Lib.hid hMo
        clear hes hMo
        have hrc : RecCells w2.drew wr.heap.size 0 ⟨rk, rm, rp, rb, ro⟩ := ⟨d0, d1, d2, d3, d4⟩
        have hbx : wr.heap.size < w2.heap.size := World.block_lt_of_cell? w2 ⟨wr.heap.size, 0, none⟩ d0
        have hgd : w.grownBy w2.drew (some b) := ⟨hgw2.os, hgw2.tape, hgw2.output, hgw2.size, hgw2.block⟩
        go_wp2_with fail
        go_region_held3 (fun w' => w'.cell? ⟨wr.heap.size, 0, none⟩ = some (.int .i64 rk) ∧ w'.cell? ⟨wr.heap.size, 1, none⟩ = some (.string rp) ∧ w'.cell? ⟨wr.heap.size, 2, none⟩ = some (.string rb) ∧ w'.cell? ⟨wr.heap.size, 3, none⟩ = some (.int .i64 rm) ∧ w'.cell? ⟨wr.heap.size, 4, none⟩ = some (.bool ro)) (first | exact ⟨d0, d1, d2, d3, d4⟩ | exact hS5 | exact hS4 | go_keep) (first
          | (go_at_call 115; refine (HNO _).mono ?_; rintro e w4 ⟨rfl, hb4⟩; obtain ⟨w5, hrun5, hown5, hgrow5⟩ := (hown.drew.kept (below_grown hb4) (by simp)).update keyed Tryz.underlying150 (by unfold maxLen; omega) hkey hval; have hS4 : RecCells w4 wr.heap.size 0 ⟨rk, rm, rp, rb, ro⟩ := RecCells.below hrc hb4 hbx; have hS5 := hS4.grown hgrow5 (by omega)))
        have hg4 := hgd.andThen (below_grown hb4) (fun j hj => by cases hj)
        go_wp2_with fail
        go_roundw
        case rel => exact ⟨k + 1, by omega, by go_num, hg4.andThen hgrow5 (fun j hj => by cases hj; exact Or.inr rfl), by
          show MapT w5 b (n + (k + 1)) _
          refine MapT.congr ?_ HST.out
          rw [step_stops (r := ⟨rk, rm, rp, rb, ro⟩) HQ.out HS.out]
          exact MapT.put (nodeOf ⟨rk, rm, rp, rb, ro⟩) HES.out HMO.out rfl hown5⟩
        case measure => simp [intOf]; omega
    · obtain rfl : k = l.length := by omega
      have HK' := HK.out
      rw [List.take_of_length_le (Nat.le_refl _)] at HK'
      have HK2 := Lib.hid HK'
      clear HK' HK
      go_wp2
      go_end0
      exact ⟨rfl, hgw, HK2.out⟩
end Go.Proofs.YtibekkfbpmloiabGreatDoor.Recs

/- Adding a node to a tree and removing one, plain: where it goes, and that a tree stays a tree. -/
namespace Go.Proofs.YtibekkfbpmloiabGreatDoor.Recs
open Go.RowKit Paths

theorem lessR_trans {x y z : R} (h : lessR x y = true) (k : lessR y z = true) : lessR x z = true := lessP_trans _ _ _ h k
theorem lessR_asymm {x y : R} (h : lessR x y = true) : lessR y x = false := lessP_asymm _ _ h
theorem lessR_path {x y n : R} (h : x.p = y.p) : lessR x n = lessR y n := by unfold lessR; rw [h]
theorem put_head {t : List R} (h : Sorted t) (n : R) : t.takeWhile (fun x => lessR x n) = t.filter (fun x => lessR x n) := by
  induction t with
  | nil => rfl
  | cons x t ih =>
    unfold Sorted at h ih
    rw [List.pairwise_cons] at h
    rcases Bool.eq_false_or_eq_true (lessR x n) with hx | hx
    · rw [List.takeWhile_cons_of_pos (p := fun x => lessR x n) hx, List.filter_cons_of_pos (p := fun x => lessR x n) hx, ih h.2]
    · rw [List.takeWhile_cons_of_neg (p := fun x => lessR x n) (by simp [hx]), List.filter_cons_of_neg (p := fun x => lessR x n) (by simp [hx])]
      symm
      rw [List.filter_eq_nil_iff]
      intro y hy hn
      rw [lessR_trans (h.1 y hy) hn] at hx
      cases hx
theorem put_tail {t : List R} (h : Sorted t) (n : R) : t.filter (fun x => lessR n x) = (if (t.dropWhile (fun x => lessR x n)).head?.any (fun x => decide (x.p = n.p)) then (t.dropWhile (fun x => lessR x n)).tail else t.dropWhile (fun x => lessR x n)) := by
  induction t with
  | nil => rfl
  | cons x t ih =>
    unfold Sorted at h ih
    rw [List.pairwise_cons] at h
    rcases Bool.eq_false_or_eq_true (lessR x n) with hx | hx
    · rw [List.dropWhile_cons_of_pos (p := fun x => lessR x n) hx, List.filter_cons_of_neg (p := fun x => lessR n x) (by simp [lessR_asymm hx]), ih h.2]
    · rw [List.dropWhile_cons_of_neg (p := fun x => lessR x n) (by simp [hx])]
      simp only [List.head?_cons, Option.any_some, decide_eq_true_eq, List.tail_cons]
      by_cases he : x.p = n.p
      · rw [if_pos he, List.filter_cons_of_neg (p := fun x => lessR n x) (by rw [← lessR_path he, lessR_irrefl]; decide)]
        rw [List.filter_eq_self]
        intro y hy
        rw [← lessR_path he]
        exact h.1 y hy
      · rw [if_neg he]
        have hn : lessR n x = true := by
          rcases less_or he with h1 | h1
          · rw [h1] at hx; cases hx
          · exact h1
        rw [List.filter_cons_of_pos (p := fun x => lessR n x) hn]
        congr 1
        rw [List.filter_eq_self]
        intro y hy
        exact lessR_trans hn (h.1 y hy)
/-- The place where a node goes: behind those that are less. -/
def placeOf (t : List R) (n : R) : Nat := (t.takeWhile (fun x => lessR x n)).length
theorem place_take (t : List R) (n : R) : t.take (placeOf t n) = t.takeWhile (fun x => lessR x n) := by
  unfold placeOf
  conv => lhs; rw [← List.takeWhile_append_dropWhile (p := fun x => lessR x n) (l := t)]
  rw [List.takeWhile_append_dropWhile]
  conv => lhs; arg 2; rw [← List.takeWhile_append_dropWhile (p := fun x => lessR x n) (l := t)]
  rw [List.take_left' rfl]
theorem place_drop (t : List R) (n : R) : t.drop (placeOf t n) = t.dropWhile (fun x => lessR x n) := by
  unfold placeOf
  conv => lhs; arg 2; rw [← List.takeWhile_append_dropWhile (p := fun x => lessR x n) (l := t)]
  rw [List.drop_left' rfl]
/-- As the model puts it. -/
theorem put_is {t : List R} (h : Sorted t) (n : R) :
    putL t n = t.take (placeOf t n) ++ n :: (if (t[placeOf t n]?).any (fun x => decide (x.p = n.p)) then t.drop (placeOf t n + 1) else t.drop (placeOf t n)) := by
  unfold putL
  rw [← put_head h, put_tail h, place_take, place_drop]
  have e1 : (t.dropWhile (fun x => lessR x n)).head? = t[placeOf t n]? := by rw [← place_drop, List.head?_drop]
  have e2 : (t.dropWhile (fun x => lessR x n)).tail = t.drop (placeOf t n + 1) := by rw [← place_drop, List.tail_drop]
  rw [e1, e2]
theorem place_less {t : List R} {n : R} {k : Nat} (hk : k < placeOf t n) : ∃ h : k < t.length, lessR t[k] n = true := by
  have hlen : placeOf t n ≤ t.length := by unfold placeOf; exact (List.takeWhile_prefix _).sublist.length_le
  refine ⟨by omega, ?_⟩
  have hm : t[k]'(by omega) ∈ t.takeWhile (fun x => lessR x n) := by
    rw [← place_take]
    exact List.mem_take_iff_getElem.2 ⟨k, by omega, rfl⟩
  have hall : (t.takeWhile (fun x => lessR x n)).all (fun x => lessR x n) = true := List.all_takeWhile
  exact List.all_eq_true.1 hall (t[k]'(by omega)) hm
theorem place_stop {t : List R} {n : R} (h : placeOf t n < t.length) : lessR t[placeOf t n] n = false := by
  have e : t[placeOf t n]? = (t.dropWhile (fun x => lessR x n)).head? := by rw [← place_drop, List.head?_drop]
  rw [List.getElem?_eq_getElem h] at e
  have := List.head?_dropWhile_not (p := fun x => lessR x n) t
  rw [← e] at this
  simpa using this

end Go.Proofs.YtibekkfbpmloiabGreatDoor.Recs
