/- Parts of several texts of mine in one file (each begins with its own remark). -/
import Derived.Test.YtcnjiphoahoojaaGreatDoorCA1
import Derived.Test.YtcnjiphoahoojaaGreatDoorCA10
import Derived.Test.YtcnjiphoahoojaaGreatDoorCA11
import Derived.Test.YtcnjiphoahoojaaGreatDoorCA12
import Derived.Test.YtcnjiphoahoojaaGreatDoorCA13
import Derived.Test.YtcnjiphoahoojaaGreatDoorCA14
import Derived.Test.YtcnjiphoahoojaaGreatDoorCA15
import Derived.Test.YtcnjiphoahoojaaGreatDoorCA16
import Derived.Test.YtcnjiphoahoojaaGreatDoorCA18
import Derived.Test.YtcnjiphoahoojaaGreatDoorCA19
import Derived.Test.YtcnjiphoahoojaaGreatDoorCA2
import Derived.Test.YtcnjiphoahoojaaGreatDoorCA20
import Derived.Test.YtcnjiphoahoojaaGreatDoorCA21
import Derived.Test.YtcnjiphoahoojaaGreatDoorCA22
import Derived.Test.YtcnjiphoahoojaaGreatDoorCA3
import Derived.Test.YtcnjiphoahoojaaGreatDoorCA4
import Derived.Test.YtcnjiphoahoojaaGreatDoorCA5
import Derived.Test.YtcnjiphoahoojaaGreatDoorCA6
import Derived.Test.YtcnjiphoahoojaaGreatDoorCA7
import Derived.Test.YtcnjiphoahoojaaGreatDoorCA8
import Derived.Test.YtcnjiphoahoojaaGreatDoorCA9
import Derived.Test.YtcnjiphoahoojaaGreatDoorChecked
import Derived.Test.YtcnjiphoahoojaaGreatDoorShelf
import Derived.Test.YtcnjiphoahoojaaGreatDoorProg
import Derived.Test.YtcnjiphoahoojaaGreatDoorRows
import Derived.Deep.AppendLies
import Derived.Laws.IdiomCopy
import Derived.BigRegion
import Derived.StillTailTactics
import Derived.Deep.Slices
import Derived.OpenShut
import Derived.ShutString
import Derived.ChangeArms
import Derived.WideShapes
import Derived.Lib.LaidTab
import Derived.BigQuiet
import Derived.Deep.QuietTactic
import Derived.Deep.RegionHeld3
import Derived.Deep.Draws
import Derived.Deep.LoopGhost
import Derived.WalkKit
import Derived.WalkSpells
import Derived.WalkSmall
import Derived.Lib.OthersKept
import Derived.Lib.Hide
import Derived.Lib.Strings
import Derived.Lib.Join
import Derived.Laws.OwnMore
import Derived.Laws.BytesArg
import Derived.Stop.LaidErr
import Derived.WalkLawsBesides
import Derived.LaidEql
import Derived.Stop.Asserts
import Derived.Below
import Derived.Stop.LaidTwo
import Derived.ChangeVars
import Derived.Deep.DeepHandedRow
import Derived.Deep.RegionWith
import Derived.OneCell
import Derived.Lib.SliceRun
import Derived.Lib.Overlaps
import Derived.Lib.AppendZerosOnto
import Derived.Laws.NewBlocks
import Derived.Deep.RegionLaw
import Derived.RangeFuncNested
import Derived.RangeFuncBound
import Derived.RangeFuncCalls
import Derived.RangeFuncLeaves
import Derived.RangeFuncBox
import Derived.Shelf.Abstract
import Derived.Shelf.RegionOpen
import Derived.OwnWalkIn
import Derived.TacticsInMore
import Derived.LoopNIn
import Derived.LoopIn
/- The winners of all paths, of the program. Conditions: none but a valid stack. -/
namespace Go.Proofs.YtcnjiphoahoojaaGreatDoor.Recs
set_option maxRecDepth 100000
open Go.RowKit Paths Errs

def winsOf (LL : List (List R)) (P : List ByteArray) : List (R × Nat) := (P.map (winC LL)).filter fun p => decide (0 < p.2)
theorem wins_of (LL : List (List R)) : wins LL = winsOf LL (pathsL LL) := rfl
theorem wins_step {LL : List (List R)} {P : List ByteArray} {k : Nat} (hk : k < P.length) : winsOf LL (P.take (k + 1)) = if 0 < (winC LL P[k]).2 then winsOf LL (P.take k) ++ [winC LL P[k]] else winsOf LL (P.take k) := by
  unfold winsOf
  rw [List.take_add_one, List.getElem?_eq_getElem hk, Option.toList_some, List.map_append, List.filter_append]
  split
  · rename_i h
    rw [List.map_singleton, List.filter_cons_of_pos (by simpa using h)]
    rfl
  · rename_i h
    rw [List.map_singleton, List.filter_cons_of_neg (by simpa using h)]
    simp
theorem winsOf_len (LL : List (List R)) (P : List ByteArray) : (winsOf LL P).length ≤ P.length := by
  unfold winsOf
  have := List.length_filter_le (fun p : R × Nat => decide (0 < p.2)) (P.map (winC LL))
  rw [List.length_map] at this
  exact this

set_option maxHeartbeats 3200000 in
theorem winnersOf_any (v : Value) (LL : List (List R)) (w : World) (h : StkSl w v LL) (hl : LL.length ≤ 5) (hok : ∀ l ∈ LL, layerOK l = true) :
    Calls Tryz.prog 32 #[v] w fun e w' => ∃ x, e = .returned x ∧ Below w.heap.size w w' ∧ RowP w' w.heap.size x (wins LL).length (wins LL) := by
  obtain ⟨i0, hi, hI0, hI1, hI2⟩ := info_parts placedInfo
  have hfine : ∀ l ∈ LL, Fine l := fun l hm => fine_layer (hok l hm)
  have hP80 := pathsL_len (LL := LL) (fun l hm => layer_len (hok l hm)) hl
  have HGH : Hid (∀ q ∈ pathsL LL, ∃ a t, grp LL q = a :: t ∧ a.1.p = q) := fun q hq => grp_head hok hq
  have HGO := groupsOf_any v LL w h hl hok
  have HCD : Hid (∀ q ∈ pathsL LL, ∀ W, Below w.heap.size w W → Calls Tryz.prog 55 #[v, .string q] W fun e w'' => e = .returned (.int .i64 (cutD LL q)) ∧ Below W.heap.size W w'') := fun q hq W hW => by
    have hp := path_of_path hfine hq
    exact cutDepth_any v LL q W (h.below hW) (by omega) hok hp (path_max hp) (fun l hm r hr => path_max (fault_path (layer_rec (hok l hm) hr)).1)
  have HWN : Hid (∀ q u W, PSl W u (grp LL q) → Calls Tryz.prog 54 #[u, .int .i64 (cutD LL q : Int)] W fun e w'' => e = .returned (pv (winC LL q)) ∧ Below W.heap.size W w'') := fun q u W hu => by
    rw [← overP_win]
    exact winnerOf_any u (grp LL q) (cutD LL q) W hu (by have := grp_len LL q; omega)
  obtain ⟨vA, vcap, rfl⟩ := h.form
  clear hfine
  go_enter Tryz.func32, Tryz.ntmps32
  go_wp2_with fail
  refine HGO.mono ?_
  rintro e w2 ⟨gv, us, rfl, hb2, hg2⟩
  obtain ⟨gA, gcap, rfl⟩ := own_form hg2.own
  have hgl : Hid (((pathsL LL).map (grp LL)).length = (pathsL LL).length) := List.length_map _
  have hul : us.length = (pathsL LL).length := hg2.len.trans hgl.out
  have HG2 := Lib.hid hg2
  clear HGO hg2
  rw [hgl.out]
  go_wp2_with fail
  go_loopw [3, 10] (fun f i wr => ∃ (k : Nat) (M : List (R × Nat)), k ≤ (pathsL LL).length ∧ i = .int .i64 k ∧ Hid (M = winsOf LL ((pathsL LL).take k)) ∧ RowP wr w2.heap.size f M.length M ∧ Below w2.heap.size w2 wr) (fun _ i _ => (pathsL LL).length - (intOf i).toNat)
  case atStart => exact ⟨0, [], by omega, rfl, rfl, RowG.nil, Below.refl _ _⟩
  case round =>
    obtain ⟨k, M, hk, rfl, HM, hrow, hbw⟩ := hrel
    obtain ⟨fA, fcap, rfl⟩ := hrow.form
    have hbv := hb2.trans (hbw.mono hb2.size)
    by_cases hlt : k < (pathsL LL).length
    · have hq := List.getElem_mem hlt
      obtain ⟨a, t, hg, hap⟩ := HGH.out _ hq
      have hgk : ((pathsL LL).map (grp LL))[k]? = some (a :: t) := by rw [List.getElem?_map, List.getElem?_eq_getElem hlt, Option.map_some, hg]
      have huk : us[k]? = some (us[k]'(by omega)) := List.getElem?_eq_getElem _
      have HG := HG2.out.below hbw
      have hru := HG.rows k _ (a :: t) huk hgk
      have HPS : Hid (PSl wr (us[k]'(by omega)) (grp LL (pathsL LL)[k])) := by show PSl _ _ _; rw [hg]; exact RowP.sl hru
      obtain ⟨gu, c, hue, _, hgu, _, _⟩ := RowG.atom hru (by simp)
      have hown0 := HG.own
      rw [hgl.out] at hown0
      obtain ⟨go, cap, hve, hgo⟩ : ∃ go cap, (Value.slice gA (pathsL LL).length gcap) = .slice (some ⟨go, 0, none⟩) (pathsL LL).length cap ∧ go < wr.heap.size := by
        rcases hown0.2 with ⟨_, h0⟩ | ⟨g, cap, cur, e, _, h2, _⟩
        · omega
        · exact ⟨g, cap, e, (Array.getElem?_eq_some_iff.1 h2).1⟩
      have hcu : wr.cell? ⟨go, k, none⟩ = some (us[k]'(by omega)) := by
        rw [hve] at hown0
        have := hown0.cellAt k (by omega)
        rw [huk] at this
        exact this
      rw [hue] at hru hcu HPS
      have hca := RowG.cell csP_len hru (i := 0) (c := 1) (by simp) (by omega)
      simp only [csP, List.getElem?_cons_zero, List.getElem?_cons_succ, List.getElem_cons_zero, Nat.zero_mul, Nat.zero_add] at hca
      rw [hap] at hca
      cases hve
      have hi1 : (k : Int) < ((pathsL LL).length : Int) := by omega
      have hi0 : (0 : Int) ≤ (k : Int) := by omega
      have HCDk := HCD.out _ hq wr hbv
      have HST := Lib.hid (wins_step (LL := LL) hlt)
      have HW := HWN.out (pathsL LL)[k]
      have hMl : M.length ≤ 80 := by
        rw [HM.out]
        have := winsOf_len LL ((pathsL LL).take k)
        rw [List.length_take] at this
        omega
      unfold pv at HW
      generalize hQ : (pathsL LL)[k] = q at *
      generalize hP : winC LL q = P at *
      have HPQ := Lib.hid hP
      clear hru hown0 huk hgk hg hap hQ hP hq
      go_wp2_with fail
      refine HCDk.mono ?_
      rintro e w3 ⟨rfl, hb3⟩
      have c3 := hbw.trans (hb3.mono hbw.size)
      go_wp2_with fail
      refine (HW _ _ (HPS.out.below hb3)).mono ?_
      rintro e w4 ⟨rfl, hb4⟩
      have c4 := c3.trans (hb4.mono c3.size)
      have hr4 := (RowG.below (hrow.below hb3) hb4)
      have cA := c4.alloc c4.size (.cells #[.int .i64 P.1.k, .string P.1.p, .string P.1.b, .int .i64 P.1.m, .bool P.1.o, .int .i64 (P.2 : Int)] 62)
      have hrA := hr4.2.alloc (.cells #[.int .i64 P.1.k, .string P.1.p, .string P.1.b, .int .i64 P.1.m, .bool P.1.o, .int .i64 (P.2 : Int)] 62)
      by_cases hpos : 0 < P.2
      · have HN : Hid (M ++ [P] = winsOf LL ((pathsL LL).take (k + 1))) := by show _ = _; rw [HST.out, if_pos hpos, ← HM.out]
        have hd : decide ((0 : Int) < (P.2 : Int)) = true := decide_eq_true (by omega)
        have hd' : decide (0 < P.2) = true := decide_eq_true hpos
        have HNW : Hid (∀ j u, (csP P)[j]? = some u → ((w4.alloc (.cells #[.int .i64 P.1.k, .string P.1.p, .string P.1.b, .int .i64 P.1.m, .bool P.1.o, .int .i64 (P.2 : Int)] 62)).alloc (.cells #[.int .i64 P.1.k, .string P.1.p, .string P.1.b, .int .i64 P.1.m, .bool P.1.o, .int .i64 (P.2 : Int)] 62)).cell? ((⟨w4.heap.size + 1, 0, none⟩ : Addr).add j) = some u) := by
          have h := csP_new (w4.alloc (.cells #[.int .i64 P.1.k, .string P.1.p, .string P.1.b, .int .i64 P.1.m, .bool P.1.o, .int .i64 (P.2 : Int)] 62)) P 62
          rw [World.size_alloc] at h
          exact h
        have HZ : Hid (w2.heap.size ≤ (w4.alloc (.cells #[.int .i64 P.1.k, .string P.1.p, .string P.1.b, .int .i64 P.1.m, .bool P.1.o, .int .i64 (P.2 : Int)] 62)).heap.size) := cA.size
        have HBX : Hid (Pbox (w4.alloc (.cells #[.int .i64 P.1.k, .string P.1.p, .string P.1.b, .int .i64 P.1.m, .bool P.1.o, .int .i64 (P.2 : Int)] 62)) w4.heap.size P) := alloc_here _ _
        clear HST HCDk HW
        go_wp2_with (first
          | (at_builtin; refine wpList_append_own _ rfl _ _ 57 rfl w2.heap.size 62 i0 (.agg #[.int .i64 0, .string ByteArray.empty, .string ByteArray.empty, .int .i64 0, .bool false, .int .i64 0]) 6 64 Tryz.underlying57 hi hI0 hI1 hI2 rfl (by decide) _ _ _ rfl (hrA.alloc _) ⟨w4.heap.size + 1, 0, none⟩ 1 1 (csP P) rfl rfl HNW.out (csP_one _) (by unfold maxLen; omega) (by omega) (by have := c4.size; simp; omega) ?_; intro v' w9 hown' hgrow9 hnil9))
        exact ⟨⟨k + 1, _, by omega, by go_num, HN, rowP_snoc hown', (cA.alloc cA.size _).grown hgrow9 (cA.alloc cA.size _).size (fun j hj => (hrA.lt j hj).1)⟩, by simp [intOf]; omega⟩
      · have HN : Hid (M = winsOf LL ((pathsL LL).take (k + 1))) := by show _ = _; rw [HST.out, if_neg hpos, ← HM.out]
        have hd : decide ((0 : Int) < (P.2 : Int)) = false := decide_eq_false (by omega)
        have hd' : decide (0 < P.2) = false := decide_eq_false hpos
        clear HST HCDk HW
        go_wp2_with fail
        exact ⟨⟨k + 1, M, by omega, by go_num, HN, ⟨rfl, hrA⟩, cA⟩, by simp [intOf]; omega⟩
    · have HF : Hid (M = wins LL) := by show _ = _; rw [wins_of, HM.out, List.take_of_length_le (by omega)]
      go_wp2
      go_ret
      exact ⟨_, rfl, hbv, by rw [← HF.out]; exact hrow.down hb2.size⟩
end Go.Proofs.YtcnjiphoahoojaaGreatDoor.Recs

/- MergeTrace, MergeMany of the program. Conditions: the table of kinds, the two sentinels. -/
namespace Go.Proofs.YtcnjiphoahoojaaGreatDoor.Recs
set_option maxRecDepth 100000
open Go.RowKit Paths Errs

/-- A path and the number of a layer. -/
def csK (p : ByteArray × Int) : List Value := [.string p.1, .int .i64 p.2]
theorem csK_one (p : ByteArray × Int) : ∀ u ∈ csK p, u.oneCell' = true := by
  intro u hu
  simp only [csK, List.mem_cons, List.not_mem_nil, or_false] at hu
  rcases hu with rfl | rfl <;> rfl
theorem csK_new (w : World) (p : ByteArray × Int) (t : TypeId) (j : Nat) (u : Value) (h : (csK p)[j]? = some u) : (w.alloc (.cells #[.string p.1, .int .i64 p.2] t)).cell? ((⟨w.heap.size, 0, none⟩ : Addr).add j) = some u := by
  rw [Addr.add_lit]
  match j, h with
  | 0, h => cases h; go_simp
  | 1, h => cases h; go_simp
  | j + 2, h => simp [csK] at h
abbrev RowK (w : World) (base : Nat) (v : Value) (n : Nat) (G : List (ByteArray × Int)) : Prop := RowG csK 2 64 w base v n G
theorem pickInfo : (Tryz.prog.info? 64).map (fun i => (i.zero, i.size, i.bytes)) = some (some (.agg #[.string ByteArray.empty, .int .i64 0]), 2, 24) := by kernel_rfl

def picksL (W : List (R × Nat)) : List (ByteArray × Int) := W.map fun p => (p.1.p, (p.2 : Int))
theorem wins_80 {LL : List (List R)} (h : stackOK LL = true) : (wins LL).length ≤ 80 := by
  have hst := stack_of h
  have := pathsL_len (LL := LL) (fun l hm => layer_len (hst.2 l hm)) hst.1
  have := wins_len LL
  omega
/-- One of the program's winners, in its row. -/
theorem win_cells {wr : World} {b : Nat} {gA : Option Addr} {gcap : Nat} {W : List (R × Nat)} {k : Nat} (h : RowP wr b (.slice gA W.length gcap) W.length W) (hk : k < W.length) : ∃ g cap, Value.slice gA W.length gcap = .slice (some ⟨g, 0, none⟩) W.length cap ∧ PCells wr g (k * 6) W[k] := by
  obtain ⟨g, cap, e, _, hg, _, _⟩ := RowG.atom h (by omega)
  refine ⟨g, cap, e, ?_⟩
  rw [e] at h
  have one : ∀ c, c < 6 → wr.cell? ⟨g, k * 6 + c, none⟩ = (csP W[k])[c]? := fun c hc => RowG.cell csP_len h hk hc
  exact ⟨⟨one 0 (by omega), one 1 (by omega), one 2 (by omega), one 3 (by omega), one 4 (by omega)⟩, one 5 (by omega)⟩

/-- What MergeMany answers. -/
def mmL (LL : List (List R)) : List R := canonL (winL LL)
end Go.Proofs.YtcnjiphoahoojaaGreatDoor.Recs

/- Paths in their order: a path put in from the back (plain: for the model's list of paths). -/
namespace Go.Proofs.YtcnjiphoahoojaaGreatDoor.Recs
set_option maxRecDepth 100000
open Paths

/-- Behind the place all are above q; the one ahead of the place is not: it is q, or q goes in here. -/
theorem ins_back {P : List ByteArray} {q : ByteArray} {n : Nat} (hP : Ups P) (hn : n ≤ P.length) (h1 : ∀ j (hj : j < P.length), n ≤ j → lessQ q P[j] = true) (h2 : ∀ (hp : n - 1 < P.length), 0 < n → lessQ q P[n - 1] = false) :
    insP q P = if 0 < n ∧ P[n - 1]? = some q then P else P.take n ++ [q] ++ P.drop n := by
  have hup := insP_ups q P hP
  have hall := List.pairwise_iff_getElem.1 hP
  split
  · rename_i h
    refine ups_ext hup hP fun x => ?_
    rw [insP_mem]
    exact ⟨fun e => e.elim (fun e => e ▸ List.mem_of_getElem? h.2) id, .inr⟩
  · rename_i h
    have hlow : ∀ j (hj : j < P.length), j < n → lessQ P[j] q = true := by
      intro j hj hjn
      have hp : n - 1 < P.length := by omega
      have hne : P[n - 1] ≠ q := fun e => h ⟨by omega, by rw [List.getElem?_eq_getElem hp, e]⟩
      have hl : lessQ P[n - 1] q = true := (lessQ_total hne).resolve_right (by rw [h2 hp (by omega)]; decide)
      by_cases e : j = n - 1
      · subst e; exact hl
      · exact lessQ_trans _ _ _ (hall j (n - 1) hj hp (by omega)) hl
    have hu2 : Ups (P.take n ++ [q] ++ P.drop n) := by
      unfold Ups
      rw [List.append_assoc, List.pairwise_append]
      refine ⟨hP.sublist (List.take_sublist ..), ?_, ?_⟩
      · show (q :: P.drop n).Pairwise _
        refine List.pairwise_cons.2 ⟨fun b hb => ?_, hP.sublist (List.drop_sublist ..)⟩
        obtain ⟨j, hj, rfl⟩ := List.getElem_of_mem hb
        rw [List.getElem_drop]
        exact h1 _ _ (by omega)
      · intro a ha b hb
        obtain ⟨i, hi, rfl⟩ := List.getElem_of_mem ha
        rw [List.length_take] at hi
        rw [List.getElem_take]
        have ha' := hlow i (by omega) (by omega)
        rcases List.mem_cons.1 hb with rfl | hb
        · exact ha'
        · have hb' : b ∈ P.drop n := hb
          obtain ⟨j, hj, rfl⟩ := List.getElem_of_mem hb'
          rw [List.getElem_drop]
          exact lessQ_trans _ _ _ ha' (h1 _ _ (by omega))
    refine ups_ext hup hu2 fun x => ?_
    rw [insP_mem, List.append_assoc, List.mem_append, List.singleton_append, List.mem_cons]
    have := List.mem_append (a := x) (s := P.take n) (t := P.drop n)
    rw [List.take_append_drop] at this
    rw [this]
    exact ⟨fun e => e.elim (fun e => .inr (.inl e)) (fun e => e.elim .inl (fun e => .inr (.inr e))), fun e => e.elim (fun e => .inr (.inl e)) (fun e => e.elim .inl (fun e => .inr (.inr e)))⟩
/-- The paths of the first k lists and of the first j records of the next. -/
def pathsTo (LL : List (List R)) (k j : Nat) : List ByteArray := ((LL.take k).flatten ++ ((LL[k]?).getD []).take j).foldl (fun P r => insP r.p P) []
theorem to_next {LL : List (List R)} {k : Nat} (hk : k < LL.length) : pathsTo LL (k + 1) 0 = pathsTo LL k (LL[k].length) := by
  unfold pathsTo
  rw [List.take_zero, List.append_nil, List.take_add_one, List.getElem?_eq_getElem hk, Option.toList_some, List.flatten_append, List.flatten_singleton, Option.getD_some, List.take_length]
theorem to_end (LL : List (List R)) : pathsTo LL LL.length 0 = pathsL LL := by
  unfold pathsTo pathsL
  rw [List.take_zero, List.append_nil, List.take_length]
theorem to_step {LL : List (List R)} {k j : Nat} (hk : k < LL.length) (hj : j < LL[k].length) : pathsTo LL k (j + 1) = insP LL[k][j].p (pathsTo LL k j) := by
  unfold pathsTo
  rw [List.getElem?_eq_getElem hk, Option.getD_some, List.take_add_one, List.getElem?_eq_getElem hj, Option.toList_some, ← List.append_assoc, List.foldl_append]
  rfl
theorem to_ups (LL : List (List R)) (k j : Nat) : Ups (pathsTo LL k j) := (fold_ins _ [] List.Pairwise.nil).1
end Go.Proofs.YtcnjiphoahoojaaGreatDoor.Recs
