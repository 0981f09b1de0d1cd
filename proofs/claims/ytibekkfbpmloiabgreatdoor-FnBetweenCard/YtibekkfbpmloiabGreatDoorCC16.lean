/- Parts of several texts of mine in one file (each begins with its own remark). -/
import Derived.Test.YtibekkfbpmloiabGreatDoorCA1
import Derived.Test.YtibekkfbpmloiabGreatDoorCA10
import Derived.Test.YtibekkfbpmloiabGreatDoorCA11
import Derived.Test.YtibekkfbpmloiabGreatDoorCA14
import Derived.Test.YtibekkfbpmloiabGreatDoorCA15
import Derived.Test.YtibekkfbpmloiabGreatDoorCA16
import Derived.Test.YtibekkfbpmloiabGreatDoorCA17
import Derived.Test.YtibekkfbpmloiabGreatDoorCA18
import Derived.Test.YtibekkfbpmloiabGreatDoorCA2
import Derived.Test.YtibekkfbpmloiabGreatDoorCA20
import Derived.Test.YtibekkfbpmloiabGreatDoorCA21
import Derived.Test.YtibekkfbpmloiabGreatDoorCA22
import Derived.Test.YtibekkfbpmloiabGreatDoorCA3
import Derived.Test.YtibekkfbpmloiabGreatDoorCA4
import Derived.Test.YtibekkfbpmloiabGreatDoorCA5
import Derived.Test.YtibekkfbpmloiabGreatDoorCA6
import Derived.Test.YtibekkfbpmloiabGreatDoorCA7
import Derived.Test.YtibekkfbpmloiabGreatDoorCA8
import Derived.Test.YtibekkfbpmloiabGreatDoorCA9
import Derived.Test.YtibekkfbpmloiabGreatDoorCC10
import Derived.Test.YtibekkfbpmloiabGreatDoorCC11
import Derived.Test.YtibekkfbpmloiabGreatDoorCC12
import Derived.Test.YtibekkfbpmloiabGreatDoorCC13
import Derived.Test.YtibekkfbpmloiabGreatDoorCC14
import Derived.Test.YtibekkfbpmloiabGreatDoorCC15
import Derived.Test.YtibekkfbpmloiabGreatDoorCC2
import Derived.Test.YtibekkfbpmloiabGreatDoorCC5
import Derived.Test.YtibekkfbpmloiabGreatDoorCC9
import Derived.Test.YtibekkfbpmloiabGreatDoorChecked
import Derived.Test.YtibekkfbpmloiabGreatDoorShelf
import Derived.Test.YtibekkfbpmloiabGreatDoorProg
import Derived.Test.YtibekkfbpmloiabGreatDoorRows
import Derived.Deep.AppendLies
import Derived.Laws.IdiomCopy
import Derived.BigRegion
import Derived.StillTailTactics
import Derived.Deep.Slices
import Derived.OpenShut
import Derived.ShutString
import Derived.ChangeArms
import Derived.WideShapes
import Derived.Lib.LaidTab
import Derived.BigQuiet
import Derived.Deep.QuietTactic
import Derived.Deep.RegionHeld3
import Derived.Deep.Draws
import Derived.Deep.LoopGhost
import Derived.WalkKit
import Derived.WalkSpells
import Derived.WalkSmall
import Derived.Lib.OthersKept
import Derived.Lib.Hide
import Derived.Lib.Strings
import Derived.Lib.Join
import Derived.Laws.OwnMore
import Derived.Laws.BytesArg
import Derived.Stop.LaidErr
import Derived.WalkLawsBesides
import Derived.LaidEql
import Derived.Stop.Asserts
import Derived.Below
import Derived.Stop.LaidTwo
import Derived.ChangeVars
import Derived.Deep.DeepHandedRow
import Derived.Deep.RegionWith
import Derived.OneCell
import Derived.Lib.SliceRun
import Derived.Lib.Overlaps
import Derived.Lib.AppendZerosOnto
import Derived.Laws.NewBlocks
import Derived.Deep.RegionLaw
import Derived.RangeFuncNested
import Derived.RangeFuncBound
import Derived.RangeFuncCalls
import Derived.RangeFuncLeaves
import Derived.RangeFuncBox
import Derived.Shelf.Abstract
import Derived.Shelf.RegionOpen
import Derived.OwnWalkIn
import Derived.TacticsInMore
import Derived.LoopNIn
import Derived.LoopIn
import Derived.Deep.Cut
import Derived.Deep.CutRange
import Derived.Deep.CutBlock
import Derived.Maps.OwnIn
import Derived.Laws.AppendOwnNone
import Derived.RegionTactic
import Derived.Laws.IdiomRangeMap
import Derived.Maps.RangeWalk
import Derived.Maps.Ext
import Derived.Lib.SlMapFilter
import Derived.Laws.EntriesVeiled
/- The groups of records of all paths, of the program: all layers passed through at once. -/
namespace Go.Proofs.YtibekkfbpmloiabGreatDoor.Recs
set_option maxRecDepth 100000
open Go.RowKit Paths Heap

theorem Abox.facts {w : World} {B n : Nat} {u : Value} (h : Abox w B n u) : w.cell? ⟨B, 0, none⟩ = some (.int .i64 (n : Int)) ∧ w.cell? ⟨B, 1, none⟩ = some u ∧ w.frozen? ⟨B, 0, none⟩ = false ∧ w.frozen? ⟨B, 1, none⟩ = false := by
  refine ⟨?_, ?_, ?_, ?_⟩ <;> simp [World.cell?, World.frozen?, show w.heap[B]? = _ from h]
end Go.Proofs.YtibekkfbpmloiabGreatDoor.Recs

/- PathsOf, of the program. Conditions: the table of kinds, the two sentinels. -/
namespace Go.Proofs.YtibekkfbpmloiabGreatDoor.Recs
set_option maxRecDepth 100000
open Go.RowKit Paths Errs

theorem row_apart {w : World} {b b' : Nat} {T T' : TypeId} {k k' : Nat} {u v : Value} {n m : Nat} {xs ys : List Value} (hT : T ≠ T') (h : w.ownsRow b T k u n xs) (hk : w.ownsRow b' T' k' v m ys) : u.ownBlock = none ∨ u.ownBlock ≠ v.ownBlock := by
  rcases hk.2 with ⟨rfl, _⟩ | ⟨g, cap, cur, rfl, _, hg, _⟩
  · cases hu : u.ownBlock with
    | none => exact .inl rfl
    | some c => exact .inr (fun e => by cases e)
  · exact .inr (own_not h hT hg)
end Go.Proofs.YtibekkfbpmloiabGreatDoor.Recs

/- The layer between two trees, of the model: what it gathers. -/
namespace Go.Proofs.YtibekkfbpmloiabGreatDoor.Recs
set_option maxRecDepth 100000
open Go.RowKit Paths
attribute [local go_sem] Oper.semAt_some

/-- The way up from a path. -/
def upw (P : ByteArray) : List ByteArray := if P.size = 0 then [] else P :: ups P
theorem upw_zero {P : ByteArray} (h : P.size = 0) : upw P = [] := if_pos h
theorem upw_path {q : ByteArray} (h : pathB q.data.toList = true) : upw q = q :: upw (parO q) := by
  unfold upw
  rw [if_neg (path_pos h), ups_step h]
  by_cases hp : parentL q.data.toList = []
  · rw [if_pos hp, if_pos (parO_size hp)]
  · rw [if_neg hp, if_neg (path_pos (parts_parent h hp).1)]
theorem upB_upw {B L : List R} {q : ByteArray} (h : pathB q.data.toList = true) : upB B L q = (upw q).foldl (addB B) L := by
  unfold upB upw
  rw [if_neg (path_pos h)]
theorem addF_len (B : List R) : ∀ (ds : List ByteArray) (L : List R), L.length ≤ (ds.foldl (addB B) L).length ∧ (ds.foldl (addB B) L).length ≤ L.length + ds.length
  | [], L => ⟨Nat.le_refl _, Nat.le_refl _⟩
  | d :: ds, L => by
    obtain ⟨h1, h2⟩ := addF_len B ds (addB B L d)
    have h3 : L.length ≤ (addB B L d).length ∧ (addB B L d).length ≤ L.length + 1 := by
      unfold addB
      split
      · omega
      · rw [List.length_append, List.length_singleton]; omega
    rw [List.foldl_cons, List.length_cons]
    omega
theorem upB_len {B L : List R} {q : ByteArray} (h : pathB q.data.toList = true) : (upB B L q).length ≤ L.length + 4 := by
  have h1 := (addF_len B (q :: ups q) L).2
  have h2 := ups_3 h
  rw [List.length_cons] at h1
  unfold upB
  omega
/-- What the model gathers of the first k paths. -/
def nedT (A B : List R) (k : Nat) : List R := ((needS A B).take k).foldl (upB B) []
theorem nedT_step {A B : List R} {k : Nat} (h : k < (needS A B).length) : nedT A B (k + 1) = upB B (nedT A B k) (needS A B)[k] := by
  unfold nedT
  rw [List.take_add_one, List.getElem?_eq_getElem h, Option.toList_some, List.foldl_append]
  rfl
theorem need_path {A B : List R} (hA : ∀ r ∈ A, pathB r.p.data.toList = true) (hB : ∀ r ∈ B, pathB r.p.data.toList = true) : ∀ q ∈ needS A B, pathB q.data.toList = true := by
  intro q hq
  unfold needS at hq
  rcases List.mem_append.1 hq with h | h
  · obtain ⟨m, hm, rfl⟩ := List.mem_map.1 h
    exact hA m (List.mem_filter.1 hm).1
  · obtain ⟨m, hm, rfl⟩ := List.mem_map.1 h
    exact hB m (List.mem_filter.1 hm).1
theorem nedT_len {A B : List R} (hp : ∀ q ∈ needS A B, pathB q.data.toList = true) : ∀ {k : Nat}, k ≤ (needS A B).length → (nedT A B k).length ≤ 4 * k
  | 0, _ => Nat.le_refl _
  | k + 1, h => by
    have hk : k < (needS A B).length := by omega
    have h1 := nedT_len hp (k := k) (by omega)
    have h2 := upB_len (B := B) (L := nedT A B k) (hp _ (List.getElem_mem hk))
    rw [nedT_step hk]
    omega
theorem need_len (A B : List R) : (needS A B).length ≤ A.length + B.length := by
  have h1 := List.length_filter_le (fun m => (recAt B m.p).isNone && homed B m.p) A
  have h2 := List.length_filter_le (fun n => decide (recAt A n.p ≠ some n)) B
  unfold needS
  rw [List.length_append, List.length_map, List.length_map]
  omega
/-- What changed, of the first k nodes. -/
def chgT (A B : List R) (k : Nat) : List ByteArray := ((B.take k).filter fun n => decide (recAt A n.p ≠ some n)).map R.p
theorem chgT_yes {A B : List R} {k : Nat} (h : k < B.length) (hc : decide (recAt A B[k].p ≠ some B[k]) = true) : chgT A B (k + 1) = chgT A B k ++ [B[k].p] := by
  unfold chgT
  rw [List.take_add_one, List.getElem?_eq_getElem h, Option.toList_some, List.filter_append, show ([B[k]].filter fun n => decide (recAt A n.p ≠ some n)) = [B[k]] from List.filter_cons_of_pos (p := fun n : R => decide (recAt A n.p ≠ some n)) hc, List.map_append]
  rfl
theorem chgT_no {A B : List R} {k : Nat} (h : k < B.length) (hc : decide (recAt A B[k].p ≠ some B[k]) = false) : chgT A B (k + 1) = chgT A B k := by
  unfold chgT
  rw [List.take_add_one, List.getElem?_eq_getElem h, Option.toList_some, List.filter_append, show ([B[k]].filter fun n => decide (recAt A n.p ≠ some n)) = [] from List.filter_cons_of_neg (p := fun n : R => decide (recAt A n.p ≠ some n)) (by rw [hc]; decide), List.append_nil]
theorem chgT_end (A B : List R) : gone A B ++ chgT A B B.length = needS A B := by unfold chgT gone needS; rw [List.take_length]
theorem chgT_len (A B : List R) (k : Nat) : (gone A B ++ chgT A B k).length ≤ A.length + k := by
  have h1 := List.length_filter_le (fun m => (recAt B m.p).isNone && homed B m.p) A
  have h2 := List.length_filter_le (fun n => decide (recAt A n.p ≠ some n)) (B.take k)
  rw [List.length_take] at h2
  unfold gone chgT
  rw [List.length_append, List.length_map, List.length_map]
  omega
def gcT (A B : List R) (k : Nat) : List ByteArray := gone A B ++ chgT A B k
theorem gcT_yes {A B : List R} {k : Nat} (h : k < B.length) (hc : decide (recAt A B[k].p ≠ some B[k]) = true) : gcT A B (k + 1) = gcT A B k ++ [B[k].p] := by unfold gcT; rw [chgT_yes h hc, List.append_assoc]
theorem gcT_no {A B : List R} {k : Nat} (h : k < B.length) (hc : decide (recAt A B[k].p ≠ some B[k]) = false) : gcT A B (k + 1) = gcT A B k := by unfold gcT; rw [chgT_no h hc]
theorem gcT_zero (A B : List R) : gcT A B 0 = gone A B := by unfold gcT; rw [show chgT A B 0 = [] from rfl, List.append_nil]
theorem str_src {w : World} {b g cap : Nat} {P : List ByteArray} (h : w.ownsRow b 9 1 (.slice (some ⟨g, 0, none⟩) P.length cap) P.length (P.map Value.string)) : ∀ j u, (P.map Value.string)[j]? = some u → w.cell? ((⟨g, 0, none⟩ : Addr).add j) = some u := by
  intro j u hj
  rw [Addr.add_lit, Nat.zero_add]
  have hlt : j < P.length := by have := (List.getElem?_eq_some_iff.1 hj).1; rw [List.length_map] at this; exact this
  have := h.cellAt j (by omega)
  rw [hj] at this
  exact this
theorem str_ones (P : List ByteArray) : ∀ u ∈ P.map Value.string, u.oneCell' = true := fun u hu => by
  obtain ⟨x, _, rfl⟩ := List.mem_map.1 hu
  rfl

set_option maxHeartbeats 6400000 in
theorem l08Between_any (v1 v2 : Value) (A B : List R) (w : World) (h1 : NodSl w v1 A) (h2 : NodSl w v2 B) (ht1 : Tree A) (ht2 : Tree B) :
    Calls Tryz.prog 73 #[v1, v2] w fun e w' => ∃ x, e = .returned x ∧ Below w.heap.size w w' ∧ RowOf w' w.heap.size x (betP A B).length (betP A B) := by
  obtain ⟨i0, hi, hz0, hz1, hz2⟩ := info_parts strInfo
  obtain ⟨r0, ri, rz0, rz1, rz2⟩ := info_parts recInfo
  have hlA := ht1.len
  have hlB := ht2.len
  have HG := l08Gone_any v1 v2 A B w h1 h2 (by omega) (by omega) ht1.is.path
  have HCH : Hid (∀ n ∈ B, ∀ w', Below w.heap.size w w' → Calls Tryz.prog 137 #[v1, n.nod] w' fun e w'' => e = .returned (.bool (decide (recAt A n.p ≠ some n))) ∧ Below w'.heap.size w' w'') := fun n hn w' hb => l08Changed_any v1 A n w' (h1.below hb) (by omega) (h2.1 n hn)
  have HNP := Lib.hid (need_path ht1.is.path ht2.is.path)
  have hnl := need_len A B
  have HNL : Hid (∀ k, k ≤ (needS A B).length → (nedT A B k).length ≤ 4 * k) := fun k hk => nedT_len HNP.out hk
  have HSAME := Lib.hid (bet_same ht1.is ht2.is)
  have HDIS : Hid ((nedL A B).Pairwise fun x y => x.p ≠ y.p) := (upB_fold (needS A B) (ofB_nil B)).1.once
  have HOF : Hid (OfB B (nedL A B)) := (upB_fold (needS A B) (ofB_nil B)).1
  have HPS : Hid (∀ r ∈ nedL A B, r.p.size ≤ 65536) := fun r hr => by
    rcases ((upB_fold (needS A B) (ofB_nil B)).2 r).1 hr with h0 | ⟨q, hq, d, hd, rfl⟩
    · cases h0
    · rw [recB_p]
      rcases hd with rfl | hd
      · exact pth_64 (HNP.out _ hq)
      · exact pth_64 (ups_path (HNP.out _ hq) _ hd)
  have HOB := Lib.hid h2.1
  have HS2 := Lib.hid h2
  have HCL : Hid (∀ k, (gcT A B k).length ≤ A.length + k) := chgT_len A B
  have HNE : Hid (gcT A B B.length = needS A B) := chgT_end A B
  obtain ⟨a1, cap1, rfl⟩ := nodSl_form h1
  obtain ⟨_, a2, cap2, rfl, hcap2, h2⟩ := h2
  have H2 := Lib.hid h2
  clear h1 h2 ht1 ht2 hcap2
  go_enter Tryz.func73, Tryz.ntmps73
  go_wp2_with fail
  refine HG.mono ?_
  rintro e w1 ⟨z, rfl, hb1, hgone, hne⟩
  obtain ⟨g, gcap, rfl, _⟩ := own_some hgone hne
  have hgl := HCL.out 0
  rw [gcT_zero] at hgl
  have HGO := Lib.hid hgone
  have R0 : (w1.alloc (.cells #[] 9)).ownsRow w.heap.size 9 1 (.slice (some ⟨w1.heap.size, 0, none⟩) 0 0) 0 [] := World.ownsRow_lit w1 #[] 0 hb1.size (Nat.zero_le _) rfl
  have hbA := hb1.alloc hb1.size (.cells #[] 9)
  have hbz := hbA.size
  clear HG hgone hne
  go_wp2_with (first
    | (at_builtin; refine wpList_append_own _ rfl _ _ 32 rfl w.heap.size 9 i0 (.string ByteArray.empty) 1 16 Tryz.underlying32 hi hz0 hz1 hz2 rfl (by decide) _ _ _ rfl R0 ⟨g, 0, none⟩ (gone A B).length gcap ((gone A B).map Value.string) rfl (by rw [List.length_map, Nat.mul_one]) (str_src (own_below HGO.out ((Below.refl _ _).alloc (Nat.le_refl _) _))) (str_ones _) (by unfold maxLen; omega) (by omega) hbz ?_; intro v' w2 hown' hgrow2 hnil2))
  have hb2 := hbA.grown hgrow2 hbA.size (fun j hj => (R0.lt j hj).1)
  have HR2 : Hid (w2.ownsRow w.heap.size 9 1 v' (gcT A B 0).length ((gcT A B 0).map Value.string)) := by
    show World.ownsRow _ _ _ _ _ _ _
    rw [gcT_zero]
    rw [Nat.zero_add, List.nil_append] at hown'
    exact hown'
  obtain ⟨vA, vcap, rfl⟩ := own_form HR2.out
  clear hown' hgrow2 hnil2 hbA R0 HGO hb1 hbz
  go_wp2_with fail
  go_loopw [6, 7] (fun o i wr => ∃ k : Nat, k ≤ B.length ∧ i = .int .i64 k ∧ wr.ownsRow w.heap.size 9 1 o (gcT A B k).length ((gcT A B k).map Value.string) ∧ Below w.heap.size w wr) (fun _ i _ => B.length - (intOf i).toNat)
  case atStart => exact ⟨0, by omega, rfl, HR2.out, hb2⟩
  case round =>
    obtain ⟨k, hk, rfl, hrow, hbw⟩ := hrel
    obtain ⟨fA, fcap, rfl⟩ := own_form hrow
    have hgl2 := HCL.out k
    have hbz := hbw.size
    by_cases hlt : k < B.length
    · obtain ⟨b2, off2, rfl, hbb, hcell2⟩ := H2.out (by omega)
      obtain ⟨p0, p1, p2, p3⟩ := (hcell2 k B[k] (by simp [hlt])).below hbw hbb
      have HNC : Hid (∀ w', Below w.heap.size w w' → w'.cell? ⟨b2, off2 + k * 4 + 1, none⟩ = some (.string B[k].p)) := fun w' hb => ((hcell2 k B[k] (by simp [hlt])).below hb hbb).2.1
      have hi1 : (k : Int) < (B.length : Int) := by omega
      have hi0 : (0 : Int) ≤ (k : Int) := by omega
      have HC := HCH.out _ (List.getElem_mem hlt) wr hbw
      unfold R.nod at HC
      clear hcell2
      cases hch : decide (recAt A B[k].p ≠ some B[k]) with
      | false =>
        have HN := Lib.hid (gcT_no hlt hch)
        rw [hch] at HC
        clear hch
        go_wp2_with fail
        refine HC.mono ?_
        rintro e w3 ⟨rfl, hb3⟩
        go_wp2_with fail
        exact ⟨⟨k + 1, by omega, by go_num, by rw [HN.out]; exact own_below hrow hb3, hbw.trans (hb3.mono hbw.size)⟩, by simp [intOf]; omega⟩
      | true =>
        have HN := Lib.hid (gcT_yes hlt hch)
        rw [hch] at HC
        clear hch
        go_wp2_with fail
        refine HC.mono ?_
        rintro e w3 ⟨rfl, hb3⟩
        have hbw3 := hbw.trans (hb3.mono hbw.size)
        have q1 := HNC.out _ hbw3
        have hrow3 := own_below hrow hb3
        have hbz3 := hbw3.size
        have hrA := hrow3.alloc (.cells #[.string B[k].p] 9)
        have hbA := hbw3.alloc hbw3.size (.cells #[.string B[k].p] 9)
        clear p0 p1 p2 p3 HC hrow hb3
        go_wp2_with (first
          | (at_builtin; refine wpList_append_own _ rfl _ _ 32 rfl w.heap.size 9 i0 (.string ByteArray.empty) 1 16 Tryz.underlying32 hi hz0 hz1 hz2 rfl (by decide) _ _ _ rfl hrA ⟨w3.heap.size, 0, none⟩ 1 1 [.string B[k].p] rfl rfl (cell_one_new _ _ _) (fun x hx => by simp at hx; subst hx; rfl) (by unfold maxLen; omega) (by omega) (by simp; omega) ?_; intro v' w9 hown' hgrow9 hnil9))
        exact ⟨⟨k + 1, by omega, by go_num, by rw [HN.out]; exact strS_snoc hown', hbA.grown hgrow9 hbA.size (fun j hj => (hrA.lt j hj).1)⟩, by simp [intOf]; omega⟩
    · have hkk : k = B.length := by omega
      subst hkk
      have hq := hrow
      rw [HNE.out] at hq
      have HN2 : Hid (wr.ownsRow w.heap.size 9 1 (.slice fA (needS A B).length fcap) (needS A B).length ((needS A B).map Value.string)) := hq
      have hlen : ((gcT A B B.length).length : Int) = ((needS A B).length : Int) := by rw [HNE.out]
      have hlenN : (gcT A B B.length).length = (needS A B).length := by rw [HNE.out]
      have M0 : Hid (RowOf (wr.alloc (.cells #[] 53)) w.heap.size (.slice (some ⟨wr.heap.size, 0, none⟩) 0 0) (nedT A B 0).length (nedT A B 0)) := ⟨rfl, World.ownsRow_lit wr #[] 0 hbw.size (Nat.zero_le _) rfl⟩
      have HB3 : Hid (Below w.heap.size w (wr.alloc (.cells #[] 53))) := hbw.alloc hbw.size _
      have HS3 : Hid ((wr.alloc (.cells #[] 53)).ownsRow w.heap.size 9 1 (.slice fA (needS A B).length fcap) (needS A B).length ((needS A B).map Value.string)) := HN2.out.alloc _
      have hnl2 : (needS A B).length ≤ 48 := by omega
      rw [hlenN]
      clear hrow hq HN2 hgl2 hlenN hlen
      have HSTEP : Hid (∀ k (h : k < (needS A B).length), nedT A B (k + 1) = upB B (nedT A B k) ((needS A B)[k])) := fun k h => nedT_step h
      have HEND : Hid (nedT A B (needS A B).length = nedL A B) := by show _ = _; unfold nedT nedL; rw [List.take_length]
      generalize hND : needS A B = N at *
      clear hND
      go_wp2_with fail
      generalize wr.alloc (.cells #[] 53) = W0 at *
      go_loopw [8, 9] (fun o i wr => ∃ k : Nat, k ≤ N.length ∧ i = .int .i64 k ∧ RowOf wr w.heap.size o (nedT A B k).length (nedT A B k) ∧ wr.ownsRow w.heap.size 9 1 (.slice fA N.length fcap) N.length (N.map Value.string) ∧ Below w.heap.size w wr) (fun _ i _ => N.length - (intOf i).toNat)
      case atStart => exact ⟨0, by omega, rfl, M0.out, HS3.out, HB3.out⟩
      case round =>
        obtain ⟨k, hk, rfl, hrow, hstr, hbw⟩ := hrel
        obtain ⟨oA, ocap, rfl⟩ := hrow.form
        have h4 := HNL.out k hk
        have hbz := hbw.size
        by_cases hlt : k < N.length
        · obtain ⟨sg, scap, hse, _, _, hsl, hscell⟩ := own_slice hstr (by omega)
          cases hse
          have hpc : wr.cell? ⟨sg, k, none⟩ = some (.string N[k]) := by
            have h1 := hstr.cellAt k (by omega)
            rw [List.getElem?_map, List.getElem?_eq_getElem hlt] at h1
            exact h1
          have hqp := HNP.out _ (List.getElem_mem hlt)
          have HQP : Hid ((N[k]).size = 0 ∨ pathB (N[k]).data.toList = true) := .inr hqp
          have HT : Hid ((upw N[k]).foldl (addB B) (nedT A B k) = nedT A B (k + 1)) := by show _ = _; rw [HSTEP.out k hlt, upB_upw hqp]
          have h5 : (nedT A B (k + 1)).length ≤ 192 := by have := HNL.out (k + 1) (by omega); omega
          have hi1 : (k : Int) < (N.length : Int) := by omega
          have hi0 : (0 : Int) ≤ (k : Int) := by omega
          have h40 : (nedT A B k).length ≤ 192 := by omega
          clear hqp hscell
          go_wp2_with fail
          go_loopw [8, 10] (fun o p wr2 => ∃ (P : ByteArray) (M : List R), p = .string P ∧ Hid (P.size = 0 ∨ pathB P.data.toList = true) ∧ Hid ((upw P).foldl (addB B) M = nedT A B (k + 1)) ∧ RowOf wr2 w.heap.size o M.length M ∧ M.length ≤ 192 ∧ wr2.ownsRow w.heap.size 9 1 (.slice (some ⟨sg, 0, none⟩) N.length fcap) N.length (N.map Value.string) ∧ Below w.heap.size w wr2) (fun _ p _ => pm p)
          case atStart => exact ⟨N[k], nedT A B k, rfl, HQP, HT, hrow, h40, hstr, hbw⟩
          case round =>
            obtain ⟨P, M, rfl, HPP, HM, hrw, hML, hst, hbw2⟩ := hrel
            obtain ⟨mA, mcap, rfl⟩ := hrw.form
            by_cases hz : P.size = 0
            · have he := isEmpty_true hz
              have HE : Hid (M = nedT A B (k + 1)) := by show _ = _; rw [← HM.out, upw_zero hz]; rfl
              go_wp2_with fail
              exact ⟨⟨k + 1, by omega, by go_num, by rw [← HE.out]; exact hrw, hst, hbw2⟩, by simp [intOf]; omega⟩
            · have hp : pathB P.data.toList = true := HPP.out.resolve_left hz
              have he := isEmpty_false (Nat.pos_of_ne_zero hz)
              have hps := path_short hp
              have HMP := Lib.hid (pm_down hp)
              have HNX : Hid ((parO P).size = 0 ∨ pathB (parO P).data.toList = true) := by
                by_cases h0 : parentL P.data.toList = []
                · exact .inl (parO_size h0)
                · exact .inr (parts_parent hp h0).1
              have HUP := Lib.hid (upw_path hp)
              have HL := l03At_any _ M P wr hrw.sl (by omega)
              have HPA : ∀ w', Calls Tryz.prog 126 #[.string P] w' fun e w'' => e = .returned (.string (parO P)) ∧ w' = w'' := fun w' => l01Parent_any P w' (by unfold maxLen; omega)
              have hbz2 := hbw2.size
              rcases atL_recAt M P with ⟨ha, hn⟩ | ⟨j, hj, ha, hn⟩
              · have HADD : Hid ((upw (parO P)).foldl (addB B) (M ++ [recB B P]) = nedT A B (k + 1)) := by show _ = _; rw [← HM.out, HUP.out, List.foldl_cons, addB_none hn]
                have hM1 : M.length + 1 ≤ 192 := by
                  have h1 := (addF_len B (upw (parO P)) (M ++ [recB B P])).1
                  rw [HADD.out, List.length_append, List.length_singleton] at h1
                  omega
                rw [ha] at HL
                rcases atL_recAt B P with ⟨hb, hbn⟩ | ⟨j2, hj2, hb, hbn⟩
                · have HRB := Lib.hid (recB_none hbn)
                  have HAT : ∀ w', Below w.heap.size w w' → Calls Tryz.prog 127 #[.slice a2 B.length cap2, .string P] w' fun e w'' => e = .returned (.int .i64 (-1)) ∧ w' = w'' := fun w' hw => by
                    have := l04At_any _ B P w' (HS2.out.below hw) (by omega)
                    rw [hb] at this
                    exact this
                  have cA := hbw2.alloc hbw2.size (.cells #[.int .i64 4, .string P, .string ⟨#[]⟩, .int .i64 0, .bool false] 53)
                  have cB := cA.alloc cA.size (.cells #[.int .i64 4, .string P, .string ⟨#[]⟩, .int .i64 0, .bool false] 53)
                  have hrA := (hrw.2.alloc (.cells #[.int .i64 4, .string P, .string ⟨#[]⟩, .int .i64 0, .bool false] 53)).alloc (.cells #[.int .i64 4, .string P, .string ⟨#[]⟩, .int .i64 0, .bool false] 53)
                  have hsA := (hst.alloc (.cells #[.int .i64 4, .string P, .string ⟨#[]⟩, .int .i64 0, .bool false] 53)).alloc (.cells #[.int .i64 4, .string P, .string ⟨#[]⟩, .int .i64 0, .bool false] 53)
                  have hbs := cB.size
                  have HNW : Hid (∀ j u, (whiteR P).cs[j]? = some u → ((wr.alloc (.cells #[.int .i64 4, .string P, .string ⟨#[]⟩, .int .i64 0, .bool false] 53)).alloc (.cells #[.int .i64 4, .string P, .string ⟨#[]⟩, .int .i64 0, .bool false] 53)).cell? ((⟨wr.heap.size + 1, 0, none⟩ : Addr).add j) = some u) := by
                    have h := rec_cells_new (wr.alloc (.cells #[.int .i64 4, .string P, .string ⟨#[]⟩, .int .i64 0, .bool false] 53)) (whiteR P) 53
                    rw [World.size_alloc] at h
                    exact h
                  have hone := rec_one (whiteR P)
                  have HSA := Lib.hid hsA
                  clear ha hn hb hbn hp hsA
                  go_wp2_with fail
                  refine HL.mono ?_
                  rintro e w5 ⟨rfl, rfl⟩
                  go_wp2_with fail
                  refine (HAT _ cA).mono ?_
                  rintro e w5 ⟨rfl, rfl⟩
                  go_wp2_with (first
                    | (at_builtin; refine wpList_append_own _ rfl _ _ 27 rfl w.heap.size 53 r0 (.agg #[.int .i64 0, .string ByteArray.empty, .string ByteArray.empty, .int .i64 0, .bool false]) 5 56 Tryz.underlying27 ri rz0 rz1 rz2 rfl (by decide) _ _ _ rfl hrA ⟨wr.heap.size + 1, 0, none⟩ 1 1 (whiteR P).cs rfl rfl HNW.out hone (by unfold maxLen; omega) (by omega) hbs ?_; intro v' w9 hown' hgrow9 hnil9))
                  refine (HPA _).mono ?_
                  rintro e w6 ⟨rfl, rfl⟩
                  go_wp2_with fail
                  exact ⟨⟨parO P, M ++ [whiteR P], rfl, HNX, by rw [← HRB.out]; exact HADD, row_snoc hown', by rw [List.length_append, List.length_singleton]; omega, HSA.out.kept hgrow9 (row_apart (by decide) HSA.out hrA), cB.grown hgrow9 cB.size (fun j hj => (hrA.lt j hj).1)⟩, HMP.out⟩
                · have HRB : Hid (recB B P = nodeOf B[j2]) := recB_some hbn
                  have HAT : ∀ w', Below w.heap.size w w' → Calls Tryz.prog 127 #[.slice a2 B.length cap2, .string P] w' fun e w'' => e = .returned (.int .i64 (j2 : Int)) ∧ w' = w'' := fun w' hw => by
                    have := l04At_any _ B P w' (HS2.out.below hw) (by omega)
                    rw [hb] at this
                    exact this
                  obtain ⟨b2, off2, rfl, hbb, hcell2⟩ := H2.out (by omega)
                  have HNC : Hid (∀ w', Below w.heap.size w w' → NodCells w' b2 (off2 + j2 * 4) B[j2]) := fun w' hw => (hcell2 j2 B[j2] (by simp [hj2])).below hw hbb
                  have hon := HOB.out _ (List.getElem_mem hj2)
                  have HREC := fun w' => l04Record_any B[j2] hon w'
                  unfold R.nod R.val at HREC
                  rw [hon] at HREC
                  have HNO : Hid (nodeOf B[j2] = ⟨B[j2].k, B[j2].m, B[j2].p, B[j2].b, false⟩) := rfl
                  have j1 : (0 : Int) ≤ (j2 : Int) := by omega
                  have j3 : (j2 : Int) < (B.length : Int) := by omega
                  have hjd : decide ((0 : Int) ≤ (j2 : Int)) = true := by simp
                  have cA := hbw2.alloc hbw2.size (.cells #[.int .i64 4, .string P, .string ⟨#[]⟩, .int .i64 0, .bool false] 53)
                  have hrA := hrw.2.alloc (.cells #[.int .i64 4, .string P, .string ⟨#[]⟩, .int .i64 0, .bool false] 53)
                  have hsA := hst.alloc (.cells #[.int .i64 4, .string P, .string ⟨#[]⟩, .int .i64 0, .bool false] 53)
                  obtain ⟨d0, d1, d2, d3⟩ := HNC.out _ cA
                  have HX : Hid (RowOf (wr.alloc (.cells #[.int .i64 4, .string P, .string ⟨#[]⟩, .int .i64 0, .bool false] 53)) w.heap.size (.slice (some ⟨wr.heap.size, 0, none⟩) 1 1) 1 [whiteR P]) := ⟨rfl, World.ownsRow_lit wr _ 1 hbw2.size (by decide) rfl⟩
                  have HSA := Lib.hid hsA
                  have HRA := Lib.hid hrA
                  have HN1 : Hid ((Value.slice mA M.length mcap).ownBlock ≠ some wr.heap.size) := fun e => by have := (hrw.2.lt _ e).2; omega
                  have HN2 : Hid ((Value.slice (some ⟨sg, 0, none⟩) N.length fcap).ownBlock ≠ some wr.heap.size) := fun e => by have := (hst.lt _ e).2; omega
                  clear ha hn hb hbn hp hsA hrA hcell2
                  generalize B[j2] = nn at *
                  go_wp2_with fail
                  refine HL.mono ?_
                  rintro e w5 ⟨rfl, rfl⟩
                  go_wp2_with fail
                  refine (HAT _ cA).mono ?_
                  rintro e w5 ⟨rfl, rfl⟩
                  go_wp2_with fail
                  refine (HREC _).mono ?_
                  rintro e w7 ⟨rfl, hb7⟩
                  have hx7 := HX.out.below hb7
                  have hs8 := hx7.store ⟨nn.k, nn.m, nn.p, nn.b, false⟩ (i := 0) (by simp)
                  have hf := hx7.frozen
                  obtain ⟨f0, f1, f2, f3, f4⟩ := hx7.cells (i := 0) (by simp)
                  simp only [Nat.zero_mul, Nat.zero_add, List.set_cons_zero, List.getElem_cons_zero] at hs8 f0 f1 f2 f3 f4
                  have HS8 := Lib.hid hs8
                  have c7 := cA.trans (hb7.mono cA.size)
                  have C7 := Lib.hid c7
                  have HSA7 := Lib.hid (own_below HSA.out hb7)
                  have HRA7 := Lib.hid (own_below HRA.out hb7)
                  clear hx7 hs8 d0 d1 d2 d3 cA c7 hb7 HREC
                  go_wp2_with (first
                    | (obtain ⟨W8, hW8⟩ : ∃ W8, (((((w7.setCell ⟨wr.heap.size, 0, none⟩ (.int .i64 nn.k)).setCell ⟨wr.heap.size, 1, none⟩ (.string nn.p)).setCell ⟨wr.heap.size, 2, none⟩ (.string nn.b)).setCell ⟨wr.heap.size, 3, none⟩ (.int .i64 nn.m)).setCell ⟨wr.heap.size, 4, none⟩ (.bool false)) = W8 := ⟨_, rfl⟩; rw [hW8]; have hs8 := HS8.out; rw [hW8] at hs8; clear hW8 f0 f1 f2 f3 f4 hf; obtain ⟨e0, e1, e2, e3, e4⟩ := hs8.1.cells (i := 0) (by simp); simp only [Nat.zero_mul, Nat.zero_add, List.getElem_cons_zero] at e0 e1 e2 e3 e4; have hg8 := Lib.hid hs8.2; have hrA := (HRA7.out.kept hs8.2 (.inr HN1.out)).alloc (.cells #[.int .i64 nn.k, .string nn.p, .string nn.b, .int .i64 nn.m, .bool false] 53); have HST8 := Lib.hid ((HSA7.out.kept hs8.2 (.inr HN2.out)).alloc (.cells #[.int .i64 nn.k, .string nn.p, .string nn.b, .int .i64 nn.m, .bool false] 53)); have c8 := C7.out.grown hs8.2 C7.out.size (fun j hj => by cases hj; exact hbz2); have c9 := c8.alloc c8.size (.cells #[.int .i64 nn.k, .string nn.p, .string nn.b, .int .i64 nn.m, .bool false] 53); have hbs := c9.size; have HNW := Lib.hid (rec_cells_new W8 ⟨nn.k, nn.m, nn.p, nn.b, false⟩ 53); clear hs8)
                    | (at_builtin; refine wpList_append_own _ rfl _ _ 27 rfl w.heap.size 53 r0 (.agg #[.int .i64 0, .string ByteArray.empty, .string ByteArray.empty, .int .i64 0, .bool false]) 5 56 Tryz.underlying27 ri rz0 rz1 rz2 rfl (by decide) _ _ _ rfl hrA ⟨W8.heap.size, 0, none⟩ 1 1 (R.cs ⟨nn.k, nn.m, nn.p, nn.b, false⟩) rfl rfl HNW.out (rec_one _) (by unfold maxLen; omega) (by omega) hbs ?_; intro v' w9 hown' hgrow9 hnil9))
                  refine (HPA _).mono ?_
                  rintro e w6 ⟨rfl, rfl⟩
                  go_wp2_with fail
                  exact ⟨⟨parO P, M ++ [nodeOf nn], rfl, HNX, by rw [← HRB.out]; exact HADD, row_snoc hown', by rw [List.length_append, List.length_singleton]; omega, HST8.out.kept hgrow9 (row_apart (by decide) HST8.out hrA), c9.grown hgrow9 c9.size (fun j hj => (hrA.lt j hj).1)⟩, HMP.out⟩
              · have HADD : Hid ((upw (parO P)).foldl (addB B) M = nedT A B (k + 1)) := by show _ = _; rw [← HM.out, HUP.out, List.foldl_cons, addB_some hn]
                have hjd : decide ((0 : Int) ≤ (j : Int)) = true := by simp
                rw [ha] at HL
                clear ha hn
                go_wp2_with fail
                refine HL.mono ?_
                rintro e w5 ⟨rfl, rfl⟩
                go_wp2_with fail
                refine (HPA _).mono ?_
                rintro e w6 ⟨rfl, rfl⟩
                go_wp2_with fail
                exact ⟨⟨parO P, M, rfl, HNX, HADD, hrw, hML, hst, hbw2⟩, HMP.out⟩
        · have hkk : k = N.length := by omega
          subst hkk
          have HRW := Lib.hid hrow
          have hn4 : (nedT A B N.length).length ≤ 1000 := by omega
          have HSO := l08Sort_any _ (nedT A B N.length) wr hrow.sl hn4 (fun r hr => HPS.out r (by rw [← HEND.out]; exact hr)) (by rw [HEND.out]; exact HDIS.out)
          have he : sortL (nedT A B N.length) = betP A B := by rw [HEND.out, HSAME.out]
          rw [he] at HSO
          clear he
          clear hrow hstr
          go_wp2_with fail
          refine HSO.mono ?_
          rintro e w9 ⟨x, rfl, hb9, hx⟩
          go_wp2_with fail
          go_ret
          exact ⟨_, rfl, hbw.trans (hb9.mono hbw.size), ⟨hx.1, own_le hx.2 hbw.size⟩⟩
end Go.Proofs.YtibekkfbpmloiabGreatDoor.Recs
