/- Parts of several texts of mine in one file (each begins with its own remark). -/
import Derived.Test.YtibekkfbpmloiabGreatDoorCA1
import Derived.Test.YtibekkfbpmloiabGreatDoorCA10
import Derived.Test.YtibekkfbpmloiabGreatDoorCA2
import Derived.Test.YtibekkfbpmloiabGreatDoorCA3
import Derived.Test.YtibekkfbpmloiabGreatDoorCA4
import Derived.Test.YtibekkfbpmloiabGreatDoorCA5
import Derived.Test.YtibekkfbpmloiabGreatDoorCA6
import Derived.Test.YtibekkfbpmloiabGreatDoorCA7
import Derived.Test.YtibekkfbpmloiabGreatDoorCA8
import Derived.Test.YtibekkfbpmloiabGreatDoorCA9
import Derived.Test.YtibekkfbpmloiabGreatDoorCC1
import Derived.Test.YtibekkfbpmloiabGreatDoorCC2
import Derived.Test.YtibekkfbpmloiabGreatDoorCC3
import Derived.Test.YtibekkfbpmloiabGreatDoorChecked
import Derived.Test.YtibekkfbpmloiabGreatDoorRows
import Derived.Test.YtibekkfbpmloiabGreatDoorProg
import Derived.Test.YtibekkfbpmloiabGreatDoorShelf
import Derived.Deep.RegionWith
import Derived.OneCell
import Derived.Lib.SliceRun
import Derived.Laws.OwnMore
import Derived.Deep.Slices
import Derived.OpenShut
import Derived.ShutString
import Derived.ChangeArms
import Derived.WideShapes
import Derived.Lib.LaidTab
import Derived.BigQuiet
import Derived.Deep.QuietTactic
import Derived.Deep.RegionHeld3
import Derived.StillTailTactics
import Derived.Deep.Draws
import Derived.Deep.LoopGhost
import Derived.WalkKit
import Derived.WalkSpells
import Derived.WalkSmall
import Derived.Lib.OthersKept
import Derived.Lib.Hide
import Derived.Lib.Strings
import Derived.Lib.Join
import Derived.Laws.BytesArg
import Derived.BigRegion
import Derived.Lib.Overlaps
import Derived.Lib.AppendZerosOnto
import Derived.Laws.NewBlocks
import Derived.Laws.IdiomCopy
import Derived.Deep.RegionLaw
import Derived.ChangeVars
import Derived.Deep.DeepHandedRow
import Derived.LaidEql
import Derived.Stop.Asserts
import Derived.Below
import Derived.Stop.LaidErr
import Derived.Stop.LaidTwo
import Derived.WalkLawsBesides
/- A tree in memory: attach, of the program. -/
namespace Go.Proofs.YtibekkfbpmloiabGreatDoor.Recs
set_option maxRecDepth 100000
open Go.RowKit Paths

/-- Which of those directly below are less than a new one. -/
theorem kid_less {t : List R} (ht : IsTree t) {n c : R} (hn : pathB n.p.data.toList = true) (hc : c ∈ kids t (parO n.p)) : lessR c n = Op.bytesLess (lastB c.p).toList (lastB n.p).toList := by
  obtain ⟨h1, h2⟩ := mem_kids.1 hc
  unfold lessR
  rw [less_kid (ht.path c h1) hn h2, Lib.toList_data, Lib.toList_data]
theorem nod_cells_new (w : World) (r : R) : NodCells (w.alloc (.cells #[.int .i64 r.k, .string r.p, .string r.b, .int .i64 r.m] 68)) w.heap.size 0 r := by
  refine ⟨?_, ?_, ?_, ?_⟩ <;> simp
theorem ptrs_one (A : ByteArray → Nat) (l : List R) : ∀ u ∈ ptrs A l, u.oneCell' = true := by
  intro u hu
  unfold ptrs at hu
  obtain ⟨c, _, rfl⟩ := List.mem_map.1 hu
  rfl
/-- What attach leaves: the tree with the node, nothing below base turned. -/
def AttPost (base : Nat) (A : ByteArray → Nat) (t : List R) (n : R) (w : World) (e : Ending) (w' : World) : Prop :=
  (∃ v, e = .returned v) ∧ ∃ A' S', Tr w' base A' S' (putL t n) ∧ Below base w w' ∧ A' ByteArray.empty = A ByteArray.empty

set_option maxHeartbeats 4000000 in
theorem attach_any {w : World} {base : Nat} {A : ByteArray → Nat} {S : ByteArray → Value} {t : List R} {x n : R} (h : Tr w base A S t) (ht : IsTree t) (hl : t.length ≤ 1000) (hn : pathB n.p.data.toList = true) (hns : n.p.size ≤ maxLen) (hx : x ∈ rootR :: t) (hxp : x.p = parO n.p) (hnew : recAt t n.p = none) :
    Calls Tryz.prog 188 #[ptr (A x.p), n.nod] w (AttPost base A t n w) := by
  have hb0 : Below w.heap.size w (w.alloc (.cells #[.int .i64 n.k, .string n.p, .string n.b, .int .i64 n.m] 68)) := (Below.refl _ _).alloc (Nat.le_refl _) _
  have hnc := nod_cells_new w n
  have hwb : base ≤ w.heap.size := Nat.le_of_lt (Nat.lt_of_le_of_lt (h.own _ root_mem) (h.lt root_mem))
  unfold ptr R.nod
  have HT := Lib.hid h
  have HTT := Lib.hid ht
  have HX := Lib.hid hx
  have HXP := Lib.hid hxp
  have HNW := Lib.hid hnew
  clear h ht hx hxp hnew
  go_enter Tryz.func188, Tryz.ntmps188
  go_wp2_with fail
  refine (splitPath_any n.p _ hns).mono ?_
  rintro e w1 ⟨v, rfl, hb1, ho, -, hnn⟩
  rw [partsOf_yes hn] at ho
  have hv := part_sl ho
  obtain ⟨g, pcap, rfl, hgl, hpc, hpm⟩ := own_some ho (hnn hn)
  obtain ⟨_, _, e1, _, hpv0⟩ := hv
  cases e1
  have hN4 := (pathB_parts hn).1
  have hN1 := cutAt_pos 47 n.p.data.toList
  obtain ⟨g', e2, _, hpv⟩ := hpv0 (by omega)
  cases e2
  have cL := hpv ((cutAt 47 n.p.data.toList).length - 1) (by omega)
  rw [last_cell (by omega)] at cL
  clear hpv ho hnn hpv0
  generalize hN : (cutAt 47 n.p.data.toList).length = N at *
  obtain ⟨n0, n1, n2, n3⟩ := hnc.below hb1 (by simp)
  have c1 := hb0.trans (hb1.mono hb0.size)
  have hT1 := HT.out.below c1
  obtain ⟨_, _, _, _, _, c5⟩ := hT1.cells HX.out
  obtain ⟨sA, cap, hS, hcap, hk⟩ := hT1.kid HX.out
  have hf5 := hT1.frozen HX.out 5
  have HS := Lib.hid hS
  rw [hS] at c5
  have hkl : (kids t x.p).length ≤ 1000 := Nat.le_trans (List.length_filter_le _ _) hl
  have HM : Hid (∀ i (hi : i < (kids t x.p).length), w1.cell? ⟨A (kids t x.p)[i].p, 0, none⟩ = some (.string (lastB (kids t x.p)[i].p))) := fun i hi => (hT1.cells (kid_mem (List.getElem_mem hi))).1
  have HL : Hid (∀ i (hi : i < (kids t x.p).length), lessR (kids t x.p)[i] n = Op.bytesLess (lastB (kids t x.p)[i].p).toList (lastB n.p).toList) := fun i hi => kid_less HTT.out hn (by rw [← HXP.out]; exact List.getElem_mem hi)
  have hpl := place_le (kids t x.p) n
  have HPL : Hid (∀ k, k < placeOf (kids t x.p) n → ∃ h : k < (kids t x.p).length, lessR (kids t x.p)[k] n = true) := fun k hk => place_less hk
  have HPS : Hid (∀ h : placeOf (kids t x.p) n < (kids t x.p).length, lessR (kids t x.p)[placeOf (kids t x.p) n] n = false) := fun h => place_stop h
  have HT1 := Lib.hid hT1
  have H := Lib.hid hk
  have hw1 : IntKind.i64.wrap ((N : Int) - 1) = ((N - 1 : Nat) : Int) := by rw [IntKind.wrap_i64]; omega
  have hi9 : ((N - 1 : Nat) : Int) < (N : Int) := by omega
  clear hk hT1 hS hpm
  generalize hQ : placeOf (kids t x.p) n = Q at *
  generalize hK : kids t x.p = K at *
  generalize hAx : A x.p = a at *
  go_wp2_with fail
  go_loop [6] (fun i => ∃ k : Nat, k ≤ Q ∧ i = .int .i64 k) (fun i => Q - (intOf i).toNat)
  case atStart => exact ⟨0, by omega, rfl⟩
  case round =>
    obtain ⟨k, hk, rfl⟩ := hrel
    by_cases hlt : k < Q
    · obtain ⟨hkK, hless⟩ := HPL.out k hlt
      rw [HL.out k hkK] at hless
      obtain ⟨g', rfl, hg', hcell⟩ := H.out (by omega)
      have d1 := hcell k hkK
      have d2 := HM.out k hkK
      unfold ptr at d1
      have hi1 : (k : Int) < (K.length : Int) := by omega
      have hi0 : (0 : Int) ≤ (k : Int) := by omega
      clear hcell
      go_wp2_with fail
      exact ⟨⟨k + 1, by omega, by go_num⟩, by simp [intOf]; omega⟩
    · obtain rfl : k = Q := by omega
      have hbW2 : Below w1.heap.size w1 ((w1.drew.alloc (.cells #[.string (lastB n.p), .int .i64 n.k, .string n.p, .string n.b, .int .i64 n.m, .slice none 0 0] 197)).alloc (.cells #[.pointer (some ⟨w1.heap.size, 0, none⟩)] 146)) :=
        ((Below.refl _ _).drew.alloc (Nat.le_refl _) _).alloc (by simp) _
      have hbr : ((w1.drew.alloc (.cells #[.string (lastB n.p), .int .i64 n.k, .string n.p, .string n.b, .int .i64 n.m, .slice none 0 0] 197)).alloc (.cells #[.pointer (some ⟨w1.heap.size, 0, none⟩)] 146)).heap[w1.heap.size]? = some (.cells (brCells n (.slice none 0 0)) 197 (0, 0)) :=
        (Below.heap_alloc _ _ _ (by simp)).trans (alloc_at w1.drew _)
      have hvr : ((w1.drew.alloc (.cells #[.string (lastB n.p), .int .i64 n.k, .string n.p, .string n.b, .int .i64 n.m, .slice none 0 0] 197)).alloc (.cells #[.pointer (some ⟨w1.heap.size, 0, none⟩)] 146)).heap[w1.heap.size + 1]? = some (.cells #[ptr w1.heap.size] 146 (0, 0)) := by
        have := alloc_at (w1.drew.alloc (.cells #[.string (lastB n.p), .int .i64 n.k, .string n.p, .string n.b, .int .i64 n.m, .slice none 0 0] 197)) (.cells #[.pointer (some ⟨w1.heap.size, 0, none⟩)] 146)
        rw [World.size_alloc, World.size_drew] at this
        exact this
      have hT2 := HT1.out.below hbW2
      have hown2 := hT2.row x HX.out
      have hsx := (HT1.out.row x HX.out).lt
      rw [hK, HS.out] at hown2
      rw [HS.out] at hsx
      have HC := insert_any base (.slice sA K.length cap) K.length k (ptrs A K) (w1.heap.size + 1) (ptr w1.heap.size) _ hown2 hpl hkl hvr (fun e => by have := (hsx _ e).2; omega) rfl (ptrs_one A K) (Nat.le_trans hwb (Nat.le_trans c1.size hbW2.size))
      have HFIN : Hid (∀ (e : Ending) (w9 : World) (v' : Value), (∃ v, e = .returned v) → w9.ownsRow base 146 1 v' (K.length + 1) ((ptrs A K).take k ++ ptr w1.heap.size :: (ptrs A K).drop k) →
          ((w1.drew.alloc (.cells #[.string (lastB n.p), .int .i64 n.k, .string n.p, .string n.b, .int .i64 n.m, .slice none 0 0] 197)).alloc (.cells #[.pointer (some ⟨w1.heap.size, 0, none⟩)] 146)).grownBy w9 (Value.slice sA K.length cap).ownBlock →
          (v'.ownBlock = (Value.slice sA K.length cap).ownBlock ∨ v'.ownBlock = some ((w1.drew.alloc (.cells #[.string (lastB n.p), .int .i64 n.k, .string n.p, .string n.b, .int .i64 n.m, .slice none 0 0] 197)).alloc (.cells #[.pointer (some ⟨w1.heap.size, 0, none⟩)] 146)).heap.size) →
          AttPost base A t n w e (w9.setCell ⟨a, 5, none⟩ v')) := by
        intro e w9 v' he ho9 hg9 hw9
        rw [← HS.out] at hg9 hw9
        have hcb : Below base w w9 := (((c1.mono hwb).trans (hbW2.mono (Nat.le_trans hwb c1.size)))).grown hg9 (Nat.le_trans hwb (Nat.le_trans c1.size hbW2.size)) (fun j hj => ((HT1.out.row x HX.out).lt j hj).1)
        refine ⟨he, _, _, hAx ▸ Tr.put hT2 HTT.out hn HX.out HXP.out HNW.out hbr (Nat.le_trans hwb c1.size) (by rw [hK, hQ]; exact ho9) hg9 hw9, hcb.setCell (by rw [← hAx]; exact HT1.out.own x HX.out) _, ?_⟩
        exact if_neg (fun e => path_nonempty hn e.symm)
      have HA9 : Hid (∀ w9 : World, ((w1.drew.alloc (.cells #[.string (lastB n.p), .int .i64 n.k, .string n.p, .string n.b, .int .i64 n.m, .slice none 0 0] 197)).alloc (.cells #[.pointer (some ⟨w1.heap.size, 0, none⟩)] 146)).grownBy w9 (Value.slice sA K.length cap).ownBlock →
          w9.cell? ⟨a, 5, none⟩ = some (.slice sA K.length cap) ∧ w9.frozen? ⟨a, 5, none⟩ = false ∧ w9.cell? ⟨w.heap.size, 0, none⟩ = some (.int .i64 n.k) ∧ w9.cell? ⟨w.heap.size, 1, none⟩ = some (.string n.p) ∧ w9.cell? ⟨w.heap.size, 2, none⟩ = some (.string n.b) ∧ w9.cell? ⟨w.heap.size, 3, none⟩ = some (.int .i64 n.m)) := by
        intro w9 hg9
        rw [← HS.out] at hg9
        have hws : w.heap.size < w1.heap.size := by have := hb1.size; simp at this; omega
        have ew := hg9.block w.heap.size (Nat.lt_of_lt_of_le hws hbW2.size) (fun e => by have := ((HT.out.row x HX.out).lt _ e.symm).2; omega)
        rw [hbW2.block _ hws] at ew
        have m0 := (World.cell?_of_block (a := ⟨w.heap.size, 0, none⟩) ew).trans n0
        have m1 := (World.cell?_of_block (a := ⟨w.heap.size, 1, none⟩) ew).trans n1
        have m2 := (World.cell?_of_block (a := ⟨w.heap.size, 2, none⟩) ew).trans n2
        have m3 := (World.cell?_of_block (a := ⟨w.heap.size, 3, none⟩) ew).trans n3
        have e9 := hg9.block (A x.p) (hT2.lt HX.out) (fun e => hT2.apart_row HX.out HX.out e.symm)
        rw [hAx] at e9
        have c9 := hT2.cells HX.out
        have f9 := hT2.frozen HX.out 5
        rw [hAx, HS.out] at c9
        rw [hAx] at f9
        exact ⟨(World.cell?_of_block (a := ⟨a, 5, none⟩) e9).trans c9.2.2.2.2.2, (World.frozen?_of_block (a := ⟨a, 5, none⟩) e9).trans f9, m0, m1, m2, m3⟩
      unfold ptr at HC
      have hal : a < w1.heap.size := by rw [← hAx]; exact HT1.out.lt HX.out
      have hane : ¬ a = w1.heap.size := by omega
      have hane' : ¬ a = w1.heap.size + 1 := by omega
      have f1 : (w1.drew.alloc (.cells #[.string (lastB n.p), .int .i64 n.k, .string n.p, .string n.b, .int .i64 n.m, .slice none 0 0] 197)).cell? ⟨a, 5, none⟩ = some (.slice sA K.length cap) := (World.cell?_alloc_lt _ _ _ hal).trans c5
      have f2 := (hbW2.cell (p := ⟨a, 5, none⟩) hal).trans c5
      clear hown2 hvr hbr hT2 hsx
      by_cases hkK : k < K.length
      · have hless := HPS.out hkK
        rw [HL.out k hkK] at hless
        obtain ⟨g', rfl, hg', hcell⟩ := H.out (by omega)
        have d1 := hcell k hkK
        have d2 := HM.out k hkK
        unfold ptr at d1
        have hi1 : (k : Int) < (K.length : Int) := by omega
        have hi0 : (0 : Int) ≤ (k : Int) := by omega
        clear hcell
        go_wp2_with fail
        clear hbW2 c1 hb1 hb0 hcap HPL HPS HM HL H d1 d2 hless hi1 hi0 hi9 hw1
        go_region_with (first | (go_at_call 210; refine HC.mono ?_; rintro e w9 ⟨v', rfl, ho9, hg9, hw9⟩; have HF9 := Lib.hid (HFIN.out (.returned (.tuple #[])) w9 v' ⟨_, rfl⟩ ho9 hg9 hw9); obtain ⟨hc9, hf9, m0, m1, m2, m3⟩ := HA9.out w9 hg9; obtain ⟨vA, vc, rfl⟩ := own_form ho9; clear ho9 hg9 hw9))
        all_goals (go_wp2; go_end0; exact HF9.out)
      · have hkK' : k = K.length := by omega
        subst hkK'
        have hi1 : ¬ ((K.length : Int) < (K.length : Int)) := by omega
        go_wp2_with fail
        clear hbW2 c1 hb1 hb0 hcap HPL HPS HM HL H hi1 hi9 hw1
        go_region_with (first | (go_at_call 210; refine HC.mono ?_; rintro e w9 ⟨v', rfl, ho9, hg9, hw9⟩; have HF9 := Lib.hid (HFIN.out (.returned (.tuple #[])) w9 v' ⟨_, rfl⟩ ho9 hg9 hw9); obtain ⟨hc9, hf9, m0, m1, m2, m3⟩ := HA9.out w9 hg9; obtain ⟨vA, vc, rfl⟩ := own_form ho9; clear ho9 hg9 hw9))
        all_goals (go_wp2; go_end0; exact HF9.out)
end Go.Proofs.YtibekkfbpmloiabGreatDoor.Recs

/- Growing a tree: what it comes to, plain; a node's own check, of the program. -/
namespace Go.Proofs.YtibekkfbpmloiabGreatDoor.Recs
set_option maxRecDepth 100000
open Go.RowKit Paths Errs

theorem blocked_code {t : List R} {q : ByteArray} (h : recAt t q = none) : (findT t q).2 = if blocked t q then 13 else 5 := by unfold findT; rw [h]
theorem place_ok {t : List R} {q : ByteArray} (h : placeC t q = 0) : recAt t q = none ∧ blocked t q = false ∧ (parO q = ByteArray.empty ∨ ∃ x, recAt t (parO q) = some x) := by
  unfold placeC at h
  split at h
  · omega
  · rename_i h0
    have hn : recAt t q = none := by
      cases hr : recAt t q with
      | none => rfl
      | some r => exact absurd (findT_zero.2 (by rw [hr]; rfl)) h0
    split at h
    · omega
    · rename_i h1
      have hb : blocked t q = false := by
        rw [blocked_code hn] at h1
        cases hb : blocked t q with
        | false => rfl
        | true => rw [hb] at h1; exact absurd rfl h1
      split at h
      · rename_i h2
        refine ⟨hn, hb, h2.imp id fun h3 => ?_⟩
        exact Option.isSome_iff_exists.1 h3
      · omega
theorem place_of {t : List R} {q : ByteArray} (h1 : recAt t q = none) (h2 : blocked t q = false) (h3 : parO q = ByteArray.empty ∨ ∃ x, recAt t (parO q) = some x) : placeC t q = 0 := by
  unfold placeC
  rw [blocked_code h1, h2, if_neg (by decide), if_neg (by decide), if_pos]
  exact h3.imp id fun ⟨x, hx⟩ => by rw [hx]; rfl
theorem place_home {t : List R} {q : ByteArray} (hq : pathB q.data.toList = true) (h : placeC t q = 0) : (∃ x ∈ rootR :: t, x.p = parO q) ∧ (parentL q.data.toList ≠ [] → ∃ x ∈ t, x.p = parO q ∧ x.k = 3) := by
  obtain ⟨_, hb, hp⟩ := place_ok h
  constructor
  · rcases hp with hp | ⟨x, hx⟩
    · exact ⟨rootR, root_mem, hp.symm⟩
    · exact ⟨x, List.mem_cons_of_mem _ (recAt_mem hx).1, (recAt_mem hx).2⟩
  · intro hne
    rcases hp with hp | ⟨x, hx⟩
    · exact absurd (parO_empty.1 hp) hne
    · refine ⟨x, (recAt_mem hx).1, (recAt_mem hx).2, ?_⟩
      by_cases hk : x.k = 3
      · exact hk
      · have : blocked t q = true := blocked_iff.2 ⟨parO q, by rw [ups_step hq, if_neg hne]; exact List.mem_cons_self .., x, hx, hk⟩
        rw [hb] at this; cases this
theorem put_last {T : List R} {n : R} (h : ∀ x ∈ T, lessR x n = true) : putL T n = T ++ [n] := by
  unfold putL
  rw [List.filter_eq_self.2 h, List.filter_eq_nil_iff.2 (fun x hx => by rw [lessR_asymm (h x hx)]; decide)]
theorem less_all {T : List R} (hs : Sorted T) {n y : R} (hy : T.getLast? = some y) (h : lessR y n = true) : ∀ x ∈ T, lessR x n = true := by
  intro x hx
  obtain ⟨ys, rfl⟩ := List.getLast?_eq_some_iff.1 hy
  rcases List.mem_append.1 hx with hx | hx
  · exact lessR_trans ((sorted_snoc hs).2 x hx) h
  · rw [List.mem_singleton.1 hx]; exact h
theorem take_last {l : List R} {i : Nat} (h0 : 0 < i) (hi : i ≤ l.length) : (l.take i).getLast? = some (l[i - 1]'(by omega)) := by
  rw [List.getLast?_eq_getElem?, List.length_take, Nat.min_eq_left hi, List.getElem?_take, if_pos (by omega), List.getElem?_eq_getElem]
/-- One node more. -/
theorem grow_good {l : List R} {i : Nat} (hi : i < l.length) (hT : Tree (l.take i)) (h24 : l.length ≤ 24) (hless : i = 0 ∨ ∃ h : 0 < i, lessB (l[i - 1]'(by omega)).p l[i].p = true) (hk : l[i].k ≠ 4) (hf : l[i].fault = 0) (hp : placeC (l.take i) l[i].p = 0) :
    Tree (l.take (i + 1)) ∧ putL (l.take i) l[i] = l.take (i + 1) := by
  have hq := (fault_path hf).1
  have hall : ∀ x ∈ l.take i, lessR x l[i] = true := by
    rcases hless with rfl | ⟨h0, hl⟩
    · intro x hx; simp at hx
    · refine less_all hT.sorted (take_last h0 (by omega)) ?_
      unfold lessB at hl
      rw [Bool.and_eq_true] at hl
      exact hl.2
  have e := put_last hall
  have e2 : l.take (i + 1) = l.take i ++ [l[i]] := by rw [List.take_add_one, List.getElem?_eq_getElem hi]; rfl
  have := put_tree hT hk hf (place_ok hp).1 (place_home hq hp).2 (by rw [List.length_take]; omega)
  rw [e] at this
  rw [e2]
  exact ⟨this, e⟩
/-- In a tree, each node finds its place. -/
theorem grow_all {l : List R} (h : Tree l) {i : Nat} (hi : i < l.length) : (i = 0 ∨ ∃ h : 0 < i, lessB (l[i - 1]'(by omega)).p l[i].p = true) ∧ l[i].k ≠ 4 ∧ l[i].fault = 0 ∧ placeC (l.take i) l[i].p = 0 := by
  have hm := List.getElem_mem hi
  have hq := (fault_path (h.fault _ hm)).1
  refine ⟨?_, h.kind _ hm, h.fault _ hm, place_of ?_ ?_ ?_⟩
  · rcases Nat.eq_zero_or_pos i with h0 | h0
    · exact .inl h0
    · refine .inr ⟨h0, ?_⟩
      have h1 := (fault_path (h.fault _ (List.getElem_mem (show i - 1 < l.length by omega)))).1
      rw [lessB_yes h1 hq]
      exact sorted_get h.sorted hi (by omega)
  · cases hr : recAt (l.take i) l[i].p with
    | none => rfl
    | some r =>
      obtain ⟨h1, h2⟩ := recAt_mem hr
      obtain ⟨k, hk, rfl⟩ := List.getElem_of_mem h1
      rw [List.length_take] at hk
      have := sorted_once h.sorted (show k < l.length by omega) hi (by simpa using h2)
      omega
  · rw [Bool.eq_false_iff]
    intro hb
    obtain ⟨a, ha, r, hr, hk⟩ := blocked_iff.1 hb
    obtain ⟨n, hn, hnp, hnk⟩ := housed_ups h.housed hq _ hm rfl a ha
    obtain ⟨h1, h2⟩ := recAt_mem hr
    have := sorted_mem_once h.sorted (List.mem_of_mem_take h1) hn (h2.trans hnp.symm)
    subst this
    exact hk hnk
  · by_cases hp : parO l[i].p = ByteArray.empty
    · exact .inl hp
    · right
      have hpn : parentL l[i].p.data.toList ≠ [] := fun e => hp (parO_empty.2 e)
      obtain ⟨x, hx, hxp, _⟩ := h.housed _ hm hpn
      obtain ⟨k, hk, rfl⟩ := List.getElem_of_mem hx
      have hki : k < i := by
        rcases Nat.lt_trichotomy k i with h1 | h1 | h1
        · exact h1
        · subst h1
          have h2 := parent_less hq hpn
          rw [← hxp, lessP_irrefl] at h2
          cases h2
        · have h2 := parent_less hq hpn
          have h3 := sorted_get h.sorted hk h1
          unfold lessR at h3
          rw [hxp, lessP_asymm _ _ h2] at h3
          cases h3
      have hmk : l[k] ∈ l.take i := List.mem_take_iff_getElem.2 ⟨k, by omega, rfl⟩
      have hst : Sorted (l.take i) := List.Pairwise.sublist (List.take_sublist _ _) h.sorted
      exact ⟨_, by rw [← hxp]; exact recAt_of hst hmk⟩
theorem tree_nil : Tree ([] : List R) := ⟨by simp, fun r hr => (by cases hr), fun r hr => (by cases hr), List.Pairwise.nil, fun r hr => (by cases hr)⟩

/-- The record of a node, of the program. -/
theorem recordOfNode_any (n : R) (ho : n.o = false) (w : World) :
    Calls Tryz.prog 134 #[n.nod] w fun e w' => e = .returned n.val ∧ Below w.heap.size w w' := by
  unfold R.nod R.val
  rw [ho]
  go_enter Tryz.func134, Tryz.ntmps134
  go_wp2_with fail
  refine bodyPost_ret (v := .agg #[.int .i64 n.k, .string n.p, .string n.b, .int .i64 n.m, .bool false]) (by simp [results, Tryz.results134, go_sem]) rfl ⟨rfl, ?_⟩
  exact ((Below.refl _ _).alloc (Nat.le_refl _) _).alloc (by simp) _

/-- What checkNode answers. -/
def nodeK (n : R) : Bool := decide (n.k ≠ 4) && (n.fault == 0)
def nodeV (n : R) (y : Addr) : Value := if nodeK n then .nilIface else errV y
theorem checkNode_any (n : R) (ho : n.o = false) (hp : n.p.size ≤ maxLen) (x y : Addr) (w : World) (hT : Three w x y) :
    Calls Tryz.prog 186 #[n.nod] w fun e w' => e = .returned (nodeV n y) ∧ Below w.heap.size w w' := by
  have hb0 : Below w.heap.size w (w.alloc (.cells #[.int .i64 n.k, .string n.p, .string n.b, .int .i64 n.m] 68)) := (Below.refl _ _).alloc (Nat.le_refl _) _
  have hT0 := hT.below hb0 (Nat.le_refl _)
  have HR := recordOfNode_any n ho (w.alloc (.cells #[.int .i64 n.k, .string n.p, .string n.b, .int .i64 n.m] 68))
  unfold R.nod R.val at HR
  rw [ho] at HR
  unfold R.nod
  by_cases h4 : n.k = 4
  · have HE : Hid (nodeK n = false) := by show _ = _; unfold nodeK; simp [h4]
    have hd : (n.k == 4) = true := by simpa using h4
    have hy := hT0.bad
    unfold errV at hy
    clear h4
    go_enter Tryz.func186, Tryz.ntmps186
    go_wp2_with fail
    go_ret
    exact ⟨by unfold nodeV; rw [HE.out]; rfl, hb0⟩
  · have hd : (n.k == 4) = false := by simpa using h4
    have HE : Hid (nodeK n = (faultI n.k n.p.data.toList n.b.size n.m false == 0)) := by show _ = _; unfold nodeK R.fault; rw [decide_eq_true h4, ho]; rfl
    clear h4 ho
    go_enter Tryz.func186, Tryz.ntmps186
    go_wp2_with fail
    refine HR.mono ?_
    rintro e w1 ⟨rfl, hb1⟩
    have c1 := hb0.trans (hb1.mono hb0.size)
    have hT1 := hT.below c1 (Nat.le_refl _)
    go_wp2_with fail
    refine (recordOK_impl n.k n.m n.p n.b false _ hp hT1.tab).mono ?_
    rintro e w2 ⟨rfl, hb2⟩
    have c2 := c1.trans (hb2.mono c1.size)
    have hy := (hT.below c2 (Nat.le_refl _)).bad
    unfold errV at hy
    rcases Bool.eq_false_or_eq_true (faultI n.k n.p.data.toList n.b.size n.m false == 0) with hf | hf
    · rw [hf] at HE ⊢
      go_wp2_with fail
      go_ret
      exact ⟨by unfold nodeV; rw [HE.out]; rfl, c2⟩
    · rw [hf] at HE ⊢
      go_wp2_with fail
      go_ret
      exact ⟨by unfold nodeV; rw [HE.out]; rfl, c2⟩
end Go.Proofs.YtibekkfbpmloiabGreatDoor.Recs
