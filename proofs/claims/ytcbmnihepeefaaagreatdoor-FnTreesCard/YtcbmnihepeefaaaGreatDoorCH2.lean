/- Parts of several texts of mine in one file (each begins with its own remark). -/
import Derived.Test.YtcbmnihepeefaaaGreatDoorCA1
import Derived.Test.YtcbmnihepeefaaaGreatDoorCA10
import Derived.Test.YtcbmnihepeefaaaGreatDoorCA2
import Derived.Test.YtcbmnihepeefaaaGreatDoorCA3
import Derived.Test.YtcbmnihepeefaaaGreatDoorCA4
import Derived.Test.YtcbmnihepeefaaaGreatDoorCA5
import Derived.Test.YtcbmnihepeefaaaGreatDoorCA6
import Derived.Test.YtcbmnihepeefaaaGreatDoorCA7
import Derived.Test.YtcbmnihepeefaaaGreatDoorCA8
import Derived.Test.YtcbmnihepeefaaaGreatDoorCA9
import Derived.Test.YtcbmnihepeefaaaGreatDoorCB1
import Derived.Test.YtcbmnihepeefaaaGreatDoorCB11
import Derived.Test.YtcbmnihepeefaaaGreatDoorCB3
import Derived.Test.YtcbmnihepeefaaaGreatDoorCB5
import Derived.Test.YtcbmnihepeefaaaGreatDoorCB9
import Derived.Test.YtcbmnihepeefaaaGreatDoorCH1
import Derived.Test.YtcbmnihepeefaaaGreatDoorChecked
import Derived.Test.YtcbmnihepeefaaaGreatDoorRows
import Derived.Test.YtcbmnihepeefaaaGreatDoorProg
import Derived.Test.YtcbmnihepeefaaaGreatDoorShelf
import Derived.StillTailTactics
import Derived.Deep.RegionWith
import Derived.OneCell
import Derived.Lib.SliceRun
import Derived.Laws.OwnMore
import Derived.Deep.Slices
import Derived.OpenShut
import Derived.ShutString
import Derived.ChangeArms
import Derived.WideShapes
import Derived.Lib.LaidTab
import Derived.BigQuiet
import Derived.Deep.QuietTactic
import Derived.Deep.RegionHeld3
import Derived.Deep.Draws
import Derived.Deep.LoopGhost
import Derived.WalkKit
import Derived.WalkSpells
import Derived.WalkSmall
import Derived.Lib.OthersKept
import Derived.Lib.Hide
import Derived.Lib.Strings
import Derived.Lib.Join
import Derived.Laws.BytesArg
import Derived.BigRegion
import Derived.Lib.Overlaps
import Derived.Lib.AppendZerosOnto
import Derived.Laws.NewBlocks
import Derived.Laws.IdiomCopy
import Derived.Deep.RegionLaw
import Derived.ChangeVars
import Derived.Deep.DeepHandedRow
import Derived.LaidEql
import Derived.Stop.Asserts
import Derived.Below
import Derived.Stop.LaidErr
import Derived.Stop.LaidTwo
import Derived.WalkLawsBesides
/- A tree in memory: its nodes as a list, its nodes as records (nodes, of the program; what LayerOfTree hands to each). -/
namespace Go.Proofs.YtcbmnihepeefaaaGreatDoor.Recs
set_option maxRecDepth 100000
open Go.RowKit Paths

theorem typeN1 : (29 : TypeId) ≠ 103 := by decide
theorem typeN2 : (29 : TypeId) ≠ 172 := by decide
theorem typeN3 : (29 : TypeId) ≠ 23 := by decide
theorem typeR1 : (26 : TypeId) ≠ 103 := by decide
theorem typeR2 : (26 : TypeId) ≠ 172 := by decide
theorem typeR3 : (26 : TypeId) ≠ 45 := by decide
theorem own_not {w : World} {base : Nat} {e e' : TypeId} {size : Nat} {v : Value} {m : Nat} {xs : List Value} (h : w.ownsRow base e size v m xs) (he : e ≠ e') {g : Nat} {cur : Array Value} {fz : Nat × Nat} (hg : w.heap[g]? = some (.cells cur e' fz)) : v.ownBlock ≠ some g := fun e0 => by
  rcases h.2 with ⟨rfl, _⟩ | ⟨g', cap, cur', rfl, _, hh, _⟩
  · cases e0
  · cases e0
    rw [hg] at hh
    simp only [Option.some.injEq, Obj.cells.injEq] at hh
    exact he hh.2.1.symm

theorem block_cell {w : World} {g : Nat} {u : Value} {e : TypeId} (h : w.heap[g]? = some (.cells #[u] e (0, 0))) : w.cell? ⟨g, 0, none⟩ = some u ∧ w.frozen? ⟨g, 0, none⟩ = false := by
  constructor
  · unfold World.cell?; simp only [h]; rfl
  · unfold World.frozen?; simp only [h]; simp
set_option maxHeartbeats 1600000 in
theorem nodes1_any {w0 : World} {D V : Value} {acc : List R} {w : World} (r : R) (hro : r.o = false) (hacc : acc.length ≤ 1000) (h : Gath w0 D V acc w) :
    Calls Tryz.prog 174 #[r.nod, ptr w0.heap.size] w fun e w' => (∃ v, e = .returned v) ∧ Gath w0 D V (acc ++ [r]) w' := by
  obtain ⟨i0, hi, hI0, hI1, hI2⟩ := info_parts nodInfo
  obtain ⟨hb, ⟨v, hlist, hrow⟩, hcd, hcv⟩ := h
  have hlt : w0.heap.size < w.heap.size := (Array.getElem?_eq_some_iff.1 hlist).1
  have hlt1 : w0.heap.size + 1 < w.heap.size := (Array.getElem?_eq_some_iff.1 hcd).1
  have hlt2 : w0.heap.size + 2 < w.heap.size := (Array.getElem?_eq_some_iff.1 hcv).1
  obtain ⟨hc0, hf0⟩ := block_cell hlist
  have hbA : Below w.heap.size w (w.alloc (.cells #[.int .i64 r.k, .string r.p, .string r.b, .int .i64 r.m] 29)) := (Below.refl _ _).alloc (Nat.le_refl _) _
  have hbB : Below w.heap.size w ((w.alloc (.cells #[.int .i64 r.k, .string r.p, .string r.b, .int .i64 r.m] 29)).alloc (.cells #[.int .i64 r.k, .string r.p, .string r.b, .int .i64 r.m] 29)) := hbA.alloc (by simp) _
  have hr3 := (hrow.below hbB).2.1
  have hnews := nodR_cells_new (w.alloc (.cells #[.int .i64 r.k, .string r.p, .string r.b, .int .i64 r.m] 29)) r 29
  have hone := nodR_one r
  have hbz : w0.heap.size ≤ ((w.alloc (.cells #[.int .i64 r.k, .string r.p, .string r.b, .int .i64 r.m] 29)).alloc (.cells #[.int .i64 r.k, .string r.p, .string r.b, .int .i64 r.m] 29)).heap.size := Nat.le_trans (Nat.le_of_lt hlt) hbB.size
  have c2 := (hbA.cell (p := ⟨w0.heap.size, 0, none⟩) hlt).trans hc0
  have c3 := (hbB.cell (p := ⟨w0.heap.size, 0, none⟩) hlt).trans hc0
  have hnl := own_not hrow.2.1 typeN3 hlist
  have hnd := own_not hrow.2.1 typeN1 hcd
  have hnv := own_not hrow.2.1 typeN2 hcv
  obtain ⟨sA, cap, rfl⟩ := own_form hrow.2.1
  have HFIN : Hid (∀ v' w9, w9.ownsRow w0.heap.size 29 4 v' (acc.length + 1) (flatN acc ++ r.ns) →
      ((w.alloc (.cells #[.int .i64 r.k, .string r.p, .string r.b, .int .i64 r.m] 29)).alloc (.cells #[.int .i64 r.k, .string r.p, .string r.b, .int .i64 r.m] 29)).grownBy w9 (Value.slice sA acc.length cap).ownBlock →
      Gath w0 D V (acc ++ [r]) (w9.setCell ⟨w0.heap.size, 0, none⟩ v') ∧ w9.cell? ⟨w0.heap.size, 0, none⟩ = some (.slice sA acc.length cap) ∧ w9.frozen? ⟨w0.heap.size, 0, none⟩ = false) := by
    intro v' w9 ho hg
    have hle : w.heap.size ≤ _ := hbB.size
    have k1 := (hg.block w0.heap.size (Nat.lt_of_lt_of_le hlt hle) (fun e => hnl e.symm)).trans ((hbB.block _ hlt).trans hlist)
    have k2 := (hg.block (w0.heap.size + 1) (Nat.lt_of_lt_of_le hlt1 hle) (fun e => hnd e.symm)).trans ((hbB.block _ hlt1).trans hcd)
    have k3 := (hg.block (w0.heap.size + 2) (Nat.lt_of_lt_of_le hlt2 hle) (fun e => hnv e.symm)).trans ((hbB.block _ hlt2).trans hcv)
    have hne := own_not ho typeN3 k1
    have hcb := (hb.trans (hbB.mono hb.size)).grown hg hbz (fun j hj => (hrow.2.1.lt j hj).1)
    refine ⟨⟨hcb.setCell (Nat.le_refl _) _, ⟨v', ?_, ?_⟩, ?_, ?_⟩, (block_cell k1).1, (block_cell k1).2⟩
    · have := setCell_block k1 0 v'
      rw [this]
      rfl
    · have := rowN_snoc ho hrow.2.2 hro
      exact ⟨this.1, ownsRow_setCell_other this.2.1 hne _, this.2.2⟩
    · rw [Below.heap_setCell _ _ _ _ (by simp)]; exact k2
    · rw [Below.heap_setCell _ _ _ _ (by simp)]; exact k3
  unfold ptr R.nod
  clear hlist hcd hcv hnl hnd hnv
  go_enter Tryz.func174, Tryz.ntmps174
  go_wp2_with (first
    | (at_builtin; refine wpList_append_own _ rfl _ _ 23 rfl w0.heap.size 29 i0 (.agg #[.int .i64 0, .string ByteArray.empty, .string ByteArray.empty, .int .i64 0]) 4 48 Tryz.underlying23 hi hI0 hI1 hI2 rfl (by decide) _ _ _ rfl hr3 ⟨w.heap.size + 1, 0, none⟩ 1 1 (R.ns r) rfl rfl (by simpa using hnews) hone (by unfold maxLen; omega) (by omega) hbz ?_; intro v' w9 hown' hgrow9 hnil9; obtain ⟨HG9, hc9, hf9⟩ := HFIN.out v' w9 hown' hgrow9; have HGH := Lib.hid HG9; obtain ⟨vA, vc, rfl⟩ := own_form hown'; clear hown' hgrow9 HG9 hnil9))
  go_end0
  exact ⟨⟨_, rfl⟩, HGH.out⟩
end Go.Proofs.YtcbmnihepeefaaaGreatDoor.Recs

/- Trees: resolving a path, of the model; the code of a call's arguments, of the model. -/
namespace Go.Proofs.YtcbmnihepeefaaaGreatDoor.Recs
set_option maxRecDepth 100000
open Go.RowKit Paths

/-- What resolving has before the i-th part. -/
def preP (q : ByteArray) (i : Nat) : ByteArray := if i = 0 then ⟨#[]⟩ else pre q (i - 1)
theorem preP_zero (q : ByteArray) : preP q 0 = ⟨#[]⟩ := rfl
theorem preP_succ (q : ByteArray) (i : Nat) : preP q (i + 1) = pre q i := rfl
theorem pre_zero {q : ByteArray} (h : 0 < (cutAt 47 q.data.toList).length) : pre q 0 = ⟨((cutAt 47 q.data.toList)[0]).toArray⟩ := by
  apply bytes_ext2
  rw [pre_data]
  match cutAt 47 q.data.toList, h with
  | x :: t, _ => simp [Lib.join]
where bytes_ext2 {a b : ByteArray} (h : a.data.toList = b.data.toList) : a = b := ByteArray.ext (Array.toList_inj.1 h)
theorem pre_succ {q : ByteArray} {i : Nat} (h : i + 1 < (cutAt 47 q.data.toList).length) : (pre q i).data.toList ++ 47 :: (cutAt 47 q.data.toList)[i + 1] = (pre q (i + 1)).data.toList := by
  rw [pre_data, pre_data, List.take_add_one (i := i + 1), List.getElem?_eq_getElem h]
  simp only [Option.toList]
  rw [join_snoc]
  intro e
  have := congrArg List.length e
  rw [List.length_take, List.length_nil] at this
  omega
theorem pre_size {q : ByteArray} (h : pathB q.data.toList = true) (i : Nat) : 0 < (pre q i).size ∧ (pre q i).size ≤ 35 := by
  have h1 := pre_path h i
  constructor
  · rw [Lib.size_eq]
    have := pathB_ne h1
    exact List.length_pos_iff.2 this
  · rw [Lib.size_eq]
    exact pathB_len h1

/-- One part more, joined on. -/
theorem join_step (q : ByteArray) (hq : pathB q.data.toList = true) (i : Nat) (hi : i < (cutAt 47 q.data.toList).length) (w : World) :
    Calls Tryz.prog 178 #[.string (preP q i), .string ⟨((cutAt 47 q.data.toList)[i]).toArray⟩] w fun e w' => e = .returned (.string (pre q i)) ∧ w = w' := by
  match i, hi with
  | 0, hi =>
    rw [preP_zero]
    refine (l01Join_root _ _ w rfl).mono ?_
    rintro e w1 ⟨rfl, rfl⟩
    exact ⟨by rw [pre_zero hi]; rfl, rfl⟩
  | i + 1, hi =>
    rw [preP_succ]
    obtain ⟨h1, h2⟩ := pre_size hq i
    have hp := (pathB_parts hq).2
    have h3 := List.all_eq_true.1 hp _ (List.getElem_mem hi)
    have h4 : (⟨((cutAt 47 q.data.toList)[i + 1]).toArray⟩ : ByteArray).size ≤ 8 := by
      rw [Lib.size_eq]
      exact (partB_len h3).2
    refine (l01Join_deep _ _ w h1 (by omega) (by omega)).mono ?_
    rintro e w1 ⟨rfl, rfl⟩
    refine ⟨?_, rfl⟩
    unfold strV
    rw [show (⟨((cutAt 47 q.data.toList)[i + 1]).toArray⟩ : ByteArray).data.toList = (cutAt 47 q.data.toList)[i + 1] from rfl, pre_succ hi]

def foundV (t : List R) (q : ByteArray) : Value := .tuple #[(findT t q).1.nod, .int .i64 (findT t q).2]
theorem findFrom_none {t : List R} {q : ByteArray} {i : Nat} (hi : i < nparts q) (h : atL t (pre q i) = -1) : findFrom t q i = (⟨0, 0, ByteArray.empty, ByteArray.empty, false⟩, 5) := by
  rw [findFrom, if_pos hi, if_pos (by rw [h]; decide)]
theorem findFrom_last {t : List R} {q : ByteArray} {i k : Nat} (hi : i + 1 = nparts q) (hk : k < t.length) (h : atL t (pre q i) = (k : Int)) : findFrom t q i = (t[k], 0) := by
  rw [findFrom, if_pos (by omega), if_neg (by omega), if_pos hi, h, Int.toNat_natCast, List.getElem?_eq_getElem hk]
  rfl
theorem findFrom_way {t : List R} {q : ByteArray} {i k : Nat} (hi : i + 1 < nparts q) (hk : k < t.length) (h : atL t (pre q i) = (k : Int)) (h3 : t[k].k ≠ 3) : findFrom t q i = (⟨0, 0, ByteArray.empty, ByteArray.empty, false⟩, 13) := by
  rw [findFrom, if_pos (by omega), if_neg (by omega), if_neg (by omega), h, Int.toNat_natCast, List.getElem?_eq_getElem hk, if_pos (by simpa using h3)]
theorem findFrom_on {t : List R} {q : ByteArray} {i k : Nat} (hi : i + 1 < nparts q) (hk : k < t.length) (h : atL t (pre q i) = (k : Int)) (h3 : t[k].k = 3) : findFrom t q i = findFrom t q (i + 1) := by
  rw [findFrom, if_pos (by omega), if_neg (by omega), if_neg (by omega), h, Int.toNat_natCast, List.getElem?_eq_getElem hk, if_neg (by simpa using h3)]

set_option maxHeartbeats 1600000 in
theorem l04Find_any (v : Value) (l : List R) (q : ByteArray) (w : World) (h : NodSl w v l) (hl : l.length ≤ 1048576) (ht : IsTree l) (hq : pathB q.data.toList = true) :
    Calls Tryz.prog 97 #[v, .string q] w fun e w' => e = .returned (foundV l q) ∧ Below w.heap.size w w' := by
  have hb0 : Below w.heap.size w (w.alloc (.cells #[.int .i64 0, .string ByteArray.empty, .string ByteArray.empty, .int .i64 0] 29)) := (Below.refl _ _).alloc (Nat.le_refl _) _
  have hsz : q.size ≤ 35 := by rw [Lib.size_eq]; exact pathB_len hq
  have hsl := h
  obtain ⟨ho, sA, cap, rfl, hcap, h⟩ := h
  have H := Lib.hid h
  have HSl := Lib.hid hsl
  have HF0 : Hid (findT l q = findFrom l q 0) := (find_is ht hq).symm
  have HN : Hid (nparts q = (cutAt 47 q.data.toList).length) := rfl
  have h4 := (pathB_parts hq).1
  clear h hsl ht
  go_enter Tryz.func97, Tryz.ntmps97
  go_wp2_with fail
  refine (l00Cut_any q 47 47 rfl _ (by omega)).mono ?_
  rintro e w1 ⟨v1, rfl, hb1, hown⟩
  have hv := part_sl hown
  obtain ⟨pA, pc, rfl, hpc, hpv⟩ := hv
  have HP : Hid (0 < (cutAt 47 q.data.toList).length → ∃ g, pA = some ⟨g, 0, none⟩ ∧ ∀ i x, (cutAt 47 q.data.toList)[i]? = some x → w1.cell? ⟨g, i, none⟩ = some (strV x)) := fun h0 => by
    obtain ⟨g, e, _, hc⟩ := hpv h0
    exact ⟨g, e, fun i x hx => by obtain ⟨hi, rfl⟩ := List.getElem?_eq_some_iff.1 hx; exact hc i hi⟩
  have c1 := hb0.trans (hb1.mono hb0.size)
  have hz1 : w.heap.size < w1.heap.size := by have := hb1.size; simp at this; omega
  have hc1 := fun o => (bcell hb1).1 w.heap.size o (by simp)
  have hf1 := fun o => (bcell hb1).2 w.heap.size o (by simp)
  clear hpv hown
  generalize hL : (cutAt 47 q.data.toList).length = L at *
  go_wp2
  go_loop [7, 8] (fun p i => ∃ k : Nat, k ≤ L ∧ i = .int .i64 k ∧ p = .string (preP q k) ∧ Hid (findT l q = findFrom l q k)) (fun _ i => L - (intOf i).toNat)
  case atStart => exact ⟨0, by omega, rfl, rfl, HF0⟩
  case round =>
    obtain ⟨k, hk, rfl, rfl, HK⟩ := hrel
    have hnl := HN.out
    by_cases hlt : k < L
    · obtain ⟨g, rfl, hcell⟩ := HP.out (by omega)
      have e1 := hcell k _ (List.getElem?_eq_getElem (by omega))
      have HJ := join_step q hq k (by omega) w1
      unfold strV at e1
      have hi1 : (k : Int) < (L : Int) := by omega
      have hi0 : (0 : Int) ≤ (k : Int) := by omega
      clear hcell
      go_wp2_with fail
      refine HJ.mono ?_
      rintro e w2 ⟨rfl, rfl⟩
      go_wp2_with fail
      refine (l04At_any _ l _ _ (HSl.out.below c1) hl).mono ?_
      rintro e w3 ⟨rfl, rfl⟩
      rcases atL_cases l (pre q k) with ⟨ha, -⟩ | ⟨j, hj, ha, -⟩
      · have HE := Lib.hid (HK.out.trans (findFrom_none (by omega) ha))
        rw [ha]
        go_wp2_with fail
        refine bodyPost_ret (v := .tuple #[.agg #[.int .i64 0, .string ⟨#[]⟩, .string ⟨#[]⟩, .int .i64 0], .int .i64 5]) (by simp [results, Tryz.results97, go_sem, hc1]) rfl ⟨by unfold foundV; rw [HE.out]; rfl, ?_⟩
        repeat (refine Below.setCell ?_ (by simp) _)
        exact c1
      · obtain ⟨b, off, rfl, hb, hcl⟩ := H.out (by omega)
        obtain ⟨f0, f1, f2, f3⟩ := (hcl j l[j] (by simp [hj])).below c1 hb
        have j1 : (0 : Int) ≤ (j : Int) := by omega
        have j2 : (j : Int) < (l.length : Int) := by omega
        have j3 : decide ((j : Int) < 0) = false := by simp
        rw [ha]
        clear hcl
        by_cases hla : k + 1 = L
        · have HE := Lib.hid (HK.out.trans (findFrom_last (by omega) hj ha))
          have hd : ((k : Int) == (L : Int) - 1) = true := by simp; omega
          clear ha
          go_wp2_with fail
          refine bodyPost_ret (v := .tuple #[.agg #[.int .i64 l[j].k, .string l[j].p, .string l[j].b, .int .i64 l[j].m], .int .i64 0]) (by simp [results, Tryz.results97, go_sem, hc1]) rfl ⟨by unfold foundV; rw [HE.out]; rfl, ?_⟩
          repeat (refine Below.setCell ?_ (by simp) _)
          exact c1
        · have hd : ((k : Int) == (L : Int) - 1) = false := by simp; omega
          by_cases h3 : l[j].k = 3
          · have HE := Lib.hid (HK.out.trans (findFrom_on (by omega) hj ha h3))
            have hd3 : (l[j].k != 3) = false := by simpa using h3
            clear ha h3
            go_wp2_with fail
            exact ⟨⟨k + 1, by omega, by go_num, rfl, HE⟩, by simp [intOf]; omega⟩
          · have HE := Lib.hid (HK.out.trans (findFrom_way (by omega) hj ha h3))
            have hd3 : (l[j].k != 3) = true := by simpa using h3
            clear ha h3
            go_wp2_with fail
            refine bodyPost_ret (v := .tuple #[.agg #[.int .i64 0, .string ⟨#[]⟩, .string ⟨#[]⟩, .int .i64 0], .int .i64 13]) (by simp [results, Tryz.results97, go_sem, hc1]) rfl ⟨by unfold foundV; rw [HE.out]; rfl, ?_⟩
            repeat (refine Below.setCell ?_ (by simp) _)
            exact c1
    · have hpos := nparts_pos q
      have HE : Hid (findT l q = (⟨0, 0, ByteArray.empty, ByteArray.empty, false⟩, 5)) := by show _ = _; rw [HK.out, findFrom, if_neg (by omega)]
      have hi1 : ¬ ((k : Int) < (L : Int)) := by omega
      go_wp2_with fail
      refine bodyPost_ret (v := .tuple #[.agg #[.int .i64 0, .string ⟨#[]⟩, .string ⟨#[]⟩, .int .i64 0], .int .i64 5]) (by simp [results, Tryz.results97, go_sem, hc1]) rfl ⟨by unfold foundV; rw [HE.out]; rfl, ?_⟩
      repeat (refine Below.setCell ?_ (by simp) _)
      exact c1
end Go.Proofs.YtcbmnihepeefaaaGreatDoor.Recs

/- Trees, of the program: TreeOK; the code of the errors of a call's arguments (a tree's, a text's, a node's). Conditions: the table of kinds, the two sentinels. -/
namespace Go.Proofs.YtcbmnihepeefaaaGreatDoor.Recs
set_option maxRecDepth 100000
open Go.RowKit Paths Errs

theorem grow_ok {l : List R} : growK l = .fine ↔ treeOK l = true := by
  constructor
  · intro h
    unfold growK at h
    split at h
    · cases h
    · split at h
      · assumption
      · cases h
  · intro h
    exact grow_fine (tree_of h)
theorem grow_not {l : List R} (h : growK l ≠ .fine) : treeOK l = false := by
  rw [Bool.eq_false_iff]
  exact fun e => h (grow_ok.2 e)

set_option maxHeartbeats 1000000 in
theorem treeOK_impl (v : Value) (l : List R) (x y : Addr) (w : World) (h : NodSl w v l) (hl : l.length ≤ 1048576) (hr : ∀ r ∈ l, r.p.size ≤ maxLen) (hT : Three w x y) :
    Calls Tryz.prog 16 #[v] w fun e w' => e = .returned (.bool (treeOK l)) ∧ Below w.heap.size w w' := by
  have HG := checkTree_any v l x y w h hl hr hT
  obtain ⟨ho, sA, cap, rfl, hcap, h⟩ := h
  clear h
  go_enter Tryz.func16, Tryz.ntmps16
  go_wp2_with fail
  refine HG.mono ?_
  rintro e w1 ⟨rfl, hb1⟩
  cases hg : growK l with
  | fine =>
    have HE := Lib.hid (grow_ok.1 hg)
    unfold EN.val
    go_wp2_with fail
    go_ret
    exact ⟨ret_bool HE.out.symm, hb1⟩
  | long =>
    have HE := Lib.hid (grow_not (l := l) (by rw [hg]; simp))
    unfold EN.val errV
    go_wp2_with fail
    go_ret
    exact ⟨ret_bool HE.out.symm, hb1⟩
  | inv =>
    have HE := Lib.hid (grow_not (l := l) (by rw [hg]; simp))
    unfold EN.val errV
    go_wp2_with fail
    go_ret
    exact ⟨ret_bool HE.out.symm, hb1⟩

/-- The code of a call's arguments' errors. -/
def enFrom : List EN → Int → Int
  | [], c => c
  | .fine :: t, c => enFrom t c
  | .long :: _, _ => 2
  | .inv :: t, _ => enFrom t 1
theorem en_end {L : List EN} {k : Nat} {c : Int} (h : L.length ≤ k) : enFrom (L.drop k) c = c := by rw [List.drop_eq_nil_of_le h]; rfl
theorem en_fine {L : List EN} {k : Nat} {c : Int} (h : k < L.length) (he : L[k] = .fine) : enFrom (L.drop k) c = enFrom (L.drop (k + 1)) c := by rw [List.drop_eq_getElem_cons h, he]; rfl
theorem en_long {L : List EN} {k : Nat} {c : Int} (h : k < L.length) (he : L[k] = .long) : enFrom (L.drop k) c = 2 := by rw [List.drop_eq_getElem_cons h, he]; rfl
theorem en_inv {L : List EN} {k : Nat} {c : Int} (h : k < L.length) (he : L[k] = .inv) : enFrom (L.drop k) c = enFrom (L.drop (k + 1)) 1 := by rw [List.drop_eq_getElem_cons h, he]; rfl

set_option maxHeartbeats 1600000 in
theorem argumentN_any (g : Nat) (L : List EN) (x y : Addr) (w : World) (hT : Three w x y) (hg : g < w.heap.size) (hn : L.length ≤ 1000) (hc : ∀ k (h : k < L.length), w.cell? ⟨g, k, none⟩ = some (L[k].val x y)) :
    Calls Tryz.prog 89 #[.slice (some ⟨g, 0, none⟩) L.length L.length] w fun e w' => e = .returned (.int .i64 (enFrom L 0)) ∧ Below w.heap.size w w' := by
  have HC := Lib.hid hc
  have HT := Lib.hid hT
  clear hc hT
  go_enter Tryz.func89, Tryz.ntmps89
  go_wp2
  go_loopw [3, 8] (fun c i wr => ∃ (k : Nat) (d : Int), k ≤ L.length ∧ i = .int .i64 k ∧ c = .int .i64 d ∧ Hid (enFrom L 0 = enFrom (L.drop k) d) ∧ Below w.heap.size w wr) (fun _ i _ => L.length - (intOf i).toNat)
  case atStart => exact ⟨0, 0, by omega, rfl, rfl, rfl, Below.refl _ _⟩
  case round =>
    obtain ⟨k, d, hk, rfl, rfl, HK, hbw⟩ := hrel
    by_cases hlt : k < L.length
    · have hcell : wr.cell? ⟨g, k, none⟩ = some (L[k].val x y) := (hbw.cell (p := ⟨g, k, none⟩) hg).trans (HC.out k hlt)
      have hTr := HT.out.below hbw (Nat.le_refl _)
      have hx := hTr.long
      have hy := hTr.bad
      have hi1 : (k : Int) < (L.length : Int) := by omega
      have hi0 : (0 : Int) ≤ (k : Int) := by omega
      cases hE : L[k] with
      | fine =>
        have HF := Lib.hid (HK.out.trans (en_fine hlt hE))
        rw [hE] at hcell
        unfold EN.val at hcell
        have H1 := is_nil x wr
        have H2 := is_nil y wr
        unfold errV at hx hy H1 H2
        go_wp2_with fail
        refine H1.mono ?_
        rintro e w1 ⟨rfl, rfl⟩
        go_wp2_with fail
        refine H2.mono ?_
        rintro e w2 ⟨rfl, rfl⟩
        go_wp2_with fail
        exact ⟨⟨k + 1, d, by omega, by go_num, rfl, HF, hbw⟩, by simp [intOf]; omega⟩
      | long =>
        have HF := Lib.hid (HK.out.trans (en_long hlt hE))
        rw [hE] at hcell
        unfold EN.val at hcell
        have H1 := is_same x wr
        unfold errV at hx hy H1 hcell
        go_wp2_with fail
        refine H1.mono ?_
        rintro e w1 ⟨rfl, rfl⟩
        go_wp2_with fail
        go_ret
        exact ⟨ret_int HF.out.symm, hbw⟩
      | inv =>
        have HF := Lib.hid (HK.out.trans (en_inv hlt hE))
        rw [hE] at hcell
        unfold EN.val at hcell
        obtain ⟨cx, tx, rx⟩ := hTr.rowx
        obtain ⟨cy, ty, ry⟩ := hTr.rowy
        have H1 := is_other y x _ _ _ _ wr (Ne.symm hTr.ne) ry rx
        have H2 := is_same y wr
        unfold errV at hx hy H1 H2 hcell
        go_wp2_with fail
        refine H1.mono ?_
        rintro e w1 ⟨rfl, rfl⟩
        go_wp2_with fail
        refine H2.mono ?_
        rintro e w2 ⟨rfl, rfl⟩
        go_wp2_with fail
        exact ⟨⟨k + 1, 1, by omega, by go_num, rfl, HF, hbw⟩, by simp [intOf]; omega⟩
    · have HE := Lib.hid (HK.out.trans (en_end (by omega)))
      go_wp2
      go_ret
      exact ⟨ret_int HE.out.symm, hbw⟩

/-- The arguments' errors, as the call of a variadic function lays them. -/
theorem argN2_any (a b : EN) (x y : Addr) (w : World) (hT : Three w x y) :
    Calls Tryz.prog 89 #[.slice (some ⟨w.heap.size, 0, none⟩) 2 2] (w.alloc (.cells #[a.val x y, b.val x y] 96)) fun e w' => e = .returned (.int .i64 (enFrom [a, b] 0)) ∧ Below w.heap.size w w' := by
  have hb0 : Below w.heap.size w (w.alloc (.cells #[a.val x y, b.val x y] 96)) := (Below.refl _ _).alloc (Nat.le_refl _) _
  have := argumentN_any w.heap.size [a, b] x y (w.alloc (.cells #[a.val x y, b.val x y] 96)) (hT.below hb0 (Nat.le_refl _)) (by simp) (by simp) (fun k hk => by
    have hk2 : k < 2 := hk
    match k, hk2 with
    | 0, _ => go_simp
    | 1, _ => go_simp)
  refine this.mono ?_
  rintro e w1 ⟨rfl, hb1⟩
  exact ⟨rfl, hb0.trans (hb1.mono hb0.size)⟩
theorem argN1_any (a : EN) (x y : Addr) (w : World) (hT : Three w x y) :
    Calls Tryz.prog 89 #[.slice (some ⟨w.heap.size, 0, none⟩) 1 1] (w.alloc (.cells #[a.val x y] 96)) fun e w' => e = .returned (.int .i64 (enFrom [a] 0)) ∧ Below w.heap.size w w' := by
  have hb0 : Below w.heap.size w (w.alloc (.cells #[a.val x y] 96)) := (Below.refl _ _).alloc (Nat.le_refl _) _
  have := argumentN_any w.heap.size [a] x y (w.alloc (.cells #[a.val x y] 96)) (hT.below hb0 (Nat.le_refl _)) (by simp) (by simp) (fun k hk => by
    have hk2 : k < 1 := hk
    match k, hk2 with
    | 0, _ => go_simp)
  refine this.mono ?_
  rintro e w1 ⟨rfl, hb1⟩
  exact ⟨rfl, hb0.trans (hb1.mono hb0.size)⟩

def textN (s : ByteArray) : EN := if 65536 < s.size then .long else .fine
theorem checkTextN_any (s : ByteArray) (x y : Addr) (w : World) (hx : w.cell? ⟨0, 0, none⟩ = some (errV x)) :
    Calls Tryz.prog 103 #[.string s] w fun e w' => e = .returned ((textN s).val x y) ∧ w = w' := by
  unfold errV at hx
  by_cases h : 65536 < s.size
  · have hd : decide ((65536 : Int) < (s.size : Int)) = true := by simp; omega
    have HE : Hid ((textN s).val x y = .iface 286 (.pointer (some x))) := by show _ = _; unfold textN; rw [if_pos h]; rfl
    go_enter Tryz.func103, Tryz.ntmps103
    go_wp2_with fail
    refine (longText_any s _).mono ?_
    rintro e w1 ⟨rfl, rfl⟩
    go_wp2_with fail
    go_ret
    exact ⟨by rw [HE.out]; rfl, rfl⟩
  · have hd : decide ((65536 : Int) < (s.size : Int)) = false := by simp; omega
    have HE : Hid ((textN s).val x y = .nilIface) := by show _ = _; unfold textN; rw [if_neg h]; rfl
    go_enter Tryz.func103, Tryz.ntmps103
    go_wp2_with fail
    refine (longText_any s _).mono ?_
    rintro e w1 ⟨rfl, rfl⟩
    go_wp2_with fail
    go_ret
    exact ⟨by rw [HE.out]; rfl, rfl⟩
theorem textN_not {q : ByteArray} : textN q ≠ .inv := by unfold textN; split <;> simp
/-- The code of a call with a tree and a text; with a tree. -/
def codeTT (l : List R) (s : ByteArray) : Int := if 4096 < l.length ∨ 65536 < s.size then 2 else if treeOK l then 0 else 1
theorem arg_tt (l : List R) (s : ByteArray) : enFrom [growK l, textN s] 0 = codeTT l s := by
  by_cases h1 : 4096 < l.length <;> by_cases h2 : 65536 < s.size <;> cases h3 : treeOK l <;> simp [growK, textN, codeTT, enFrom, h1, h2, h3]
def codeT (l : List R) : Int := if 4096 < l.length then 2 else if treeOK l then 0 else 1
theorem arg_t (l : List R) : enFrom [growK l] 0 = codeT l := by
  by_cases h1 : 4096 < l.length <;> cases h3 : treeOK l <;> simp [growK, codeT, enFrom, h1, h3]
/-- The code of a call with a tree and a node. -/
def nodeE (n : R) : EN := if nodeK n then .fine else .inv
theorem nodeE_val (n : R) (x y : Addr) : nodeV n y = (nodeE n).val x y := by
  unfold nodeV nodeE
  split <;> rfl
def codeTN (l : List R) (n : R) : Int := if 4096 < l.length then 2 else if treeOK l && nodeK n then 0 else 1
theorem arg_tn (l : List R) (n : R) : enFrom [growK l, nodeE n] 0 = codeTN l n := by
  by_cases h1 : 4096 < l.length <;> cases h3 : treeOK l <;> cases h4 : nodeK n <;> simp [growK, nodeE, codeTN, enFrom, h1, h3, h4]
end Go.Proofs.YtcbmnihepeefaaaGreatDoor.Recs
