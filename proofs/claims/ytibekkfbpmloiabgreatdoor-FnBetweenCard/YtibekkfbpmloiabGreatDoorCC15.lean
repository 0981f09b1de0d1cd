/- Parts of several texts of mine in one file (each begins with its own remark). -/
import Derived.Test.YtibekkfbpmloiabGreatDoorCA1
import Derived.Test.YtibekkfbpmloiabGreatDoorCA10
import Derived.Test.YtibekkfbpmloiabGreatDoorCA11
import Derived.Test.YtibekkfbpmloiabGreatDoorCA14
import Derived.Test.YtibekkfbpmloiabGreatDoorCA15
import Derived.Test.YtibekkfbpmloiabGreatDoorCA16
import Derived.Test.YtibekkfbpmloiabGreatDoorCA17
import Derived.Test.YtibekkfbpmloiabGreatDoorCA2
import Derived.Test.YtibekkfbpmloiabGreatDoorCA20
import Derived.Test.YtibekkfbpmloiabGreatDoorCA21
import Derived.Test.YtibekkfbpmloiabGreatDoorCA22
import Derived.Test.YtibekkfbpmloiabGreatDoorCA3
import Derived.Test.YtibekkfbpmloiabGreatDoorCA4
import Derived.Test.YtibekkfbpmloiabGreatDoorCA5
import Derived.Test.YtibekkfbpmloiabGreatDoorCA6
import Derived.Test.YtibekkfbpmloiabGreatDoorCA7
import Derived.Test.YtibekkfbpmloiabGreatDoorCA8
import Derived.Test.YtibekkfbpmloiabGreatDoorCA9
import Derived.Test.YtibekkfbpmloiabGreatDoorCC10
import Derived.Test.YtibekkfbpmloiabGreatDoorCC11
import Derived.Test.YtibekkfbpmloiabGreatDoorCC12
import Derived.Test.YtibekkfbpmloiabGreatDoorCC13
import Derived.Test.YtibekkfbpmloiabGreatDoorCC14
import Derived.Test.YtibekkfbpmloiabGreatDoorCC7
import Derived.Test.YtibekkfbpmloiabGreatDoorCC8
import Derived.Test.YtibekkfbpmloiabGreatDoorCC9
import Derived.Test.YtibekkfbpmloiabGreatDoorChecked
import Derived.Test.YtibekkfbpmloiabGreatDoorShelf
import Derived.Test.YtibekkfbpmloiabGreatDoorProg
import Derived.Test.YtibekkfbpmloiabGreatDoorRows
import Derived.Deep.Cut
import Derived.Deep.CutRange
import Derived.Deep.CutBlock
import Derived.Maps.OwnIn
import Derived.Deep.Slices
import Derived.OpenShut
import Derived.ShutString
import Derived.ChangeArms
import Derived.WideShapes
import Derived.Lib.LaidTab
import Derived.BigQuiet
import Derived.Deep.QuietTactic
import Derived.Deep.RegionHeld3
import Derived.StillTailTactics
import Derived.Deep.Draws
import Derived.Deep.LoopGhost
import Derived.WalkKit
import Derived.WalkSpells
import Derived.WalkSmall
import Derived.Lib.OthersKept
import Derived.Lib.Hide
import Derived.Lib.Strings
import Derived.Lib.Join
import Derived.WalkLawsBesides
import Derived.Laws.BytesArg
import Derived.Laws.OwnMore
import Derived.BigRegion
import Derived.Stop.LaidErr
import Derived.LaidEql
import Derived.Stop.Asserts
import Derived.Below
import Derived.Stop.LaidTwo
import Derived.Deep.RegionWith
import Derived.Laws.AppendOwnNone
import Derived.RegionTactic
import Derived.RangeFuncNested
import Derived.RangeFuncBound
import Derived.RangeFuncCalls
import Derived.RangeFuncLeaves
import Derived.RangeFuncBox
import Derived.Shelf.Abstract
import Derived.Shelf.RegionOpen
import Derived.OwnWalkIn
import Derived.TacticsInMore
import Derived.LoopNIn
import Derived.LoopIn
import Derived.ChangeVars
import Derived.Deep.DeepHandedRow
import Derived.OneCell
import Derived.Lib.SliceRun
import Derived.Lib.Overlaps
import Derived.Lib.AppendZerosOnto
import Derived.Laws.NewBlocks
import Derived.Laws.IdiomCopy
import Derived.Deep.RegionLaw
import Derived.Laws.IdiomRangeMap
import Derived.Maps.RangeWalk
import Derived.Maps.Ext
import Derived.Lib.SlMapFilter
import Derived.Deep.AppendLies
import Derived.Laws.EntriesVeiled
/- The layer between two trees, of the model: records in their order. -/
namespace Go.Proofs.YtibekkfbpmloiabGreatDoor.Recs
set_option maxRecDepth 100000
open Go.RowKit Paths

theorem recAt_fresh {l : List R} {q : ByteArray} (h : ∀ x ∈ l, x.p ≠ q) : recAt l q = none := by
  cases e : recAt l q with
  | none => rfl
  | some y => exact absurd (recAt_mem e).2 (h y (recAt_mem e).1)
theorem put_back {M : List R} {n : R} {m : Nat} (hM : Sorted M) (hn : ∀ x ∈ M, x.p ≠ n.p) (hm : m ≤ M.length) (h1 : ∀ j (hj : j < M.length), m ≤ j → lessR n M[j] = true) (h2 : ∀ (hp : m - 1 < M.length), 0 < m → lessR n M[m - 1] = false) : putL M n = M.take m ++ [n] ++ M.drop m := by
  have hall := List.pairwise_iff_getElem.1 hM
  have hasy : ∀ x y : R, lessR x y = true → lessR y x = false := fun x y h => lessQ_asymm h
  have hlow : ∀ x ∈ M.take m, lessR x n = true := by
    intro x hx
    obtain ⟨j, hj, rfl⟩ := List.getElem_of_mem hx
    rw [List.length_take] at hj
    have hjm : j < m := by omega
    have hjl : j < M.length := by omega
    rw [List.getElem_take]
    rcases less_or (hn _ (List.getElem_mem hjl)) with h | h
    · exact h
    · exfalso
      have hp : m - 1 < M.length := by omega
      have h3 := h2 hp (by omega)
      by_cases e : j = m - 1
      · subst e; rw [h] at h3; cases h3
      · have h4 := hall j (m - 1) hjl hp (by omega)
        have h5 : lessR n M[m - 1] = true := lessQ_trans _ _ _ h h4
        rw [h5] at h3; cases h3
  have hhi : ∀ x ∈ M.drop m, lessR n x = true := by
    intro x hx
    obtain ⟨j, hj, rfl⟩ := List.getElem_of_mem hx
    rw [List.getElem_drop]
    exact h1 _ _ (by omega)
  have e1 : M.filter (fun x => lessR x n) = M.take m := by
    conv => lhs; rw [← List.take_append_drop m M]
    rw [List.filter_append, List.filter_eq_self.2 hlow, List.filter_eq_nil_iff.2 (fun x hx => by rw [hasy _ _ (hhi x hx)]; decide), List.append_nil]
  have e2 : M.filter (fun x => lessR n x) = M.drop m := by
    conv => lhs; rw [← List.take_append_drop m M]
    rw [List.filter_append, List.filter_eq_self.2 hhi, List.filter_eq_nil_iff.2 (fun x hx => by rw [hasy _ _ (hlow x hx)]; decide), List.nil_append]
  unfold putL
  rw [e1, e2]
  simp

def srt (L : List R) (k : Nat) : List R := (L.take k).foldl putL []
theorem srt_step {L : List R} {k : Nat} (h : k < L.length) : srt L (k + 1) = putL (srt L k) L[k] := by
  unfold srt
  rw [List.take_add_one, List.getElem?_eq_getElem h, Option.toList_some, List.foldl_append]
  rfl
theorem srt_facts {L : List R} (hd : L.Pairwise fun x y => x.p ≠ y.p) (k : Nat) : Sorted (srt L k) ∧ ∀ x, x ∈ srt L k ↔ x ∈ L.take k := by
  obtain ⟨h1, h2⟩ := sort_fold (L.take k) [] List.Pairwise.nil (by rw [List.nil_append]; exact hd.sublist (List.take_sublist ..))
  exact ⟨h1, fun x => (h2 x).trans (by simp)⟩
theorem srt_new {L : List R} (hd : L.Pairwise fun x y => x.p ≠ y.p) {k : Nat} (hk : k < L.length) : ∀ x ∈ srt L k, x.p ≠ L[k].p := by
  intro x hx
  obtain ⟨j, hj, rfl⟩ := List.getElem_of_mem (((srt_facts hd k).2 x).1 hx)
  rw [List.length_take] at hj
  rw [List.getElem_take]
  exact List.pairwise_iff_getElem.1 hd j k (by omega) hk (by omega)
theorem srt_len {L : List R} (hd : L.Pairwise fun x y => x.p ≠ y.p) : ∀ {k : Nat}, k ≤ L.length → (srt L k).length = k
  | 0, _ => rfl
  | k + 1, h => by
    have hk : k < L.length := by omega
    rw [srt_step hk, put_len (srt_facts hd k).1 (recAt_fresh (srt_new hd hk)), srt_len hd (by omega)]
theorem srt_mem {L : List R} (hd : L.Pairwise fun x y => x.p ≠ y.p) (k : Nat) : ∀ x ∈ srt L k, x ∈ L := fun x hx => List.mem_of_mem_take (((srt_facts hd k).2 x).1 hx)

/-- A row of records of its own that is not nil. -/
def SRow (w : World) (b : Nat) (x : Value) (M : List R) : Prop := w.ownsRow b 53 5 x M.length (flat M) ∧ ∃ g cap, x = .slice (some ⟨g, 0, none⟩) M.length cap ∧ b ≤ g ∧ g < w.heap.size ∧ M.length ≤ cap ∧ cap ≤ maxLen
theorem SRow.below {w w' : World} {b : Nat} {x : Value} {M : List R} (h : SRow w b x M) (hb : Below w.heap.size w w') : SRow w' b x M := by
  obtain ⟨h1, g, cap, e, h2, h3, h4, h5⟩ := h
  exact ⟨own_below h1 hb, g, cap, e, h2, Nat.lt_of_lt_of_le h3 hb.size, h4, h5⟩
theorem flat_cells_len (M : List R) : (flat M).length = M.length * 5 := flat_len M
theorem flat_ones (M : List R) : ∀ u ∈ flat M, u.oneCell' = true := fun u hu => by
  unfold flat at hu
  obtain ⟨r, _, h⟩ := List.mem_flatMap.1 hu
  exact rec_one r u h
theorem flat_app (X Y : List R) : flat (X ++ Y) = flat X ++ flat Y := by unfold flat; rw [List.flatMap_append]
theorem flat_drop (X : List R) : ∀ i, flat (X.drop i) = (flat X).drop (i * 5) := by
  intro i
  induction i generalizing X with
  | zero => simp
  | succ i ih =>
    cases X with
    | nil => simp [flat]
    | cons r X =>
      rw [List.drop_succ_cons, ih]
      show _ = (r.cs ++ flat X).drop _
      rw [show (i + 1) * 5 = r.cs.length + i * 5 by simp [R.cs]; omega, List.drop_append, show List.drop (r.cs.length + i * 5) r.cs = [] from List.drop_eq_nil_of_le (by omega), Nat.add_sub_cancel_left, List.nil_append]
theorem flat_take (X : List R) (i : Nat) : flat (X.take i) = (flat X).take (i * 5) := by
  by_cases h : i ≤ X.length
  · have e : flat X = flat (X.take i) ++ flat (X.drop i) := by rw [← flat_app, List.take_append_drop]
    rw [e, List.take_left' (by rw [flat_cells_len, List.length_take, Nat.min_eq_left h])]
  · rw [List.take_of_length_le (by omega), List.take_of_length_le (by rw [flat_cells_len]; omega)]
theorem srcR {w : World} {b g cap : Nat} {P : List R} (h : w.ownsRow b 53 5 (.slice (some ⟨g, 0, none⟩) P.length cap) P.length (flat P)) (i : Nat) (M : List R) (hm : M = P.drop i ∨ (i = 0 ∧ ∃ k, M = P.take k)) :
    ∀ j u, (flat M)[j]? = some u → w.cell? ((⟨g, i * 5, none⟩ : Addr).add j) = some u := by
  intro j u hj
  rw [Addr.add_lit]
  have key : (flat P)[i * 5 + j]? = some u := by
    rcases hm with rfl | ⟨rfl, k, rfl⟩
    · rw [flat_drop, List.getElem?_drop] at hj
      exact hj
    · rw [flat_take, List.getElem?_take] at hj
      rw [Nat.zero_mul, Nat.zero_add]
      split at hj
      · exact hj
      · cases hj
  have hlt : i * 5 + j < P.length * 5 := by have := (List.getElem?_eq_some_iff.1 key).1; rw [flat_cells_len] at this; exact this
  have := h.cellAt (i * 5 + j) (by omega)
  rw [key] at this
  exact this
theorem SRow.of {w : World} {b m : Nat} {x : Value} {P : List R} {xs : List Value} (h : w.ownsRow b 53 5 x m xs) (hx : xs = flat P) (hm : m = P.length) (h0 : 0 < P.length) : SRow w b x P := by
  subst hx
  subst hm
  have hh := h
  rcases h.2 with ⟨_, hn⟩ | ⟨g, cap, cur, rfl, hb, hg, hcc, hcm, _⟩
  · omega
  · exact ⟨hh, g, cap, rfl, hb, (Array.getElem?_eq_some_iff.1 hg).1, hcc, hcm⟩
/-- The one record that is appended. -/
def ItemR (w : World) (g : Nat) (n : R) : Prop := w.heap[g]? = some (.cells #[.int .i64 n.k, .string n.p, .string n.b, .int .i64 n.m, .bool n.o] 53 (0, 0))
theorem ItemR.lt {w : World} {g : Nat} {n : R} (h : ItemR w g n) : g < w.heap.size := (Array.getElem?_eq_some_iff.1 h).1
theorem ItemR.new (w : World) (n : R) : ItemR (w.alloc (.cells #[.int .i64 n.k, .string n.p, .string n.b, .int .i64 n.m, .bool n.o] 53)) w.heap.size n := by
  show (w.heap.push _)[w.heap.size]? = some _
  exact Array.getElem?_push_size
theorem ItemR.below {w w' : World} {g : Nat} {n : R} (h : ItemR w g n) (hb : Below w.heap.size w w') : ItemR w' g n := (hb.block _ h.lt).trans h
theorem ItemR.grown {w w' : World} {g : Nat} {n : R} {row : Option Nat} (h : ItemR w g n) (hg : w.grownBy w' row) (hne : row ≠ some g) : ItemR w' g n := (hg.block g h.lt (fun e => hne e.symm)).trans h
theorem ItemR.cells {w : World} {g : Nat} {n : R} (h : ItemR w g n) : ∀ j u, n.cs[j]? = some u → w.cell? ((⟨g, 0, none⟩ : Addr).add j) = some u := by
  intro j u hj
  rw [Addr.add_lit, Nat.zero_add]
  unfold World.cell?
  unfold ItemR at h
  simp only [h]
  match j, hj with
  | 0, hj => cases hj; rfl
  | 1, hj => cases hj; rfl
  | 2, hj => cases hj; rfl
  | 3, hj => cases hj; rfl
  | 4, hj => cases hj; rfl
  | j + 5, hj => simp [R.cs] at hj

set_option maxHeartbeats 12800000 in
theorem l08Sort_any (v : Value) (L : List R) (w : World) (h : RecSl w v L) (hl : L.length ≤ 1000) (hp : ∀ r ∈ L, r.p.size ≤ 65536) (hd : L.Pairwise fun x y => x.p ≠ y.p) :
    Calls Tryz.prog 139 #[v] w fun e w' => ∃ x, e = .returned x ∧ Below w.heap.size w w' ∧ RowOf w' w.heap.size x (sortL L).length (sortL L) := by
  obtain ⟨i0, hi, hI0, hI1, hI2⟩ := info_parts recInfo
  have HD := Lib.hid hd
  have HP := Lib.hid hp
  obtain ⟨A, cap, rfl, hcap, h⟩ := h
  have H := Lib.hid h
  have HEND : Hid (srt L L.length = sortL L) := by show _ = _; unfold srt; rw [List.take_length]; rfl
  clear h hd hp
  have HS0 : Hid (SRow (w.alloc (.cells #[] 53)) w.heap.size (.slice (some ⟨w.heap.size, 0, none⟩) 0 0) (srt L 0)) := ⟨World.ownsRow_lit w #[] 0 (Nat.le_refl _) (Nat.zero_le _) rfl, w.heap.size, 0, rfl, Nat.le_refl _, by simp, Nat.le_refl _, Nat.zero_le _⟩
  have HB0 : Hid (Below w.heap.size w (w.alloc (.cells #[] 53))) := (Below.refl _ _).alloc (Nat.le_refl _) _
  go_enter Tryz.func139, Tryz.ntmps139
  go_wp2_with fail
  go_loopw [3, 4] (fun o i wr => ∃ k : Nat, k ≤ L.length ∧ i = .int .i64 k ∧ Hid (SRow wr w.heap.size o (srt L k)) ∧ Hid (Below w.heap.size w wr)) (fun _ i _ => L.length - (intOf i).toNat)
  case atStart => exact ⟨0, by omega, rfl, HS0, HB0⟩
  case round =>
    obtain ⟨k, hk, rfl, HS, HB⟩ := hrel
    by_cases hlt : k < L.length
    · obtain ⟨rb, ro, rfl, hrb, hrc⟩ := H.out (by omega)
      have HRC : Hid (∀ w', Below wr.heap.size wr w' → RecCells w' rb (ro + k * 5) L[k]) := fun w' hb => (hrc k L[k] (by simp [hlt])).below (HB.out.trans (hb.mono HB.out.size)) hrb
      have hj1 : (k : Int) < (L.length : Int) := by omega
      have hj0 : (0 : Int) ≤ (k : Int) := by omega
      have hnp := HP.out _ (List.getElem_mem hlt)
      have HML : Hid (∀ x ∈ srt L k, x.p.size ≤ 65536) := fun x hx => HP.out _ (srt_mem HD.out k x hx)
      have HSTP := Lib.hid (srt_step hlt)
      have HSRT := Lib.hid (srt_facts HD.out k).1
      have HNEW := Lib.hid (srt_new HD.out hlt)
      have hPk : (srt L k).length ≤ 1000 := by rw [srt_len HD.out hk]; omega
      generalize hP : srt L k = P at *
      clear hP hrc
      obtain ⟨own, g, ocap, rfl, hg, hgl, hoc, hocm⟩ := HS.out
      have OWN := Lib.hid own
      generalize hQ : L[k] = n at *
      clear own hQ
      generalize hWJ : wr = W at *
      clear hWJ
      go_upto_block 2 with (fail)
      go_cut [5] from 15 to 47 (fun i wx => ∃ M : Nat, M ≤ P.length ∧ i = .int .i64 M ∧ Hid (srt L (k + 1) = P.take M ++ [n] ++ P.drop M) ∧ Hid (Below W.heap.size W wx))
      case first =>
       go_wp2_with fail
       go_loopw [5] (fun i wq => ∃ m : Nat, m ≤ P.length ∧ i = .int .i64 m ∧ Hid (∀ i (hi : i < P.length), m ≤ i → lessR n P[i] = true) ∧ Hid (Below W.heap.size W wq)) (fun i _ => (intOf i).toNat)
       case atStart => exact ⟨P.length, Nat.le_refl _, rfl, fun i hi h => absurd hi (by omega), Below.refl _ _⟩
       case round =>
         obtain ⟨m, hm, rfl, HLO, HBQ⟩ := hrel
         have hgq : g < wr.heap.size := Nat.lt_of_lt_of_le hgl HBQ.out.size
         cases m with
         | zero =>
           have HR : Hid (srt L (k + 1) = P.take 0 ++ [n] ++ P.drop 0) := by show _ = _; rw [HSTP.out]; exact put_back HSRT.out HNEW.out (by omega) HLO.out (fun _ h => absurd h (by omega))
           go_wp2_with fail
           go_quiet (fail)
           have HBQ5 : Hid (Below W.heap.size W (wr.drewN nq)) := below_drewN HBQ.out nq
           generalize wr.drewN nq = w5 at *
           go_wp2_with fail
           go_meet
           exact ⟨0, Nat.zero_le _, rfl, HR.out, HBQ5.out⟩
         | succ m =>
           have hml : m < P.length := by omega
           obtain ⟨_, pm, _, _, _⟩ := (RowOf.below (w' := wr) ⟨rfl, OWN.out⟩ HBQ.out).cells hml
           obtain ⟨_, pn, _, _, _⟩ := HRC.out _ HBQ.out
           have hrq : rb < wr.heap.size := Nat.lt_of_lt_of_le hrb (HB.out.trans (HBQ.out.mono HB.out.size)).size
           have h35 := HML.out _ (List.getElem_mem hml)
           have HLE := fun w' => l01Less_any n.p P[m].p w' hnp h35
           have hm1 : (m : Int) < (P.length : Int) := by omega
           have hm0 : (0 : Int) ≤ (m : Int) := by omega
           have hmp : (0 : Int) < (m : Int) + 1 := by omega
           have hw1 : IntKind.i64.wrap ((m : Int) + 1 - 1) = (m : Int) := by rw [IntKind.wrap_i64]; omega
           have hw2 : IntKind.i64.wrap (m : Int) = (m : Int) := by rw [IntKind.wrap_i64]; omega
           rcases Bool.eq_false_or_eq_true (lessR n P[m]) with hls | hls
           · have HLO2 : Hid (∀ i (hi : i < P.length), m ≤ i → lessR n P[i] = true) := fun i hi h => by
               by_cases e : i = m
               · subst e; exact hls
               · exact HLO.out i hi (by omega)
             rw [show lessP (cutAt 47 n.p.data.toList) (cutAt 47 P[m].p.data.toList) = true from hls] at HLE
             clear hls
             go_wp2_with fail
             go_region_held3 (fun w' => w'.cell? ⟨g, m * 5 + 1, none⟩ = some (.string P[m].p) ∧ w'.cell? ⟨rb, ro + k * 5 + 1, none⟩ = some (.string n.p)) (first | exact ⟨pm, pn⟩ | exact ⟨(hb1.cell (p := ⟨g, m * 5 + 1, none⟩) hgq).trans pm, (hb1.cell (p := ⟨rb, ro + k * 5 + 1, none⟩) hrq).trans pn⟩ | go_keep) (first | (go_at_call 76; refine (HLE _).mono ?_; rintro e w1 ⟨rfl, hb1⟩))
             go_wp2_with fail
             exact ⟨⟨m, by omega, by go_num, HLO2, HBQ.out.drew.trans (hb1.mono HBQ.out.size)⟩, by simp [intOf]⟩
           · have HNO := Lib.hid hls
             have HR : Hid (srt L (k + 1) = P.take (m + 1) ++ [n] ++ P.drop (m + 1)) := by show _ = _; rw [HSTP.out]; exact put_back HSRT.out HNEW.out (by omega) HLO.out (fun _ _ => HNO.out)
             rw [show lessP (cutAt 47 n.p.data.toList) (cutAt 47 P[m].p.data.toList) = false from hls] at HLE
             clear hls
             have hi3 : (0 : Int) ≤ (m : Int) + 1 := by omega
             have hi4 : (m : Int) + 1 ≤ (ocap : Int) := by omega
             have hi5 : (m : Int) + 1 ≤ (P.length : Int) := by omega
             go_wp2_with fail
             go_region_held3 (fun w' => w'.cell? ⟨g, m * 5 + 1, none⟩ = some (.string P[m].p) ∧ w'.cell? ⟨rb, ro + k * 5 + 1, none⟩ = some (.string n.p)) (first | exact ⟨pm, pn⟩ | exact ⟨(hb1.cell (p := ⟨g, m * 5 + 1, none⟩) hgq).trans pm, (hb1.cell (p := ⟨rb, ro + k * 5 + 1, none⟩) hrq).trans pn⟩ | go_keep) (first | (go_at_call 76; refine (HLE _).mono ?_; rintro e w1 ⟨rfl, hb1⟩))
             have HBQ5 : Hid (Below W.heap.size W w1) := HBQ.out.drew.trans (hb1.mono HBQ.out.size)
             clear pm pn
             generalize w1 = w5 at *
             go_wp2_with fail
             go_meet
             exact ⟨m + 1, by omega, by simp, HR.out, HBQ5.out⟩
      case rest =>
        obtain ⟨M, hM, rfl, HR, HBQ5⟩ := hcut
        generalize hwq : wc = w5 at *
        clear hwq
        have hi3 : (0 : Int) ≤ (M : Int) := by omega
        have hi4 : (M : Int) ≤ (ocap : Int) := by omega
        have hi5 : (M : Int) ≤ (P.length : Int) := by omega
        obtain ⟨ad, cc, HADC, HADE, HADN⟩ : ∃ (ad : Addr) (cc : Nat), Hid (∀ W2, Below W.heap.size W W2 → ∀ j u, (flat (P.drop M))[j]? = some u → W2.cell? (ad.add j) = some u) ∧ Hid (ocap = M → ad = ⟨g, 0, none⟩ ∧ cc = 0 ∧ P.length = M) ∧ Hid (ocap ≠ M → ad = ⟨g, M * 5, none⟩ ∧ cc = ocap - M) := by
          by_cases hcc : ocap = M
          · exact ⟨⟨g, 0, none⟩, 0, fun W2 _ j u hj => by rw [List.drop_eq_nil_of_le (by omega)] at hj; simp [flat] at hj, fun _ => ⟨rfl, rfl, by omega⟩, fun h => absurd hcc h⟩
          · exact ⟨⟨g, M * 5, none⟩, ocap - M, fun W2 hb => srcR (own_below OWN.out hb) M _ (.inl rfl), fun h => absurd h hcc, fun _ => ⟨rfl, rfl⟩⟩
        go_wp2_with fail
        have HKS : Hid (∀ w', Below W.heap.size W w' → RecCells w' rb (ro + k * 5) n) := HRC
        have HZ : Hid (Below W.heap.size W w5.drew) := HBQ5.out.drew
        have HL1 : Hid ((flat (P.take (M))).length = (M) * 5) := by show _ = _; rw [flat_cells_len, List.length_take]; omega
        have HL2 : Hid ((flat (P.drop (M))).length = (P.length - M) * 5) := by show _ = _; rw [flat_cells_len, List.length_drop]
        have HRET : Hid (∀ x w', Below W.heap.size W w' → w'.ownsRow W.heap.size 53 5 x (M + 1 + (P.length - M)) (flat (P.take (M)) ++ n.cs ++ flat (P.drop (M))) → Hid (SRow w' w.heap.size x (srt L (k + 1))) ∧ Hid (Below w.heap.size w w')) := fun x w' hb ho => by
          have hPL : (P.take (M) ++ [n] ++ P.drop (M)).length = M + 1 + (P.length - M) := by simp; omega
          refine ⟨?_, HB.out.trans (hb.mono HB.out.size)⟩
          show SRow _ _ _ _
          rw [HR.out]
          exact SRow.of (own_down ho HB.out.size) (by rw [flat_app, flat_snoc]) hPL.symm (by omega)
        refine wp_region_held_drew (S := fun w' => RecCells w' rb (ro + k * 5) n) (by kernel_rfl) (HKS.out _ HZ.out) (fun hHeld => ?_)
        refine wpAnyH_take (i := 1) (oi := { dst := some 34, op := Go.Op.move (Go.Operand.tmp 3), type := 27, pos := "l08_diff.go:56", after := #[], guard := none }) (v := ?vb1) rfl (by kernel_rfl) (by kernel_rfl) (by kernel_rfl) (fun _ _ _ h => h) (Or.inl ⟨by rfl, ?yb1⟩) hHeld ?zb1
        case yb1 =>
          intro w hSw
          (try dsimp only at hSw)
          go_simp
          try with_reducible rfl
        simp only [Act.put, List.setIfInBounds_toArray, List.set_cons_zero, List.set_cons_succ]
        refine wpAnyH_take (i := 2) (oi := { dst := some 35, op := Go.Op.move (Go.Operand.tmp 5), type := 3, pos := "l08_diff.go:56", after := #[], guard := none }) (v := ?vb2) rfl (by kernel_rfl) (by kernel_rfl) (by kernel_rfl) (fun _ _ _ h => h) (Or.inl ⟨by rfl, ?yb2⟩) hHeld ?zb2
        case yb2 =>
          intro w hSw
          (try dsimp only at hSw)
          go_simp
          try with_reducible rfl
        simp only [Act.put, List.setIfInBounds_toArray, List.set_cons_zero, List.set_cons_succ]
        refine wpAnyH_take (i := 3) (oi := { dst := some 36, op := Go.Op.slice 27 (Go.Operand.tmp 34) none (some (Go.Operand.tmp 35)) none, type := 27, pos := "l08_diff.go:56", after := #[{ on := 1, ground := Go.Ground.data }, { on := 2, ground := Go.Ground.data }], guard := none }) (v := ?vb3) rfl (by kernel_rfl) (by kernel_rfl) (by kernel_rfl) (fun _ _ _ h => h) (Or.inl ⟨by rfl, ?yb3⟩) hHeld ?zb3
        case yb3 =>
          intro w hSw
          (try dsimp only at hSw)
          go_simp
          try with_reducible rfl
        simp only [Act.put, List.setIfInBounds_toArray, List.set_cons_zero, List.set_cons_succ]
        refine wpAnyH_take (i := 5) (oi := { dst := some 38, op := Go.Op.move (Go.Operand.tmp 0), type := 27, pos := "l08_diff.go:56", after := #[], guard := none }) (v := ?vb5) rfl (by kernel_rfl) (by kernel_rfl) (by kernel_rfl) (fun _ _ _ h => h) (Or.inl ⟨by rfl, ?yb5⟩) hHeld ?zb5
        case yb5 =>
          intro w hSw
          (try dsimp only at hSw)
          go_simp
          try with_reducible rfl
        simp only [Act.put, List.setIfInBounds_toArray, List.set_cons_zero, List.set_cons_succ]
        refine wpAnyH_take (i := 6) (oi := { dst := some 39, op := Go.Op.move (Go.Operand.tmp 4), type := 3, pos := "l08_diff.go:56", after := #[], guard := none }) (v := ?vb6) rfl (by kernel_rfl) (by kernel_rfl) (by kernel_rfl) (fun _ _ _ h => h) (Or.inl ⟨by rfl, ?yb6⟩) hHeld ?zb6
        case yb6 =>
          intro w hSw
          (try dsimp only at hSw)
          go_simp
          try with_reducible rfl
        simp only [Act.put, List.setIfInBounds_toArray, List.set_cons_zero, List.set_cons_succ]
        refine wpAnyH_take (i := 7) (oi := { dst := some 40, op := Go.Op.indexAddr 27 (Go.Operand.tmp 38) (Go.Operand.tmp 39), type := 0, pos := "l08_diff.go:56", after := #[{ on := 5, ground := Go.Ground.data }, { on := 6, ground := Go.Ground.data }], guard := none }) (v := ?vb7) rfl (by kernel_rfl) (by kernel_rfl) (by kernel_rfl) (fun _ _ _ h => h) (Or.inl ⟨by rfl, ?yb7⟩) hHeld ?zb7
        case yb7 =>
          intro w hSw
          (try dsimp only at hSw)
          go_simp
          try with_reducible rfl
        simp only [Act.put, List.setIfInBounds_toArray, List.set_cons_zero, List.set_cons_succ]
        refine wpAnyH_take (i := 8) (oi := { dst := some 41, op := Go.Op.load 53 (Go.Operand.tmp 40), type := 53, pos := "l08_diff.go:56", after := #[{ on := 7, ground := Go.Ground.data }], guard := none }) (v := ?vb8) rfl (by kernel_rfl) (by kernel_rfl) (by kernel_rfl) (fun _ _ _ h => h) (Or.inl ⟨by rfl, ?yb8⟩) hHeld ?zb8
        case yb8 =>
          intro w hSw
          obtain ⟨q0, q1, q2, q3, q4⟩ := hSw
          go_simp
          try with_reducible rfl
        simp only [Act.put, List.setIfInBounds_toArray, List.set_cons_zero, List.set_cons_succ]
        refine wpAnyH_take (i := 11) (oi := { dst := some 44, op := Go.Op.move (Go.Operand.tmp 3), type := 27, pos := "l08_diff.go:56", after := #[], guard := none }) (v := ?vb11) rfl (by kernel_rfl) (by kernel_rfl) (by kernel_rfl) (fun _ _ _ h => h) (Or.inl ⟨by rfl, ?yb11⟩) hHeld ?zb11
        case yb11 =>
          intro w hSw
          (try dsimp only at hSw)
          go_simp
          try with_reducible rfl
        simp only [Act.put, List.setIfInBounds_toArray, List.set_cons_zero, List.set_cons_succ]
        refine wpAnyH_take (i := 12) (oi := { dst := some 45, op := Go.Op.move (Go.Operand.tmp 5), type := 3, pos := "l08_diff.go:56", after := #[], guard := none }) (v := ?vb12) rfl (by kernel_rfl) (by kernel_rfl) (by kernel_rfl) (fun _ _ _ h => h) (Or.inl ⟨by rfl, ?yb12⟩) hHeld ?zb12
        case yb12 =>
          intro w hSw
          (try dsimp only at hSw)
          go_simp
          try with_reducible rfl
        simp only [Act.put, List.setIfInBounds_toArray, List.set_cons_zero, List.set_cons_succ]
        refine wpAnyH_take (i := 13) (oi := { dst := some 46, op := Go.Op.slice 27 (Go.Operand.tmp 44) (some (Go.Operand.tmp 45)) none none, type := 27, pos := "l08_diff.go:56", after := #[{ on := 11, ground := Go.Ground.data }, { on := 12, ground := Go.Ground.data }], guard := none }) (v := .slice (some ad) (P.length - M) cc) rfl (by kernel_rfl) (by kernel_rfl) (by kernel_rfl) (fun _ _ _ h => h) (Or.inl ⟨by rfl, ?yb13⟩) hHeld ?zb13
        case yb13 =>
          intro w hSw
          by_cases hcc : ocap = M
          · obtain ⟨rfl, rfl, hPM⟩ := HADE.out hcc
            clear HADC HADE HADN
            subst hcc
            go_simp
            done
          · obtain ⟨rfl, rfl⟩ := HADN.out hcc
            clear HADC HADE HADN
            go_simp
            done
        simp only [Act.put, List.setIfInBounds_toArray, List.set_cons_zero, List.set_cons_succ]
        generalize w5.drew = u0 at *
        refine wpAnyH_ready (rs := [0, 9]) (by kernel_rfl) (by simp) ?_
        refine (AllReadyH.cons (o := { dst := some 33, op := Go.Op.buildSlice 27 0 #[], type := 27, pos := "l08_diff.go:56", after := #[], guard := none }) rfl (fun K hK => ?_) (AllReadyH.cons (o := { dst := some 42, op := Go.Op.buildSlice 27 1 #[(0, Go.Operand.tmp 41)], type := 27, pos := "l08_diff.go:56", after := #[{ on := 8, ground := Go.Ground.data }], guard := none }) rfl (fun K hK => ?_) AllReadyH.nil))
        · go_simp
          have HZn : Hid (Below W.heap.size W (u0.alloc (.cells #[] 53))) := HZ.out.alloc HZ.out.size _
          have HBn : Below u0.heap.size u0 (u0.alloc (.cells #[] 53)) := (Below.refl _ _).alloc (Nat.le_refl _) _
          have R0 : Hid ((u0.alloc (.cells #[] 53)).ownsRow W.heap.size 53 5 (.slice (some ⟨u0.heap.size, 0, none⟩) 0 0) 0 []) := World.ownsRow_lit u0 #[] 0 HZ.out.size (Nat.zero_le _) rfl
          refine hK.out _ _ (HKS.out _ HZn.out) (fun hHeld => ?_)
          replace HZ := HZn
          clear hK K HZn HBn
          generalize u0.alloc (.cells #[] 53) = u1 at *
          generalize u0.heap.size = g0 at *
          refine wpAnyH_ready (rs := [4, 9]) (by kernel_rfl) (by simp) ?_
          refine (AllReadyH.cons (o := { dst := some 37, op := Go.Op.call { callee := Go.Callee.builtin Go.Builtin.append, args := #[Go.Operand.tmp 33, Go.Operand.tmp 36], argTypes := #[27, 27] }, type := 27, pos := "l08_diff.go:56", after := #[{ on := 0, ground := Go.Ground.data }, { on := 3, ground := Go.Ground.data }], guard := none }) rfl (fun K hK => ?_) (AllReadyH.cons (o := { dst := some 42, op := Go.Op.buildSlice 27 1 #[(0, Go.Operand.tmp 41)], type := 27, pos := "l08_diff.go:56", after := #[{ on := 8, ground := Go.Ground.data }], guard := none }) rfl (fun K hK => ?_) AllReadyH.nil))
          · refine step_append_own _ (by rfl) (.tmp 33) (.tmp 36) 27 (by rfl) W.heap.size 53 i0 (.agg #[.int .i64 0, .string ByteArray.empty, .string ByteArray.empty, .int .i64 0, .bool false]) 5 56 Tryz.underlying27 hi hI0 hI1 hI2 rfl (by decide) (.slice (some ⟨g0, 0, none⟩) 0 0) 0 [] (by simp [Act.eval] <;> omega) R0.out ⟨g, 0, none⟩ (M) ocap (flat (P.take (M))) (by simp [Act.eval] <;> omega) HL1.out (fun j u hj => by have := srcR (own_below OWN.out HZ.out) 0 _ (.inr ⟨rfl, (M), rfl⟩) j u hj; rw [Nat.zero_mul] at this; exact this) (flat_ones _) (by unfold maxLen; omega) (by omega) HZ.out.size ?_
            intro s62 u2 R4x G4 _
            have R4 : Hid (u2.ownsRow W.heap.size 53 5 s62 (M) (flat (P.take (M)))) := by have := R4x; rw [Nat.zero_add, List.nil_append] at this; exact this
            have HZn : Hid (Below W.heap.size W u2) := HZ.out.grown G4 HZ.out.size (fun j hj => (R0.out.lt j hj).1)
            simp only [Act.put, List.setIfInBounds_toArray, List.set_cons_zero, List.set_cons_succ]
            refine hK.out _ _ (HKS.out _ HZn.out) (fun hHeld => ?_)
            replace HZ := HZn
            clear hK K HZn R4x G4 R0
            refine wpAnyH_ready (rs := [9]) (by kernel_rfl) (by simp) ?_
            refine (AllReadyH.cons (o := { dst := some 42, op := Go.Op.buildSlice 27 1 #[(0, Go.Operand.tmp 41)], type := 27, pos := "l08_diff.go:56", after := #[{ on := 8, ground := Go.Ground.data }], guard := none }) rfl (fun K hK => ?_) AllReadyH.nil)
            go_simp
            have HZn : Hid (Below W.heap.size W (u2.alloc (.cells #[.int .i64 n.k, .string n.p, .string n.b, .int .i64 n.m, .bool n.o] 53))) := HZ.out.alloc HZ.out.size _
            have HBn : Below u2.heap.size u2 (u2.alloc (.cells #[.int .i64 n.k, .string n.p, .string n.b, .int .i64 n.m, .bool n.o] 53)) := (Below.refl _ _).alloc (Nat.le_refl _) _
            have IT : Hid (ItemR (u2.alloc (.cells #[.int .i64 n.k, .string n.p, .string n.b, .int .i64 n.m, .bool n.o] 53)) u2.heap.size n) := ItemR.new u2 n
            replace R4 := Lib.hid (own_below R4.out HBn)
            refine hK.out _ _ (HKS.out _ HZn.out) (fun hHeld => ?_)
            replace HZ := HZn
            clear hK K HZn HBn
            generalize u2.alloc (.cells #[.int .i64 n.k, .string n.p, .string n.b, .int .i64 n.m, .bool n.o] 53) = u3 at *
            generalize u2.heap.size = gi at *
            refine wpAnyH_ready (rs := [10]) (by kernel_rfl) (by simp) ?_
            refine (AllReadyH.cons (o := { dst := some 43, op := Go.Op.call { callee := Go.Callee.builtin Go.Builtin.append, args := #[Go.Operand.tmp 37, Go.Operand.tmp 42], argTypes := #[27, 27] }, type := 27, pos := "l08_diff.go:56", after := #[{ on := 4, ground := Go.Ground.data }, { on := 9, ground := Go.Ground.data }, { on := 4, ground := Go.Ground.chain }], guard := none }) rfl (fun K hK => ?_) AllReadyH.nil)
            refine step_append_own _ (by rfl) (.tmp 37) (.tmp 42) 27 (by rfl) W.heap.size 53 i0 (.agg #[.int .i64 0, .string ByteArray.empty, .string ByteArray.empty, .int .i64 0, .bool false]) 5 56 Tryz.underlying27 hi hI0 hI1 hI2 rfl (by decide) s62 (M) (flat (P.take (M))) (by simp [Act.eval] <;> omega) R4.out ⟨gi, 0, none⟩ 1 1 n.cs (by simp [Act.eval] <;> omega) rfl IT.out.cells (rec_one n) (by unfold maxLen; omega) (by omega) HZ.out.size ?_
            intro s65 u4 R7x G7 N7
            have R7 := Lib.hid R7x
            have HZn : Hid (Below W.heap.size W u4) := HZ.out.grown G7 HZ.out.size (fun j hj => (R4.out.lt j hj).1)
            simp only [Act.put, List.setIfInBounds_toArray, List.set_cons_zero, List.set_cons_succ]
            refine hK.out _ _ (HKS.out _ HZn.out) (fun hHeld => ?_)
            replace HZ := HZn
            clear hK K HZn R7x G7 N7 R4 IT
            refine wpAnyH_ready (rs := [14]) (by kernel_rfl) (by simp) ?_
            refine (AllReadyH.cons (o := { dst := some 47, op := Go.Op.call { callee := Go.Callee.builtin Go.Builtin.append, args := #[Go.Operand.tmp 43, Go.Operand.tmp 46], argTypes := #[27, 27] }, type := 27, pos := "l08_diff.go:56", after := #[{ on := 10, ground := Go.Ground.data }, { on := 13, ground := Go.Ground.data }, { on := 10, ground := Go.Ground.chain }], guard := none }) rfl (fun K hK => ?_) AllReadyH.nil)
            refine step_append_own _ (by rfl) (.tmp 43) (.tmp 46) 27 (by rfl) W.heap.size 53 i0 (.agg #[.int .i64 0, .string ByteArray.empty, .string ByteArray.empty, .int .i64 0, .bool false]) 5 56 Tryz.underlying27 hi hI0 hI1 hI2 rfl (by decide) s65 (M + 1) (flat (P.take (M)) ++ n.cs) (by simp [Act.eval] <;> omega) R7.out ad (P.length - M) cc (flat (P.drop (M))) (by simp [Act.eval] <;> omega) HL2.out (HADC.out _ HZ.out) (flat_ones _) (by unfold maxLen; omega) (by omega) HZ.out.size ?_
            intro s69 u5 R9x G9 N9
            have HF := Lib.hid (HRET.out s69 u5 (HZ.out.grown G9 HZ.out.size (fun j hj => (R7.out.lt j hj).1)) R9x)
            have HZn : Hid (Below W.heap.size W u5) := HZ.out.grown G9 HZ.out.size (fun j hj => (R7.out.lt j hj).1)
            simp only [Act.put, List.setIfInBounds_toArray, List.set_cons_zero, List.set_cons_succ]
            refine hK.out _ _ (HKS.out _ HZn.out) (fun hHeld => ?_)
            replace HZ := HZn
            clear hK K HZn R9x G9 N9 R7
            refine wpAnyH_take (i := 15) (oi := { dst := some 3, op := Go.Op.assign (Go.Operand.tmp 47), type := 27, pos := "l08_diff.go:56", after := #[{ on := 14, ground := Go.Ground.data }, { on := 14, ground := Go.Ground.chain }, { on := 0, ground := Go.Ground.phase }, { on := 1, ground := Go.Ground.phase }, { on := 2, ground := Go.Ground.phase }, { on := 3, ground := Go.Ground.phase }, { on := 4, ground := Go.Ground.phase }, { on := 5, ground := Go.Ground.phase }, { on := 6, ground := Go.Ground.phase }, { on := 7, ground := Go.Ground.phase }, { on := 8, ground := Go.Ground.phase }, { on := 9, ground := Go.Ground.phase }, { on := 10, ground := Go.Ground.phase }, { on := 11, ground := Go.Ground.phase }, { on := 12, ground := Go.Ground.phase }, { on := 13, ground := Go.Ground.phase }, { on := 14, ground := Go.Ground.phase }], guard := none }) (v := ?vbx1q15) rfl (by kernel_rfl) (by kernel_rfl) (by kernel_rfl) (fun _ _ _ h => h) (Or.inl ⟨by rfl, ?ybx1q15⟩) hHeld ?zbx1q15
            case ybx1q15 =>
              intro w hSw
              (try dsimp only at hSw)
              go_simp
              try with_reducible rfl
            simp only [Act.put, List.setIfInBounds_toArray, List.set_cons_zero, List.set_cons_succ]
            refine wpAnyH_done (by kernel_rfl) ?_ _
            go_wp2_with fail
            exact ⟨⟨k + 1, by omega, by go_num, HF.out.1, HF.out.2⟩, by simp [intOf]; omega⟩
          · go_simp
            have HZn : Hid (Below W.heap.size W (u1.alloc (.cells #[.int .i64 n.k, .string n.p, .string n.b, .int .i64 n.m, .bool n.o] 53))) := HZ.out.alloc HZ.out.size _
            have HBn : Below u1.heap.size u1 (u1.alloc (.cells #[.int .i64 n.k, .string n.p, .string n.b, .int .i64 n.m, .bool n.o] 53)) := (Below.refl _ _).alloc (Nat.le_refl _) _
            have IT : Hid (ItemR (u1.alloc (.cells #[.int .i64 n.k, .string n.p, .string n.b, .int .i64 n.m, .bool n.o] 53)) u1.heap.size n) := ItemR.new u1 n
            have NE : Hid ((Value.slice (some ⟨g0, 0, none⟩) 0 0).ownBlock ≠ some u1.heap.size) := fun e => by have h2 := (R0.out.lt _ e).2; omega
            replace R0 := Lib.hid (own_below R0.out HBn)
            refine hK.out _ _ (HKS.out _ HZn.out) (fun hHeld => ?_)
            replace HZ := HZn
            clear hK K HZn HBn
            generalize u1.alloc (.cells #[.int .i64 n.k, .string n.p, .string n.b, .int .i64 n.m, .bool n.o] 53) = u2 at *
            generalize u1.heap.size = gi at *
            refine wpAnyH_ready (rs := [4]) (by kernel_rfl) (by simp) ?_
            refine (AllReadyH.cons (o := { dst := some 37, op := Go.Op.call { callee := Go.Callee.builtin Go.Builtin.append, args := #[Go.Operand.tmp 33, Go.Operand.tmp 36], argTypes := #[27, 27] }, type := 27, pos := "l08_diff.go:56", after := #[{ on := 0, ground := Go.Ground.data }, { on := 3, ground := Go.Ground.data }], guard := none }) rfl (fun K hK => ?_) AllReadyH.nil)
            refine step_append_own _ (by rfl) (.tmp 33) (.tmp 36) 27 (by rfl) W.heap.size 53 i0 (.agg #[.int .i64 0, .string ByteArray.empty, .string ByteArray.empty, .int .i64 0, .bool false]) 5 56 Tryz.underlying27 hi hI0 hI1 hI2 rfl (by decide) (.slice (some ⟨g0, 0, none⟩) 0 0) 0 [] (by simp [Act.eval] <;> omega) R0.out ⟨g, 0, none⟩ (M) ocap (flat (P.take (M))) (by simp [Act.eval] <;> omega) HL1.out (fun j u hj => by have := srcR (own_below OWN.out HZ.out) 0 _ (.inr ⟨rfl, (M), rfl⟩) j u hj; rw [Nat.zero_mul] at this; exact this) (flat_ones _) (by unfold maxLen; omega) (by omega) HZ.out.size ?_
            intro s62 u3 R4x G4 _
            have R4 : Hid (u3.ownsRow W.heap.size 53 5 s62 (M) (flat (P.take (M)))) := by have := R4x; rw [Nat.zero_add, List.nil_append] at this; exact this
            have HZn : Hid (Below W.heap.size W u3) := HZ.out.grown G4 HZ.out.size (fun j hj => (R0.out.lt j hj).1)
            replace IT := Lib.hid (IT.out.grown G4 NE.out)
            clear NE
            simp only [Act.put, List.setIfInBounds_toArray, List.set_cons_zero, List.set_cons_succ]
            refine hK.out _ _ (HKS.out _ HZn.out) (fun hHeld => ?_)
            replace HZ := HZn
            clear hK K HZn R4x G4 R0
            refine wpAnyH_ready (rs := [10]) (by kernel_rfl) (by simp) ?_
            refine (AllReadyH.cons (o := { dst := some 43, op := Go.Op.call { callee := Go.Callee.builtin Go.Builtin.append, args := #[Go.Operand.tmp 37, Go.Operand.tmp 42], argTypes := #[27, 27] }, type := 27, pos := "l08_diff.go:56", after := #[{ on := 4, ground := Go.Ground.data }, { on := 9, ground := Go.Ground.data }, { on := 4, ground := Go.Ground.chain }], guard := none }) rfl (fun K hK => ?_) AllReadyH.nil)
            refine step_append_own _ (by rfl) (.tmp 37) (.tmp 42) 27 (by rfl) W.heap.size 53 i0 (.agg #[.int .i64 0, .string ByteArray.empty, .string ByteArray.empty, .int .i64 0, .bool false]) 5 56 Tryz.underlying27 hi hI0 hI1 hI2 rfl (by decide) s62 (M) (flat (P.take (M))) (by simp [Act.eval] <;> omega) R4.out ⟨gi, 0, none⟩ 1 1 n.cs (by simp [Act.eval] <;> omega) rfl IT.out.cells (rec_one n) (by unfold maxLen; omega) (by omega) HZ.out.size ?_
            intro s65 u4 R7x G7 N7
            have R7 := Lib.hid R7x
            have HZn : Hid (Below W.heap.size W u4) := HZ.out.grown G7 HZ.out.size (fun j hj => (R4.out.lt j hj).1)
            simp only [Act.put, List.setIfInBounds_toArray, List.set_cons_zero, List.set_cons_succ]
            refine hK.out _ _ (HKS.out _ HZn.out) (fun hHeld => ?_)
            replace HZ := HZn
            clear hK K HZn R7x G7 N7 R4 IT
            refine wpAnyH_ready (rs := [14]) (by kernel_rfl) (by simp) ?_
            refine (AllReadyH.cons (o := { dst := some 47, op := Go.Op.call { callee := Go.Callee.builtin Go.Builtin.append, args := #[Go.Operand.tmp 43, Go.Operand.tmp 46], argTypes := #[27, 27] }, type := 27, pos := "l08_diff.go:56", after := #[{ on := 10, ground := Go.Ground.data }, { on := 13, ground := Go.Ground.data }, { on := 10, ground := Go.Ground.chain }], guard := none }) rfl (fun K hK => ?_) AllReadyH.nil)
            refine step_append_own _ (by rfl) (.tmp 43) (.tmp 46) 27 (by rfl) W.heap.size 53 i0 (.agg #[.int .i64 0, .string ByteArray.empty, .string ByteArray.empty, .int .i64 0, .bool false]) 5 56 Tryz.underlying27 hi hI0 hI1 hI2 rfl (by decide) s65 (M + 1) (flat (P.take (M)) ++ n.cs) (by simp [Act.eval] <;> omega) R7.out ad (P.length - M) cc (flat (P.drop (M))) (by simp [Act.eval] <;> omega) HL2.out (HADC.out _ HZ.out) (flat_ones _) (by unfold maxLen; omega) (by omega) HZ.out.size ?_
            intro s69 u5 R9x G9 N9
            have HF := Lib.hid (HRET.out s69 u5 (HZ.out.grown G9 HZ.out.size (fun j hj => (R7.out.lt j hj).1)) R9x)
            have HZn : Hid (Below W.heap.size W u5) := HZ.out.grown G9 HZ.out.size (fun j hj => (R7.out.lt j hj).1)
            simp only [Act.put, List.setIfInBounds_toArray, List.set_cons_zero, List.set_cons_succ]
            refine hK.out _ _ (HKS.out _ HZn.out) (fun hHeld => ?_)
            replace HZ := HZn
            clear hK K HZn R9x G9 N9 R7
            refine wpAnyH_take (i := 15) (oi := { dst := some 3, op := Go.Op.assign (Go.Operand.tmp 47), type := 27, pos := "l08_diff.go:56", after := #[{ on := 14, ground := Go.Ground.data }, { on := 14, ground := Go.Ground.chain }, { on := 0, ground := Go.Ground.phase }, { on := 1, ground := Go.Ground.phase }, { on := 2, ground := Go.Ground.phase }, { on := 3, ground := Go.Ground.phase }, { on := 4, ground := Go.Ground.phase }, { on := 5, ground := Go.Ground.phase }, { on := 6, ground := Go.Ground.phase }, { on := 7, ground := Go.Ground.phase }, { on := 8, ground := Go.Ground.phase }, { on := 9, ground := Go.Ground.phase }, { on := 10, ground := Go.Ground.phase }, { on := 11, ground := Go.Ground.phase }, { on := 12, ground := Go.Ground.phase }, { on := 13, ground := Go.Ground.phase }, { on := 14, ground := Go.Ground.phase }], guard := none }) (v := ?vbx2q15) rfl (by kernel_rfl) (by kernel_rfl) (by kernel_rfl) (fun _ _ _ h => h) (Or.inl ⟨by rfl, ?ybx2q15⟩) hHeld ?zbx2q15
            case ybx2q15 =>
              intro w hSw
              (try dsimp only at hSw)
              go_simp
              try with_reducible rfl
            simp only [Act.put, List.setIfInBounds_toArray, List.set_cons_zero, List.set_cons_succ]
            refine wpAnyH_done (by kernel_rfl) ?_ _
            go_wp2_with fail
            exact ⟨⟨k + 1, by omega, by go_num, HF.out.1, HF.out.2⟩, by simp [intOf]; omega⟩
        · go_simp
          have HZn : Hid (Below W.heap.size W (u0.alloc (.cells #[.int .i64 n.k, .string n.p, .string n.b, .int .i64 n.m, .bool n.o] 53))) := HZ.out.alloc HZ.out.size _
          have HBn : Below u0.heap.size u0 (u0.alloc (.cells #[.int .i64 n.k, .string n.p, .string n.b, .int .i64 n.m, .bool n.o] 53)) := (Below.refl _ _).alloc (Nat.le_refl _) _
          have IT : Hid (ItemR (u0.alloc (.cells #[.int .i64 n.k, .string n.p, .string n.b, .int .i64 n.m, .bool n.o] 53)) u0.heap.size n) := ItemR.new u0 n
          refine hK.out _ _ (HKS.out _ HZn.out) (fun hHeld => ?_)
          replace HZ := HZn
          clear hK K HZn HBn
          generalize u0.alloc (.cells #[.int .i64 n.k, .string n.p, .string n.b, .int .i64 n.m, .bool n.o] 53) = u1 at *
          generalize u0.heap.size = gi at *
          refine wpAnyH_ready (rs := [0]) (by kernel_rfl) (by simp) ?_
          refine (AllReadyH.cons (o := { dst := some 33, op := Go.Op.buildSlice 27 0 #[], type := 27, pos := "l08_diff.go:56", after := #[], guard := none }) rfl (fun K hK => ?_) AllReadyH.nil)
          go_simp
          have HZn : Hid (Below W.heap.size W (u1.alloc (.cells #[] 53))) := HZ.out.alloc HZ.out.size _
          have HBn : Below u1.heap.size u1 (u1.alloc (.cells #[] 53)) := (Below.refl _ _).alloc (Nat.le_refl _) _
          have R0 : Hid ((u1.alloc (.cells #[] 53)).ownsRow W.heap.size 53 5 (.slice (some ⟨u1.heap.size, 0, none⟩) 0 0) 0 []) := World.ownsRow_lit u1 #[] 0 HZ.out.size (Nat.zero_le _) rfl
          have NE : Hid ((Value.slice (some ⟨u1.heap.size, 0, none⟩) 0 0).ownBlock ≠ some gi) := fun e => by have h1 : u1.heap.size = gi := Option.some.inj e; have h2 := IT.out.lt; omega
          replace IT := Lib.hid (IT.out.below HBn)
          refine hK.out _ _ (HKS.out _ HZn.out) (fun hHeld => ?_)
          replace HZ := HZn
          clear hK K HZn HBn
          generalize u1.alloc (.cells #[] 53) = u2 at *
          generalize u1.heap.size = g0 at *
          refine wpAnyH_ready (rs := [4]) (by kernel_rfl) (by simp) ?_
          refine (AllReadyH.cons (o := { dst := some 37, op := Go.Op.call { callee := Go.Callee.builtin Go.Builtin.append, args := #[Go.Operand.tmp 33, Go.Operand.tmp 36], argTypes := #[27, 27] }, type := 27, pos := "l08_diff.go:56", after := #[{ on := 0, ground := Go.Ground.data }, { on := 3, ground := Go.Ground.data }], guard := none }) rfl (fun K hK => ?_) AllReadyH.nil)
          refine step_append_own _ (by rfl) (.tmp 33) (.tmp 36) 27 (by rfl) W.heap.size 53 i0 (.agg #[.int .i64 0, .string ByteArray.empty, .string ByteArray.empty, .int .i64 0, .bool false]) 5 56 Tryz.underlying27 hi hI0 hI1 hI2 rfl (by decide) (.slice (some ⟨g0, 0, none⟩) 0 0) 0 [] (by simp [Act.eval] <;> omega) R0.out ⟨g, 0, none⟩ (M) ocap (flat (P.take (M))) (by simp [Act.eval] <;> omega) HL1.out (fun j u hj => by have := srcR (own_below OWN.out HZ.out) 0 _ (.inr ⟨rfl, (M), rfl⟩) j u hj; rw [Nat.zero_mul] at this; exact this) (flat_ones _) (by unfold maxLen; omega) (by omega) HZ.out.size ?_
          intro s62 u3 R4x G4 _
          have R4 : Hid (u3.ownsRow W.heap.size 53 5 s62 (M) (flat (P.take (M)))) := by have := R4x; rw [Nat.zero_add, List.nil_append] at this; exact this
          have HZn : Hid (Below W.heap.size W u3) := HZ.out.grown G4 HZ.out.size (fun j hj => (R0.out.lt j hj).1)
          replace IT := Lib.hid (IT.out.grown G4 NE.out)
          clear NE
          simp only [Act.put, List.setIfInBounds_toArray, List.set_cons_zero, List.set_cons_succ]
          refine hK.out _ _ (HKS.out _ HZn.out) (fun hHeld => ?_)
          replace HZ := HZn
          clear hK K HZn R4x G4 R0
          refine wpAnyH_ready (rs := [10]) (by kernel_rfl) (by simp) ?_
          refine (AllReadyH.cons (o := { dst := some 43, op := Go.Op.call { callee := Go.Callee.builtin Go.Builtin.append, args := #[Go.Operand.tmp 37, Go.Operand.tmp 42], argTypes := #[27, 27] }, type := 27, pos := "l08_diff.go:56", after := #[{ on := 4, ground := Go.Ground.data }, { on := 9, ground := Go.Ground.data }, { on := 4, ground := Go.Ground.chain }], guard := none }) rfl (fun K hK => ?_) AllReadyH.nil)
          refine step_append_own _ (by rfl) (.tmp 37) (.tmp 42) 27 (by rfl) W.heap.size 53 i0 (.agg #[.int .i64 0, .string ByteArray.empty, .string ByteArray.empty, .int .i64 0, .bool false]) 5 56 Tryz.underlying27 hi hI0 hI1 hI2 rfl (by decide) s62 (M) (flat (P.take (M))) (by simp [Act.eval] <;> omega) R4.out ⟨gi, 0, none⟩ 1 1 n.cs (by simp [Act.eval] <;> omega) rfl IT.out.cells (rec_one n) (by unfold maxLen; omega) (by omega) HZ.out.size ?_
          intro s65 u4 R7x G7 N7
          have R7 := Lib.hid R7x
          have HZn : Hid (Below W.heap.size W u4) := HZ.out.grown G7 HZ.out.size (fun j hj => (R4.out.lt j hj).1)
          simp only [Act.put, List.setIfInBounds_toArray, List.set_cons_zero, List.set_cons_succ]
          refine hK.out _ _ (HKS.out _ HZn.out) (fun hHeld => ?_)
          replace HZ := HZn
          clear hK K HZn R7x G7 N7 R4 IT
          refine wpAnyH_ready (rs := [14]) (by kernel_rfl) (by simp) ?_
          refine (AllReadyH.cons (o := { dst := some 47, op := Go.Op.call { callee := Go.Callee.builtin Go.Builtin.append, args := #[Go.Operand.tmp 43, Go.Operand.tmp 46], argTypes := #[27, 27] }, type := 27, pos := "l08_diff.go:56", after := #[{ on := 10, ground := Go.Ground.data }, { on := 13, ground := Go.Ground.data }, { on := 10, ground := Go.Ground.chain }], guard := none }) rfl (fun K hK => ?_) AllReadyH.nil)
          refine step_append_own _ (by rfl) (.tmp 43) (.tmp 46) 27 (by rfl) W.heap.size 53 i0 (.agg #[.int .i64 0, .string ByteArray.empty, .string ByteArray.empty, .int .i64 0, .bool false]) 5 56 Tryz.underlying27 hi hI0 hI1 hI2 rfl (by decide) s65 (M + 1) (flat (P.take (M)) ++ n.cs) (by simp [Act.eval] <;> omega) R7.out ad (P.length - M) cc (flat (P.drop (M))) (by simp [Act.eval] <;> omega) HL2.out (HADC.out _ HZ.out) (flat_ones _) (by unfold maxLen; omega) (by omega) HZ.out.size ?_
          intro s69 u5 R9x G9 N9
          have HF := Lib.hid (HRET.out s69 u5 (HZ.out.grown G9 HZ.out.size (fun j hj => (R7.out.lt j hj).1)) R9x)
          have HZn : Hid (Below W.heap.size W u5) := HZ.out.grown G9 HZ.out.size (fun j hj => (R7.out.lt j hj).1)
          simp only [Act.put, List.setIfInBounds_toArray, List.set_cons_zero, List.set_cons_succ]
          refine hK.out _ _ (HKS.out _ HZn.out) (fun hHeld => ?_)
          replace HZ := HZn
          clear hK K HZn R9x G9 N9 R7
          refine wpAnyH_take (i := 15) (oi := { dst := some 3, op := Go.Op.assign (Go.Operand.tmp 47), type := 27, pos := "l08_diff.go:56", after := #[{ on := 14, ground := Go.Ground.data }, { on := 14, ground := Go.Ground.chain }, { on := 0, ground := Go.Ground.phase }, { on := 1, ground := Go.Ground.phase }, { on := 2, ground := Go.Ground.phase }, { on := 3, ground := Go.Ground.phase }, { on := 4, ground := Go.Ground.phase }, { on := 5, ground := Go.Ground.phase }, { on := 6, ground := Go.Ground.phase }, { on := 7, ground := Go.Ground.phase }, { on := 8, ground := Go.Ground.phase }, { on := 9, ground := Go.Ground.phase }, { on := 10, ground := Go.Ground.phase }, { on := 11, ground := Go.Ground.phase }, { on := 12, ground := Go.Ground.phase }, { on := 13, ground := Go.Ground.phase }, { on := 14, ground := Go.Ground.phase }], guard := none }) (v := ?vbx3q15) rfl (by kernel_rfl) (by kernel_rfl) (by kernel_rfl) (fun _ _ _ h => h) (Or.inl ⟨by rfl, ?ybx3q15⟩) hHeld ?zbx3q15
          case ybx3q15 =>
            intro w hSw
            (try dsimp only at hSw)
            go_simp
            try with_reducible rfl
          simp only [Act.put, List.setIfInBounds_toArray, List.set_cons_zero, List.set_cons_succ]
          refine wpAnyH_done (by kernel_rfl) ?_ _
          go_wp2_with fail
          exact ⟨⟨k + 1, by omega, by go_num, HF.out.1, HF.out.2⟩, by simp [intOf]; omega⟩
    · have hkk : k = L.length := by omega
      subst hkk
      have HS2 := HS.out.1
      rw [HEND.out] at HS2
      obtain ⟨_, g, ocap, rfl, _⟩ := HS.out
      go_wp2_with fail
      go_ret
      exact ⟨_, rfl, HB.out, by rw [← HEND.out]; exact ⟨rfl, HS.out.1⟩⟩
end Go.Proofs.YtibekkfbpmloiabGreatDoor.Recs
