/- Parts of several texts of mine in one file (each begins with its own remark). -/
import Derived.Test.YtibekkfbpmloiaaGreatDoorCA1
import Derived.Test.YtibekkfbpmloiaaGreatDoorCA10
import Derived.Test.YtibekkfbpmloiaaGreatDoorCA11
import Derived.Test.YtibekkfbpmloiaaGreatDoorCA12
import Derived.Test.YtibekkfbpmloiaaGreatDoorCA14
import Derived.Test.YtibekkfbpmloiaaGreatDoorCA15
import Derived.Test.YtibekkfbpmloiaaGreatDoorCA2
import Derived.Test.YtibekkfbpmloiaaGreatDoorCA3
import Derived.Test.YtibekkfbpmloiaaGreatDoorCA4
import Derived.Test.YtibekkfbpmloiaaGreatDoorCA5
import Derived.Test.YtibekkfbpmloiaaGreatDoorCA6
import Derived.Test.YtibekkfbpmloiaaGreatDoorCA7
import Derived.Test.YtibekkfbpmloiaaGreatDoorCA8
import Derived.Test.YtibekkfbpmloiaaGreatDoorChecked
import Derived.Test.YtibekkfbpmloiaaGreatDoorShelf
import Derived.Test.YtibekkfbpmloiaaGreatDoorProg
import Derived.Test.YtibekkfbpmloiaaGreatDoorRows
import Derived.Laws.EntriesVeiled
import Derived.Deep.Slices
import Derived.OpenShut
import Derived.ShutString
import Derived.ChangeArms
import Derived.WideShapes
import Derived.Lib.LaidTab
import Derived.BigQuiet
import Derived.Deep.QuietTactic
import Derived.Deep.RegionHeld3
import Derived.StillTailTactics
import Derived.Deep.Draws
import Derived.Deep.LoopGhost
import Derived.WalkKit
import Derived.WalkSpells
import Derived.WalkSmall
import Derived.Lib.OthersKept
import Derived.Lib.Hide
import Derived.Lib.Strings
import Derived.Lib.Join
import Derived.Laws.OwnMore
import Derived.BigRegion
import Derived.Laws.BytesArg
import Derived.WalkLawsBesides
import Derived.RangeFuncNested
import Derived.RangeFuncBound
import Derived.RangeFuncCalls
import Derived.RangeFuncLeaves
import Derived.RangeFuncBox
import Derived.Shelf.Abstract
import Derived.Shelf.RegionOpen
import Derived.OwnWalkIn
import Derived.TacticsInMore
import Derived.LoopNIn
import Derived.LoopIn
import Derived.Stop.LaidErr
import Derived.LaidEql
import Derived.Stop.Asserts
import Derived.Below
import Derived.Stop.LaidTwo
import Derived.ChangeVars
import Derived.Deep.DeepHandedRow
import Derived.Deep.RegionWith
import Derived.OneCell
import Derived.Lib.SliceRun
import Derived.Lib.Overlaps
import Derived.Lib.AppendZerosOnto
import Derived.Laws.NewBlocks
import Derived.Laws.IdiomCopy
import Derived.Deep.RegionLaw
/- Queries: following a path from the root; the code of a call; what a path leads to, of the program. Conditions: the table of kinds, the two sentinels. -/
namespace Go.Proofs.YtibekkfbpmloiaaGreatDoor.Recs
set_option maxRecDepth 100000
open Go.RowKit Paths Errs

theorem join_pre {q : ByteArray} (hq : pathB q.data.toList = true) : ∀ i (hi : i < (cutAt 47 q.data.toList).length), joinRes (preP q i) ⟨((cutAt 47 q.data.toList)[i]).toArray⟩ = (pre q i).data.toList := by
  intro i hi
  have hp := (pathB_parts hq).2
  have h3 := List.all_eq_true.1 hp _ (List.getElem_mem hi)
  have h4 : (⟨((cutAt 47 q.data.toList)[i]).toArray⟩ : ByteArray).size ≤ 8 := by
    rw [Lib.size_eq]
    exact (partB_len h3).2
  match i, hi with
  | 0, hi =>
    have hw : joinWay ⟨#[]⟩ ⟨((cutAt 47 q.data.toList)[0]).toArray⟩ = 3 := by
      unfold joinWay
      rw [if_neg (by intro h; rcases h with h | h; · cases h
                     · omega), if_neg (by intro h; rcases h with h | h; · exact h.1 rfl
                                          · rw [h3] at h; cases h), if_pos (show (⟨#[]⟩ : ByteArray).size = 0 from rfl)]
    rw [preP_zero]
    unfold joinRes
    rw [hw, pre_zero hi]
    rfl
  | i + 1, hi =>
    obtain ⟨h1, h2⟩ := pre_size hq i
    have hl : (cutAt 47 (pre q i).data.toList).length = i + 1 := by
      rw [pre_cut hq, List.length_take]
      omega
    have h4' := (pathB_parts hq).1
    have hw : joinWay (pre q i) ⟨((cutAt 47 q.data.toList)[i + 1]).toArray⟩ = 4 := by
      unfold joinWay
      rw [if_neg (by omega), if_neg (by
        intro h
        rcases h with h | h
        · rw [pre_path hq i] at h; cases h.2
        · rw [h3] at h; cases h), if_neg (by omega), if_neg (by rw [hl]; omega)]
    rw [preP_succ]
    unfold joinRes
    rw [hw]
    exact pre_succ hi

theorem cell_block {w w' : World} {g : Nat} (h : w'.heap[g]? = w.heap[g]?) (i : Nat) : w'.cell? ⟨g, i, none⟩ = w.cell? ⟨g, i, none⟩ := by unfold World.cell?; rw [h]
theorem setPl_size {w : World} {B n : Nat} {r : R} {f : Value} : (setPl w B r n f).heap.size = w.heap.size := by simp [setPl, World.setCell]
/-- A place's function: none, or its closure. -/
def fnV : Option (Nat × Nat) → Value
  | none => .nilFunc
  | some (a, b) => entV a b

set_option maxHeartbeats 6400000 in
theorem follow_any (v : Value) (LL : List (List R)) (q : ByteArray) (a0 b0 : Nat) (w : World) (hS : StkSl w v LL) (hl5 : LL.length ≤ 5) (hok : ∀ l ∈ LL, layerOK l = true) (hH : Holds w v (root3, 0) a0 b0) (hq : q.size = 0 ∨ pathB q.data.toList = true) :
    Calls Tryz.prog 51 #[plV (root3, 0) (entV a0 b0), .string q] w fun e w' => Below w.heap.size w w' ∧ ∃ o, e = .returned (.tuple #[plV (findQ LL q).1 (fnV o), .int .i64 (findQ LL q).2]) := by
  have hqm : q.size ≤ maxLen := by
    rcases hq with h | h
    · rw [h]; exact Nat.zero_le _
    · exact path_max h
  have HSP := fun W => splitPath_any q W hqm
  have HL : Hid ((partsOf q.data.toList).length = if q.size = 0 then 0 else nparts q) := by
    show _ = _
    unfold partsOf
    rcases hq with h | h
    · rw [pathB_empty h, if_pos h]; rfl
    · rw [h, if_pos rfl, if_neg (fun e => by rw [pathB_empty e] at h; cases h)]
      rfl
  have HPT : Hid (∀ k, k < (partsOf q.data.toList).length → pathB q.data.toList = true ∧ partsOf q.data.toList = cutAt 47 q.data.toList ∧ nparts q = (partsOf q.data.toList).length ∧ q.size ≠ 0) := fun k hk => by
    rcases hq with h | h
    · unfold partsOf at hk; rw [pathB_empty h] at hk; simp at hk
    · have e : partsOf q.data.toList = cutAt 47 q.data.toList := by unfold partsOf; rw [h, if_pos rfl]
      exact ⟨h, e, by rw [e]; rfl, fun e => by rw [pathB_empty e] at h; cases h⟩
  have H0 : Hid (((partsOf q.data.toList).length ≤ 0 → findQ LL q = ((root3, 0), 0)) ∧ (0 < (partsOf q.data.toList).length → findQ LL q = qGo LL q 0 (root3, 0))) := by
    refine ⟨fun h => ?_, fun h => findQ_go (HPT.out 0 h).2.2.2⟩
    rw [HL.out] at h
    split at h
    · exact findQ_root (by assumption)
    · have := nparts_pos q; omega
  have HL4 : (partsOf q.data.toList).length ≤ 4 := by
    unfold partsOf
    split
    · exact (pathB_parts (by assumption)).1
    · simp
  have HEN : Hid (∀ W p a b s, Holds W v p a b → p.1.k ≠ 3 → Calls Tryz.prog 89 #[.string s, .pointer (some ⟨a, 0, none⟩), .pointer (some ⟨b, 0, none⟩)] W fun e w' => e = .returned (.tuple #[nilPl, .int .i64 13]) ∧ Below W.heap.size W w') := fun W p a b s h1 h2 => enter_stop v p a b s W h1 h2
  have HED := Lib.hid (fun W p a b s q (hb : Below w.heap.size w W) => enter_dir v LL p a b s q W (hS.below hb) hl5 hok)
  have HPA := Lib.hid (fun h => join_pre (q := q) h)
  clear hS hq
  have hB : Below w.heap.size w (((w.alloc (.cells #[.int .i64 3, .string ⟨#[]⟩, .string ⟨#[]⟩, .int .i64 0, .bool false, .int .i64 0, entV a0 b0] 58)).alloc (.cells #[.int .i64 0, .string ⟨#[]⟩, .string ⟨#[]⟩, .int .i64 0, .bool false, .int .i64 0, .nilFunc] 58)).alloc (.cells #[.int .i64 3, .string ⟨#[]⟩, .string ⟨#[]⟩, .int .i64 0, .bool false, .int .i64 0, entV a0 b0] 58)) := (((Below.refl _ _).alloc (Nat.le_refl _) _).alloc (by simp) _).alloc (by simp; omega) _
  have HAT : Hid (Plbox (((w.alloc (.cells #[.int .i64 3, .string ⟨#[]⟩, .string ⟨#[]⟩, .int .i64 0, .bool false, .int .i64 0, entV a0 b0] 58)).alloc (.cells #[.int .i64 0, .string ⟨#[]⟩, .string ⟨#[]⟩, .int .i64 0, .bool false, .int .i64 0, .nilFunc] 58)).alloc (.cells #[.int .i64 3, .string ⟨#[]⟩, .string ⟨#[]⟩, .int .i64 0, .bool false, .int .i64 0, entV a0 b0] 58)) (w.heap.size + 1 + 1) (root3, 0) (entV a0 b0)) := by
    have := alloc_here ((w.alloc (.cells #[.int .i64 3, .string ⟨#[]⟩, .string ⟨#[]⟩, .int .i64 0, .bool false, .int .i64 0, entV a0 b0] 58)).alloc (.cells #[.int .i64 0, .string ⟨#[]⟩, .string ⟨#[]⟩, .int .i64 0, .bool false, .int .i64 0, .nilFunc] 58)) (.cells #[.int .i64 3, .string ⟨#[]⟩, .string ⟨#[]⟩, .int .i64 0, .bool false, .int .i64 0, entV a0 b0] 58)
    simp only [World.size_alloc] at this
    exact this
  have HRS : Hid (Plbox (((w.alloc (.cells #[.int .i64 3, .string ⟨#[]⟩, .string ⟨#[]⟩, .int .i64 0, .bool false, .int .i64 0, entV a0 b0] 58)).alloc (.cells #[.int .i64 0, .string ⟨#[]⟩, .string ⟨#[]⟩, .int .i64 0, .bool false, .int .i64 0, .nilFunc] 58)).alloc (.cells #[.int .i64 3, .string ⟨#[]⟩, .string ⟨#[]⟩, .int .i64 0, .bool false, .int .i64 0, entV a0 b0] 58)) (w.heap.size + 1) (zR, 0) .nilFunc) := by
    refine (Below.heap_alloc _ _ _ (by simp)).trans ?_
    have := alloc_here (w.alloc (.cells #[.int .i64 3, .string ⟨#[]⟩, .string ⟨#[]⟩, .int .i64 0, .bool false, .int .i64 0, entV a0 b0] 58)) (.cells #[.int .i64 0, .string ⟨#[]⟩, .string ⟨#[]⟩, .int .i64 0, .bool false, .int .i64 0, .nilFunc] 58)
    rw [World.size_alloc] at this
    exact this
  have HHO := Lib.hid hH
  clear hH
  have hplV : plV (root3, 0) (entV a0 b0) = .agg #[.int .i64 3, .string ⟨#[]⟩, .string ⟨#[]⟩, .int .i64 0, .bool false, .int .i64 0, .func (.func 89) #[] #[.pointer (some ⟨a0, 0, none⟩), .pointer (some ⟨b0, 0, none⟩)]] := rfl
  rw [hplV]
  clear hplV
  unfold entV at hB HAT HRS
  go_enter Tryz.func51, Tryz.ntmps51
  go_wp2_with fail
  have hHo := HHO.out.below hB
  have s0 : w.heap.size + 1 + 1 < (((w.alloc (.cells #[.int .i64 3, .string ⟨#[]⟩, .string ⟨#[]⟩, .int .i64 0, .bool false, .int .i64 0, .func (.func 89) #[] #[.pointer (some ⟨a0, 0, none⟩), .pointer (some ⟨b0, 0, none⟩)]] 58)).alloc (.cells #[.int .i64 0, .string ⟨#[]⟩, .string ⟨#[]⟩, .int .i64 0, .bool false, .int .i64 0, .nilFunc] 58)).alloc (.cells #[.int .i64 3, .string ⟨#[]⟩, .string ⟨#[]⟩, .int .i64 0, .bool false, .int .i64 0, .func (.func 89) #[] #[.pointer (some ⟨a0, 0, none⟩), .pointer (some ⟨b0, 0, none⟩)]] 58)).heap.size := by simp
  generalize hW0 : (((w.alloc (.cells #[.int .i64 3, .string ⟨#[]⟩, .string ⟨#[]⟩, .int .i64 0, .bool false, .int .i64 0, .func (.func 89) #[] #[.pointer (some ⟨a0, 0, none⟩), .pointer (some ⟨b0, 0, none⟩)]] 58)).alloc (.cells #[.int .i64 0, .string ⟨#[]⟩, .string ⟨#[]⟩, .int .i64 0, .bool false, .int .i64 0, .nilFunc] 58)).alloc (.cells #[.int .i64 3, .string ⟨#[]⟩, .string ⟨#[]⟩, .int .i64 0, .bool false, .int .i64 0, .func (.func 89) #[] #[.pointer (some ⟨a0, 0, none⟩), .pointer (some ⟨b0, 0, none⟩)]] 58)) = W0 at *
  clear hW0
  refine (HSP _).mono ?_
  rintro e w1 ⟨v1, rfl, hb1, hown, -, -⟩
  obtain ⟨pA, pc, rfl, hpc, hpv⟩ := part_sl hown
  have c1 := hB.trans (hb1.mono hB.size)
  have HP : Hid (0 < (partsOf q.data.toList).length → ∃ g, pA = some ⟨g, 0, none⟩ ∧ g < w1.heap.size ∧ w.heap.size + 1 + 1 < g ∧ ∀ i x, (partsOf q.data.toList)[i]? = some x → w1.cell? ⟨g, i, none⟩ = some (strV x)) := fun h0 => by
    obtain ⟨g, e, hg, hc⟩ := hpv h0
    have hl := hown.lt g (by rw [e]; rfl)
    exact ⟨g, e, hg, by omega, fun i x hx => by obtain ⟨hi, rfl⟩ := List.getElem?_eq_some_iff.1 hx; exact hc i hi⟩
  have HA1 := Lib.hid (HAT.out.below hb1 s0)
  have HR1 := Lib.hid (HRS.out.below hb1 (by omega))
  have HH1 := Lib.hid (hHo.below hb1)
  have s1 := Nat.lt_of_lt_of_le s0 hb1.size
  have ha0 := HHO.out.lt
  clear hpv hown HSP HAT HRS hHo
  go_wp2_with fail
  go_loopw [15] (fun i wr => ∃ (k : Nat) (p : R × Nat) (a b : Nat), k ≤ (partsOf q.data.toList).length ∧ i = .int .i64 k ∧ Hid (((partsOf q.data.toList).length ≤ k → findQ LL q = (p, 0)) ∧ (k < (partsOf q.data.toList).length → findQ LL q = qGo LL q k p ∧ p.1.p = preP q k)) ∧ Hid (Plbox wr (w.heap.size + 1 + 1) p (entV a b)) ∧ Hid (Plbox wr (w.heap.size + 1) (zR, 0) .nilFunc) ∧ Hid (Holds wr v p a b) ∧ Hid ((a < w.heap.size ∧ b < w.heap.size) ∨ (w.heap.size + 1 + 1 < a ∧ w.heap.size + 1 + 1 < b)) ∧ Hid (∀ g i, g < w1.heap.size → w.heap.size + 1 + 1 < g → wr.cell? ⟨g, i, none⟩ = w1.cell? ⟨g, i, none⟩) ∧ w1.heap.size ≤ wr.heap.size ∧ Below w.heap.size w wr) (fun i _ => (partsOf q.data.toList).length - (intOf i).toNat)
  case atStart => exact ⟨0, (root3, 0), a0, b0, Nat.zero_le _, rfl, ⟨H0.out.1, fun h => ⟨H0.out.2 h, by rw [preP_zero]; rfl⟩⟩, HA1.out, HR1.out, HH1.out, .inl ha0, fun _ _ _ _ => rfl, Nat.le_refl _, c1⟩
  case round =>
    obtain ⟨k, p, a, b, hk, rfl, HK, HAT, HRS, HHL, HAB, HCE, hsz, hbw⟩ := hrel
    by_cases hlt : k < (partsOf q.data.toList).length
    · obtain ⟨hq, hpe, hnp, hq0⟩ := HPT.out k hlt
      obtain ⟨g, rfl, hg, hg2, hcell⟩ := HP.out (by omega)
      have e1 := (HCE.out g k hg hg2).trans (hcell k _ (List.getElem?_eq_getElem hlt))
      obtain ⟨HKF, HKP⟩ := HK.out.2 hlt
      have hi1 : (k : Int) < ((partsOf q.data.toList).length : Int) := by omega
      have hi0 : (0 : Int) ≤ (k : Int) := by omega
      obtain ⟨x0, x1, x2, x3, x4, x5, x6⟩ := HAT.out.cells
      have hfa := HAT.out.frozen
      have hcut : k < (cutAt 47 q.data.toList).length := by rw [← hpe]; exact hlt
      have hsame : (partsOf q.data.toList)[k] = (cutAt 47 q.data.toList)[k] := by
        have : ∀ (A B : List (List UInt8)) (e : A = B) (n : Nat) (hn : n < A.length) (hm : n < B.length), A[n] = B[n] := by
          intro A B e n hn hm
          subst e
          rfl
        exact this _ _ hpe k hlt hcut
      rw [hsame] at e1
      unfold strV at e1
      have hpsz : p.1.p.size ≤ maxLen := by
        rw [HKP]
        match k with
        | 0 => exact Nat.zero_le _
        | k + 1 => rw [preP_succ]; exact path_max (pre_path hq k)
      have HJ : Hid (joinRes p.1.p ⟨((cutAt 47 q.data.toList)[k]).toArray⟩ = (pre q k).data.toList) := by show _ = _; rw [HKP]; exact HPA.out hq k hcut
      have HPQ := Lib.hid (pre_path hq k)
      have HKH := Lib.hid HKF
      have HNP := Lib.hid hnp
      have HPSZ := Lib.hid hpsz
      have HQ := Lib.hid hq
      unfold entV at x6
      clear hcell HKF HKP hpe hnp hsame hpsz hq
      generalize (cutAt 47 q.data.toList)[k] = part at *
      obtain ⟨r, n⟩ := p
      dsimp only at x0 x1 x2 x3 x4 x5 x6
      by_cases h3 : r.k = 3
      · have HE := HED.out wr (r, n) a b ⟨part.toArray⟩ (pre q k) hbw HHL.out h3 HPSZ.out HPQ.out HJ.out
        have H3 := Lib.hid h3
        clear h3
        go_wp2_with fail
        refine HE.mono ?_
        rintro e w5 ⟨hb5, ⟨hs, rfl⟩ | ⟨hs, a', b', rfl, hH5, hla, hlb⟩⟩
        · have HF : Hid (findQ LL q = ((zR, 0), 5)) := by show _ = _; rw [HKH.out]; exact qGo_none (by rw [HNP.out]; exact hlt) H3.out hs
          have HR5 := Lib.hid (HRS.out.below hb5 (by omega))
          have bA : Below wr.heap.size wr (w5.alloc (.cells #[.int .i64 0, .string ⟨#[]⟩, .string ⟨#[]⟩, .int .i64 0, .bool false, .int .i64 0, .nilFunc] 58)) := hb5.alloc hb5.size _
          have cA := hbw.trans (bA.mono hbw.size)
          have HR6 := HRS.out.below bA (by omega)
          obtain ⟨z0, z1, z2, z3, z4, z5, z6⟩ := HR6.cells
          have f0 := HR6.frozen 0
          have f1 := HR6.frozen 1
          have f2 := HR6.frozen 2
          have f3 := HR6.frozen 3
          have f4 := HR6.frozen 4
          have f5 := HR6.frozen 5
          have f6 := HR6.frozen 6
          clear HR6
          have hnil : nilPl = .agg #[.int .i64 0, .string ⟨#[]⟩, .string ⟨#[]⟩, .int .i64 0, .bool false, .int .i64 0, .nilFunc] := rfl
          rw [hnil]
          clear hnil x0 x1 x2 x3 x4 x5 x6 hfa
          go_wp2_with fail
          refine bodyPost_ret (v := .tuple #[.agg #[.int .i64 0, .string ⟨#[]⟩, .string ⟨#[]⟩, .int .i64 0, .bool false, .int .i64 0, .nilFunc], .int .i64 5]) (by simp [results, Tryz.results51, go_sem, z0, z1, z2, z3, z4, z5, z6]) rfl ⟨?_, none, by rw [HF.out]; rfl⟩
          repeat (refine Below.setCell ?_ (by simp) _)
          exact cA
        · have HF : Hid (findQ LL q = qGo LL q (k + 1) (winC LL (pre q k))) := by show _ = _; rw [HKH.out]; exact qGo_step (by rw [HNP.out]; exact hlt) H3.out hs
          have HPP : Hid ((winC LL (pre q k)).1.p = pre q k) := seen_p hs
          generalize winC LL (pre q k) = P at *
          obtain ⟨r2, m⟩ := P
          have bA : Below wr.heap.size wr (w5.alloc (.cells #[.int .i64 r2.k, .string r2.p, .string r2.b, .int .i64 r2.m, .bool r2.o, .int .i64 (m : Int), .func (.func 89) #[] #[.pointer (some ⟨a', 0, none⟩), .pointer (some ⟨b', 0, none⟩)]] 58)) := hb5.alloc hb5.size _
          have cA := Lib.hid (hbw.trans (bA.mono hbw.size))
          have HA6 := Lib.hid (HAT.out.below bA (by omega))
          have HR6 := Lib.hid (HRS.out.below bA (by omega))
          have hAl : Below w5.heap.size w5 (w5.alloc (.cells #[.int .i64 r2.k, .string r2.p, .string r2.b, .int .i64 r2.m, .bool r2.o, .int .i64 (m : Int), .func (.func 89) #[] #[.pointer (some ⟨a', 0, none⟩), .pointer (some ⟨b', 0, none⟩)]] 58)) := (Below.refl _ _).alloc (Nat.le_refl _) _
          have HH6 := Lib.hid (hH5.below hAl)
          obtain ⟨y0, y1, y2, y3, y4, y5, y6⟩ := HA6.out.cells
          have f0 := HA6.out.frozen 0
          have f1 := HA6.out.frozen 1
          have f2 := HA6.out.frozen 2
          have f3 := HA6.out.frozen 3
          have f4 := HA6.out.frozen 4
          have f5 := HA6.out.frozen 5
          have f6 := HA6.out.frozen 6
          have HBA := Lib.hid bA
          have hz5 := hb5.size
          have HSZ6 : Hid ((w5.alloc (.cells #[.int .i64 r2.k, .string r2.p, .string r2.b, .int .i64 r2.m, .bool r2.o, .int .i64 (m : Int), .func (.func 89) #[] #[.pointer (some ⟨a', 0, none⟩), .pointer (some ⟨b', 0, none⟩)]] 58)).heap.size = w5.heap.size + 1) := by show _ = _; simp
          clear hH5 x0 x1 x2 x3 x4 x5 x6 hfa bA hAl hs
          unfold plV entV
          dsimp only
          go_wp2_with fail
          have HF7 := HA6.out.set r2 m (entV a' b')
          have HR7 := (setPl_block (w := w5.alloc (.cells #[.int .i64 r2.k, .string r2.p, .string r2.b, .int .i64 r2.m, .bool r2.o, .int .i64 (m : Int), .func (.func 89) #[] #[.pointer (some ⟨a', 0, none⟩), .pointer (some ⟨b', 0, none⟩)]] 58)) (B := w.heap.size + 1) (B' := w.heap.size + 1 + 1) (r := r2) (n := m) (f := entV a' b') (by omega)).trans HR6.out
          have HH7 := HH6.out.setPl (r := r2) (n := m) (f := entV a' b') (B := w.heap.size + 1 + 1) (by omega) (by omega)
          have HB7 := setPl_below (r := r2) (n := m) (f := entV a' b') cA.out (show w.heap.size ≤ w.heap.size + 1 + 1 by omega)
          have HC7 : ∀ g' i', g' < w1.heap.size → w.heap.size + 1 + 1 < g' → (setPl (w5.alloc (.cells #[.int .i64 r2.k, .string r2.p, .string r2.b, .int .i64 r2.m, .bool r2.o, .int .i64 (m : Int), .func (.func 89) #[] #[.pointer (some ⟨a', 0, none⟩), .pointer (some ⟨b', 0, none⟩)]] 58)) (w.heap.size + 1 + 1) r2 m (entV a' b')).cell? ⟨g', i', none⟩ = w1.cell? ⟨g', i', none⟩ := fun g' i' h1 h2 => by
            rw [cell_block (setPl_block (by omega)), cell_block (HBA.out.block g' (by omega)), HCE.out g' i' h1 h2]
          have HS7 : w1.heap.size ≤ (setPl (w5.alloc (.cells #[.int .i64 r2.k, .string r2.p, .string r2.b, .int .i64 r2.m, .bool r2.o, .int .i64 (m : Int), .func (.func 89) #[] #[.pointer (some ⟨a', 0, none⟩), .pointer (some ⟨b', 0, none⟩)]] 58)) (w.heap.size + 1 + 1) r2 m (entV a' b')).heap.size := by rw [setPl_size, HSZ6.out]; omega
          exact ⟨⟨k + 1, (r2, m), a', b', by omega, by go_num, ⟨fun h => by rw [HF.out]; exact qGo_end (by rw [HNP.out]; exact h), fun _ => ⟨HF.out, by rw [preP_succ]; exact HPP.out⟩⟩, HF7, HR7, HH7, .inr ⟨by omega, by omega⟩, HC7, HS7, HB7⟩, by simp [intOf]; omega⟩
      · have HF : Hid (findQ LL q = ((zR, 0), 13)) := by show _ = _; rw [HKH.out]; exact qGo_stop (by rw [HNP.out]; exact hlt) h3
        have HE := HEN.out wr (r, n) a b ⟨part.toArray⟩ HHL.out h3
        clear h3
        go_wp2_with fail
        refine HE.mono ?_
        rintro e w5 ⟨rfl, hb5⟩
        have bA : Below wr.heap.size wr (w5.alloc (.cells #[.int .i64 0, .string ⟨#[]⟩, .string ⟨#[]⟩, .int .i64 0, .bool false, .int .i64 0, .nilFunc] 58)) := hb5.alloc hb5.size _
        have cA := hbw.trans (bA.mono hbw.size)
        have HR6 := HRS.out.below bA (by omega)
        obtain ⟨z0, z1, z2, z3, z4, z5, z6⟩ := HR6.cells
        have f0 := HR6.frozen 0
        have f1 := HR6.frozen 1
        have f2 := HR6.frozen 2
        have f3 := HR6.frozen 3
        have f4 := HR6.frozen 4
        have f5 := HR6.frozen 5
        have f6 := HR6.frozen 6
        clear HR6
        have hnil : nilPl = .agg #[.int .i64 0, .string ⟨#[]⟩, .string ⟨#[]⟩, .int .i64 0, .bool false, .int .i64 0, .nilFunc] := rfl
        rw [hnil]
        clear hnil x0 x1 x2 x3 x4 x5 x6 hfa
        go_wp2_with fail
        refine bodyPost_ret (v := .tuple #[.agg #[.int .i64 0, .string ⟨#[]⟩, .string ⟨#[]⟩, .int .i64 0, .bool false, .int .i64 0, .nilFunc], .int .i64 13]) (by simp [results, Tryz.results51, go_sem, z0, z1, z2, z3, z4, z5, z6]) rfl ⟨?_, none, by rw [HF.out]; rfl⟩
        repeat (refine Below.setCell ?_ (by simp) _)
        exact cA
    · have HF : Hid (findQ LL q = (p, 0)) := HK.out.1 (by omega)
      obtain ⟨r, n⟩ := p
      obtain ⟨x0, x1, x2, x3, x4, x5, x6⟩ := HAT.out.cells
      obtain ⟨z0, z1, z2, z3, z4, z5, z6⟩ := HRS.out.cells
      have f0 := HRS.out.frozen 0
      have f1 := HRS.out.frozen 1
      have f2 := HRS.out.frozen 2
      have f3 := HRS.out.frozen 3
      have f4 := HRS.out.frozen 4
      have f5 := HRS.out.frozen 5
      have f6 := HRS.out.frozen 6
      have hi1 : ¬ ((k : Int) < ((partsOf q.data.toList).length : Int)) := by omega
      unfold entV at x6
      dsimp only at x0 x1 x2 x3 x4 x5 x6
      go_wp2_with fail
      have HF7 := HRS.out.set r n (entV a b)
      have HB7 := setPl_below (r := r) (n := n) (f := entV a b) hbw (show w.heap.size ≤ w.heap.size + 1 by omega)
      generalize hWF : setPl wr (w.heap.size + 1) r n (entV a b) = WF at *
      obtain ⟨q0, q1, q2, q3, q4, q5, q6⟩ := HF7.cells
      unfold setPl entV at hWF
      rw [hWF]
      clear hWF
      exact bodyPost_ret (v := .tuple #[plV (r, n) (entV a b), .int .i64 0]) (by simp [results, Tryz.results51, go_sem, plV, entV, q0, q1, q2, q3, q4, q5, q6]) rfl ⟨HB7, some (a, b), by rw [HF.out]; rfl⟩
end Go.Proofs.YtibekkfbpmloiaaGreatDoor.Recs
