/- Parts of several texts of mine in one file (each begins with its own remark). -/
import Derived.Test.YtibekkfbpmloiabGreatDoorCA1
import Derived.Test.YtibekkfbpmloiabGreatDoorCA10
import Derived.Test.YtibekkfbpmloiabGreatDoorCA11
import Derived.Test.YtibekkfbpmloiabGreatDoorCA14
import Derived.Test.YtibekkfbpmloiabGreatDoorCA15
import Derived.Test.YtibekkfbpmloiabGreatDoorCA16
import Derived.Test.YtibekkfbpmloiabGreatDoorCA17
import Derived.Test.YtibekkfbpmloiabGreatDoorCA18
import Derived.Test.YtibekkfbpmloiabGreatDoorCA19
import Derived.Test.YtibekkfbpmloiabGreatDoorCA2
import Derived.Test.YtibekkfbpmloiabGreatDoorCA20
import Derived.Test.YtibekkfbpmloiabGreatDoorCA22
import Derived.Test.YtibekkfbpmloiabGreatDoorCA3
import Derived.Test.YtibekkfbpmloiabGreatDoorCA4
import Derived.Test.YtibekkfbpmloiabGreatDoorCA5
import Derived.Test.YtibekkfbpmloiabGreatDoorCA6
import Derived.Test.YtibekkfbpmloiabGreatDoorCA7
import Derived.Test.YtibekkfbpmloiabGreatDoorCA8
import Derived.Test.YtibekkfbpmloiabGreatDoorCA9
import Derived.Test.YtibekkfbpmloiabGreatDoorCC1
import Derived.Test.YtibekkfbpmloiabGreatDoorCC10
import Derived.Test.YtibekkfbpmloiabGreatDoorCC11
import Derived.Test.YtibekkfbpmloiabGreatDoorCC12
import Derived.Test.YtibekkfbpmloiabGreatDoorCC13
import Derived.Test.YtibekkfbpmloiabGreatDoorCC6
import Derived.Test.YtibekkfbpmloiabGreatDoorCC8
import Derived.Test.YtibekkfbpmloiabGreatDoorCC9
import Derived.Test.YtibekkfbpmloiabGreatDoorChecked
import Derived.Test.YtibekkfbpmloiabGreatDoorShelf
import Derived.Test.YtibekkfbpmloiabGreatDoorProg
import Derived.Test.YtibekkfbpmloiabGreatDoorRows
import Derived.Maps.OwnIn
import Derived.Deep.Slices
import Derived.OpenShut
import Derived.ShutString
import Derived.ChangeArms
import Derived.WideShapes
import Derived.Lib.LaidTab
import Derived.BigQuiet
import Derived.Deep.QuietTactic
import Derived.Deep.RegionHeld3
import Derived.StillTailTactics
import Derived.Deep.Draws
import Derived.Deep.LoopGhost
import Derived.WalkKit
import Derived.WalkSpells
import Derived.WalkSmall
import Derived.Lib.OthersKept
import Derived.Lib.Hide
import Derived.Lib.Strings
import Derived.Lib.Join
import Derived.WalkLawsBesides
import Derived.Laws.BytesArg
import Derived.Laws.OwnMore
import Derived.BigRegion
import Derived.Stop.LaidErr
import Derived.LaidEql
import Derived.Stop.Asserts
import Derived.Below
import Derived.Stop.LaidTwo
import Derived.Deep.RegionWith
import Derived.Laws.AppendOwnNone
import Derived.RegionTactic
import Derived.RangeFuncNested
import Derived.RangeFuncBound
import Derived.RangeFuncCalls
import Derived.RangeFuncLeaves
import Derived.RangeFuncBox
import Derived.Shelf.Abstract
import Derived.Shelf.RegionOpen
import Derived.OwnWalkIn
import Derived.TacticsInMore
import Derived.LoopNIn
import Derived.LoopIn
import Derived.ChangeVars
import Derived.Deep.DeepHandedRow
import Derived.OneCell
import Derived.Lib.SliceRun
import Derived.Lib.Overlaps
import Derived.Lib.AppendZerosOnto
import Derived.Laws.NewBlocks
import Derived.Laws.IdiomCopy
import Derived.Deep.RegionLaw
import Derived.Laws.IdiomRangeMap
import Derived.Maps.RangeWalk
import Derived.Maps.Ext
import Derived.Lib.SlMapFilter
import Derived.Deep.Cut
import Derived.Deep.CutRange
import Derived.Deep.AppendLies
import Derived.Laws.EntriesVeiled
import Derived.Deep.CutBlock
/- LayerBetween, of the program. Conditions: the table of kinds, the two sentinels. -/
namespace Go.Proofs.YtibekkfbpmloiabGreatDoor.Recs
set_option maxRecDepth 100000
open Go.RowKit Paths Errs Go.Shelf
attribute [local go_sem] Oper.semAt_some

def limB (L : List R) : List R := if 16 < L.length then [] else L
def lbC (A B : List R) : Int := if codeNN A B = 0 then (if 16 < (betP A B).length then 6 else 0) else codeNN A B
def lbR (A B : List R) : List R := if codeNN A B = 0 then limB (betP A B) else []
theorem lb_bad {A B : List R} {c : Int} (h : codeNN A B = c) (hc : c ≠ 0) : lbC A B = c ∧ lbR A B = [] := by
  unfold lbC lbR
  rw [if_neg (by rw [h]; exact hc), if_neg (by rw [h]; exact hc), h]
  exact ⟨rfl, rfl⟩
theorem lb_many {A B : List R} (h : codeNN A B = 0) (hl : 16 < (betP A B).length) : lbC A B = 6 ∧ lbR A B = [] := by
  unfold lbC lbR limB
  rw [if_pos h, if_pos h, if_pos hl, if_pos hl]
  exact ⟨rfl, rfl⟩
theorem lb_ok {A B : List R} (h : codeNN A B = 0) (hl : ¬ 16 < (betP A B).length) : lbC A B = 0 ∧ lbR A B = betP A B := by
  unfold lbC lbR limB
  rw [if_pos h, if_pos h, if_neg hl, if_neg hl]
  exact ⟨rfl, rfl⟩
theorem lb_len (A B : List R) : (lbR A B).length ≤ 1048576 := by
  unfold lbR limB
  split
  · split
    · simp
    · omega
  · simp

set_option maxHeartbeats 8000000 in
theorem LayerBetween_impl (v1 v2 : Value) (A B : List R) (x y : Addr) (w : World) (h1 : NodSl w v1 A) (h2 : NodSl w v2 B) (hl1 : A.length ≤ 1048576) (hl2 : B.length ≤ 1048576)
    (hr1 : ∀ r ∈ A, r.p.size ≤ maxLen) (hr2 : ∀ r ∈ B, r.p.size ≤ maxLen) (hT : Three w x y) :
    Calls Tryz.prog 13 #[v1, v2] w fun e w' => ∃ z, e = .returned (.tuple #[z, .int .i64 (lbC A B)]) ∧ Below w.heap.size w w' ∧ RowOf w' w.heap.size z (lbR A B).length (lbR A B) := by
  have HARG : enFrom [growK A, growK B] 0 = codeNN A B := arg_nn A B
  have HC1 := checkTree_any v1 A x y w h1 hl1 hr1 hT
  have HC2 := fun w1 (hb : Below w.heap.size w w1) => checkTree_any v2 B x y w1 (h2.below hb) hl2 hr2 (hT.below hb (Nat.le_refl _))
  by_cases h0 : codeNN A B = 0
  · obtain ⟨ht1, ht2⟩ := nn_ok h0
    have H0 := Lib.hid h0
    rw [grow_ok2 ht1] at HC1
    rw [grow_ok2 ht2] at HC2
    unfold EN.val at HC1 HC2
    have hTA := tree_of ht1
    have hTB := tree_of ht2
    have HB := fun w3 (hb : Below w.heap.size w w3) => layerBetween_any v1 v2 A B w3 (h1.below hb) (h2.below hb) hTA hTB
    have hbl : (betP A B).length ≤ 192 := by
      have h1 := lbL_len B (chgs A B) (fun d hd => chg_path hTA.is.path hTB.is.path ((chg_mem A B hTA.sorted hTB.sorted d).1 hd))
      rw [show lbL B (chgs A B) = betP A B from rfl] at h1
      have := hTA.len
      have := hTB.len
      have := chg_len A B
      omega
    obtain ⟨a1, cap1, rfl⟩ := nodSl_form h1
    obtain ⟨a2, cap2, rfl⟩ := nodSl_form h2
    clear HARG h0 ht1 ht2 h1 h2 hTA hTB
    go_enter Tryz.func13, Tryz.ntmps13
    go_wp2_with fail
    refine HC1.mono ?_
    rintro e w1 ⟨rfl, hb1⟩
    go_wp2_with fail
    refine (HC2 w1 hb1).mono ?_
    rintro e w2 ⟨rfl, hb2⟩
    have c2 := hb1.trans (hb2.mono hb1.size)
    have HA := argN2_any .fine .fine x y w2 (hT.below c2 (Nat.le_refl _))
    unfold EN.val at HA
    rw [show enFrom [.fine, .fine] 0 = 0 from rfl] at HA
    go_wp2_with fail
    refine HA.mono ?_
    rintro e w3 ⟨rfl, hb3⟩
    have c3 := c2.trans (hb3.mono c2.size)
    clear HA HC1 HC2
    go_wp2_with fail
    refine (HB w3 c3).mono ?_
    rintro e w4 ⟨z, rfl, hb4, hrow⟩
    have c4 := c3.trans (hb4.mono c3.size)
    have HRW : Hid (RowOf w4 w.heap.size z (betP A B).length (betP A B)) := ⟨rfl, own_le hrow.2 c3.size⟩
    obtain ⟨zA, zcap, rfl⟩ := own_form HRW.out.2
    clear hrow
    by_cases hm : 16 < (betP A B).length
    · have HQ := Lib.hid (lb_many H0.out hm)
      have hd : decide (((betP A B).length : Int) > 16) = true := decide_eq_true (by omega)
      go_wp2_with fail
      go_ret2
      exact ⟨.slice none 0 0, by rw [HQ.out.1]; rfl, c4, by rw [HQ.out.2]; exact ⟨rfl, World.ownsRow_nil _ _ _ _⟩⟩
    · have HQ := Lib.hid (lb_ok H0.out hm)
      have hd : decide (((betP A B).length : Int) > 16) = false := decide_eq_false (by omega)
      go_wp2_with fail
      go_ret2
      exact ⟨.slice zA (betP A B).length zcap, by rw [HQ.out.1]; rfl, c4, by rw [HQ.out.2]; exact HRW.out⟩
  · cases hga : growK A <;> cases hgb : growK B <;> (
      rw [hga, hgb] at HARG
      first
      | exact absurd (HARG.symm.trans rfl) h0
      | (rw [hga] at HC1
         rw [hgb] at HC2
         unfold EN.val at HC1 HC2
         try unfold errV at HC1
         try unfold errV at HC2
         have HAA := fun w2 hb => argN2_any (growK A) (growK B) x y w2 (hT.below hb (Nat.le_refl _))
         rw [hga, hgb] at HAA
         have hne : (codeNN A B != 0) = true := (by simpa using h0)
         have HQ := Lib.hid (lb_bad (A := A) (B := B) rfl h0)
         rw [HARG] at HAA
         unfold EN.val at HAA
         try unfold errV at HAA
         generalize hC : codeNN A B = C at *
         have HCC := Lib.hid hC
         obtain ⟨a1, cap1, rfl⟩ := nodSl_form h1
         obtain ⟨a2, cap2, rfl⟩ := nodSl_form h2
         clear HARG h0 hC h1 h2
         go_enter Tryz.func13, Tryz.ntmps13
         go_wp2_with fail
         refine HC1.mono ?_
         rintro e w1 ⟨rfl, hb1⟩
         go_wp2_with fail
         refine (HC2 w1 hb1).mono ?_
         rintro e w2 ⟨rfl, hb2⟩
         have c2 := hb1.trans (hb2.mono hb1.size)
         go_wp2_with fail
         refine (HAA w2 c2).mono ?_
         rintro e w3 ⟨rfl, hb3⟩
         have c3 := c2.trans (hb3.mono c2.size)
         go_wp2_with fail
         go_ret2
         exact ⟨.slice none 0 0, by rw [HQ.out.1]; rfl, c3, by rw [HQ.out.2]; exact ⟨rfl, World.ownsRow_nil _ _ _ _⟩⟩))
end Go.Proofs.YtibekkfbpmloiabGreatDoor.Recs

/- The layer between two trees, of the model: what changed, what is gone. -/
namespace Go.Proofs.YtibekkfbpmloiabGreatDoor.Recs
set_option maxRecDepth 100000
open Go.RowKit Paths
attribute [local go_sem] Oper.semAt_some

theorem nod_new (w : World) (n : R) (t : TypeId) : NodCells (w.alloc (.cells #[.int .i64 n.k, .string n.p, .string n.b, .int .i64 n.m] t)) w.heap.size 0 n := by
  refine ⟨?_, ?_, ?_, ?_⟩ <;> go_simp
theorem ne_some {A : List R} {n : R} {j : Nat} {hj : j < A.length} (h : recAt A n.p = some A[j]) (hne : A[j] ≠ n) : decide (recAt A n.p ≠ some n) = true := decide_eq_true fun e => hne (Option.some.inj (h.symm.trans e))
theorem ne_none {A : List R} {n : R} (h : recAt A n.p = none) : decide (recAt A n.p ≠ some n) = true := decide_eq_true fun e => by rw [h] at e; cases e
theorem eq_some {A : List R} {n : R} {j : Nat} {hj : j < A.length} (h : recAt A n.p = some A[j]) (he : A[j] = n) : decide (recAt A n.p ≠ some n) = false := decide_eq_false fun e => e (h.trans (congrArg some he))

set_option maxHeartbeats 3200000 in
theorem l08Changed_any (v : Value) (A : List R) (n : R) (w : World) (h : NodSl w v A) (hl : A.length ≤ 1048576) (ho : n.o = false) :
    Calls Tryz.prog 137 #[v, n.nod] w fun e w' => e = .returned (.bool (decide (recAt A n.p ≠ some n))) ∧ Below w.heap.size w w' := by
  have HB : Hid (Below w.heap.size w (w.alloc (.cells #[.int .i64 n.k, .string n.p, .string n.b, .int .i64 n.m] 68))) := (Below.refl _ _).alloc (Nat.le_refl _) _
  have HX := Lib.hid (nod_new w n 68)
  have hsl := h.below HB.out
  have HAT := l04At_any v A n.p _ hsl hl
  have HOO : ∀ r ∈ A, r.o = false := h.1
  obtain ⟨_, a1, cap1, rfl, hcap, h⟩ := hsl
  have H := Lib.hid h
  have HO := Lib.hid HOO
  have hx1 := HX.out.2.1
  unfold R.nod
  clear h hcap HOO
  go_enter Tryz.func137, Tryz.ntmps137
  go_wp2_with fail
  refine HAT.mono ?_
  rintro e w1 ⟨rfl, rfl⟩
  clear HAT hx1
  rcases atL_recAt A n.p with ⟨ha, hr⟩ | ⟨j, hj, ha, hr⟩
  · have HR := Lib.hid (ne_none hr)
    rw [ha]
    clear ha hr
    go_wp2_with fail
    go_quiet (fail)
    go_wp2_with fail
    go_ret
    exact ⟨ret_bool HR.out.symm, below_drewN HB.out nq⟩
  · obtain ⟨b, off, rfl, hb, hcell⟩ := H.out (by omega)
    obtain ⟨c0, c1, c2, c3⟩ := hcell j A[j] (by simp [hj])
    obtain ⟨d0, d1, d2, d3⟩ := HX.out
    have f4 : (A[j].o == n.o) = true := by rw [HO.out _ (List.getElem_mem hj), ho]; rfl
    have j1 : (0 : Int) ≤ (j : Int) := by omega
    have j2 : (j : Int) < (A.length : Int) := by omega
    have j3 : decide ((j : Int) < (0 : Int)) = false := by simp
    rw [ha]
    clear ha hcell H
    rcases four A[j] n with f0 | ⟨f0, f1⟩ | ⟨f0, f1, f2⟩ | ⟨f0, f1, f2, f3⟩ | ⟨f0, f1, f2, f3⟩
    · have HR := Lib.hid (ne_some hr (fun e => by rw [e] at f0; simp at f0))
      go_wp2_with fail
      go_quiet (fail)
      go_wp2_with fail
      go_ret
      exact ⟨ret_bool HR.out.symm, below_drewN HB.out nq⟩
    · have HR := Lib.hid (ne_some hr (fun e => by rw [e] at f1; simp at f1))
      go_wp2_with fail
      go_quiet (fail)
      go_wp2_with fail
      go_ret
      exact ⟨ret_bool HR.out.symm, below_drewN HB.out nq⟩
    · have HR := Lib.hid (ne_some hr (fun e => by rw [e] at f2; simp at f2))
      go_wp2_with fail
      go_quiet (fail)
      go_wp2_with fail
      go_ret
      exact ⟨ret_bool HR.out.symm, below_drewN HB.out nq⟩
    · have HR := Lib.hid (ne_some hr (fun e => by rw [e] at f3; simp at f3))
      go_wp2_with fail
      go_quiet (fail)
      go_wp2_with fail
      go_ret
      exact ⟨ret_bool HR.out.symm, below_drewN HB.out nq⟩
    · have HR := Lib.hid (eq_some hr (rec_eq f0 f1 f2 f3 f4))
      go_wp2_with fail
      go_quiet (fail)
      go_wp2_with fail
      go_ret
      exact ⟨ret_bool HR.out.symm, below_drewN HB.out nq⟩

/-- The paths of what is gone, the highest. -/
def gone (A B : List R) : List ByteArray := (A.filter fun m => (recAt B m.p).isNone && homed B m.p).map R.p
def goneT (A B : List R) (k : Nat) : List ByteArray := gone (A.take k) B
theorem gone_step {A B : List R} {k : Nat} (h : k < A.length) : goneT A B (k + 1) = if ((recAt B A[k].p).isNone && homed B A[k].p) = true then goneT A B k ++ [A[k].p] else goneT A B k := by
  unfold goneT gone
  rw [List.take_add_one, List.getElem?_eq_getElem h, Option.toList_some, List.filter_append]
  split
  · rename_i hc
    rw [show ([A[k]].filter fun m => (recAt B m.p).isNone && homed B m.p) = [A[k]] from List.filter_cons_of_pos (p := fun m : R => (recAt B m.p).isNone && homed B m.p) hc, List.map_append]
    rfl
  · rename_i hc
    rw [show ([A[k]].filter fun m => (recAt B m.p).isNone && homed B m.p) = [] from List.filter_cons_of_neg (p := fun m : R => (recAt B m.p).isNone && homed B m.p) hc, List.append_nil]
theorem gone_len (A B : List R) (k : Nat) : (goneT A B k).length ≤ k := by
  unfold goneT gone
  rw [List.length_map]
  exact Nat.le_trans (List.length_filter_le _ _) (by rw [List.length_take]; omega)
theorem strS_snoc {w : World} {base : Nat} {v : Value} {M : List ByteArray} {q : ByteArray} (h : w.ownsRow base 9 1 v (M.length + 1) (M.map Value.string ++ [.string q])) : w.ownsRow base 9 1 v (M ++ [q]).length ((M ++ [q]).map Value.string) := by
  rw [List.map_append, List.length_append]
  exact h

set_option maxHeartbeats 3200000 in
theorem l08Gone_any (v1 v2 : Value) (A B : List R) (w : World) (h1 : NodSl w v1 A) (h2 : NodSl w v2 B) (hl1 : A.length ≤ 4096) (hl2 : B.length ≤ 1048576) (hp : ∀ r ∈ A, pathB r.p.data.toList = true) :
    Calls Tryz.prog 136 #[v1, v2] w fun e w' => ∃ z, e = .returned z ∧ Below w.heap.size w w' ∧ w'.ownsRow w.heap.size 9 1 z (gone A B).length ((gone A B).map Value.string) ∧ z ≠ .slice none 0 0 := by
  obtain ⟨i0, hi, hz0, hz1, hz2⟩ := info_parts strInfo
  have HS2 := Lib.hid h2
  have HP := Lib.hid hp
  obtain ⟨_, a1, cap1, rfl, hcap1, h1⟩ := h1
  obtain ⟨_, a2, cap2, rfl, hcap2, h2⟩ := h2
  have H1 := Lib.hid h1
  have H2 := Lib.hid h2
  have HEND : Hid (goneT A B A.length = gone A B) := by show _ = _; unfold goneT; rw [List.take_length]
  have R0 : Hid ((w.alloc (.cells #[] 9)).ownsRow w.heap.size 9 1 (.slice (some ⟨w.heap.size, 0, none⟩) 0 0) (goneT A B 0).length ((goneT A B 0).map Value.string)) := World.ownsRow_lit w #[] 0 (Nat.le_refl _) (Nat.zero_le _) rfl
  clear h1 h2 hp
  go_enter Tryz.func136, Tryz.ntmps136
  go_wp2_with fail
  go_loopw [5, 6] (fun o i wr => ∃ k : Nat, k ≤ A.length ∧ i = .int .i64 k ∧ wr.ownsRow w.heap.size 9 1 o (goneT A B k).length ((goneT A B k).map Value.string) ∧ Below w.heap.size w wr ∧ o ≠ .slice none 0 0) (fun _ i _ => A.length - (intOf i).toNat)
  case atStart => exact ⟨0, by omega, rfl, R0.out, (Below.refl _ _).alloc (Nat.le_refl _) _, by simp⟩
  case round =>
    obtain ⟨k, hk, rfl, hrow, hbw, hne⟩ := hrel
    obtain ⟨fA, fcap, rfl⟩ := own_form hrow
    have hgl := gone_len A B k
    have hbz := hbw.size
    by_cases hlt : k < A.length
    · obtain ⟨b1, off1, rfl, hb1, hcell1⟩ := H1.out (by omega)
      obtain ⟨_, p1, _, _⟩ := (hcell1 k A[k] (by simp [hlt])).below hbw hb1
      have hpk := HP.out _ (List.getElem_mem hlt)
      have hqs := path_short hpk
      have hi1 : (k : Int) < (A.length : Int) := by omega
      have hi0 : (0 : Int) ≤ (k : Int) := by omega
      have HP1 : ∀ w', Calls Tryz.prog 126 #[.string A[k].p] w' fun e w'' => e = .returned (.string (parO A[k].p)) ∧ w' = w'' := fun w' => l01Parent_any A[k].p w' (by unfold maxLen; omega)
      have HA1 : ∀ w', Below w.heap.size w w' → Calls Tryz.prog 127 #[.slice a2 B.length cap2, .string A[k].p] w' fun e w'' => e = .returned (.int .i64 (atL B A[k].p)) ∧ w' = w'' := fun w' hb => l04At_any _ B _ w' (HS2.out.below hb) hl2
      have HA2 : ∀ w', Below w.heap.size w w' → Calls Tryz.prog 127 #[.slice a2 B.length cap2, .string (parO A[k].p)] w' fun e w'' => e = .returned (.int .i64 (atL B (parO A[k].p))) ∧ w' = w'' := fun w' hb => l04At_any _ B _ w' (HS2.out.below hb) hl2
      clear hcell1
      rcases atL_recAt B A[k].p with ⟨ha, hr⟩ | ⟨j, hj, ha, hr⟩
      · by_cases hp0 : parentL A[k].p.data.toList = []
        · have he := isEmpty_true (parO_size hp0)
          have HC : Hid (((recAt B A[k].p).isNone && homed B A[k].p) = true) := by show _ = _; rw [hr, homed_root hp0]; rfl
          clear hr hp0
          have HN : Hid (goneT A B (k + 1) = goneT A B k ++ [A[k].p]) := (gone_step hlt).trans (if_pos HC.out)
          have hrA := hrow.alloc (.cells #[.string A[k].p] 9)
          have hbA := hbw.alloc hbw.size (.cells #[.string A[k].p] 9)
          rw [ha] at HA1
          go_wp2_with fail
          refine (HP1 _).mono ?_
          rintro e w1 ⟨rfl, rfl⟩
          go_wp2_with fail
          refine (HA2 _ hbw).mono ?_
          rintro e w1 ⟨rfl, rfl⟩
          go_wp2_with fail
          refine (HA1 _ hbw).mono ?_
          rintro e w1 ⟨rfl, rfl⟩
          go_wp2_with (first
            | (at_builtin; refine wpList_append_own _ rfl _ _ 32 rfl w.heap.size 9 i0 (.string ByteArray.empty) 1 16 Tryz.underlying32 hi hz0 hz1 hz2 rfl (by decide) _ _ _ rfl hrA ⟨wr.heap.size, 0, none⟩ 1 1 [.string A[k].p] rfl rfl (cell_one_new _ _ _) (fun x hx => by simp at hx; subst hx; rfl) (by unfold maxLen; omega) (by omega) (by simp; omega) ?_; intro v' w9 hown' hgrow9 hnil9))
          exact ⟨⟨k + 1, by omega, by go_num, by rw [HN.out]; exact strS_snoc hown', hbA.grown hgrow9 hbA.size (fun j hj => (hrA.lt j hj).1), fun e => by have := (hnil9.1 e).2; omega⟩, by simp [intOf]; omega⟩
        · have he := isEmpty_false (Nat.pos_of_ne_zero (path_pos (parts_parent hpk hp0).1))
          rcases atL_recAt B (parO A[k].p) with ⟨hb, hs⟩ | ⟨i, hii, hb, hs⟩
          · have HC : Hid (((recAt B A[k].p).isNone && homed B A[k].p) = false) := by show _ = _; rw [hr, homed_none hp0 hs]; rfl
            rw [hb] at HA2
            clear hr hp0 hs hb
            have HN : Hid (goneT A B (k + 1) = goneT A B k) := (gone_step hlt).trans (if_neg (by rw [HC.out]; decide))
            rw [ha] at HA1
            go_wp2_with fail
            refine (HP1 _).mono ?_
            rintro e w1 ⟨rfl, rfl⟩
            go_wp2_with fail
            refine (HA2 _ hbw).mono ?_
            rintro e w1 ⟨rfl, rfl⟩
            go_wp2_with fail
            refine (HA1 _ hbw).mono ?_
            rintro e w1 ⟨rfl, rfl⟩
            go_wp2_with fail
            exact ⟨⟨k + 1, by omega, by go_num, by rw [HN.out]; exact hrow, hbw, hne⟩, by simp [intOf]; omega⟩
          · obtain ⟨b2, off2, rfl, hb2, hcell2⟩ := H2.out (by omega)
            obtain ⟨c0, _, _, _⟩ := (hcell2 i B[i] (by simp [hii])).below hbw hb2
            have j1 : (0 : Int) ≤ (i : Int) := by omega
            have j2 : (i : Int) < (B.length : Int) := by omega
            rw [hb] at HA2
            clear hcell2 hb
            by_cases hk3 : B[i].k = 3
            · have HC : Hid (((recAt B A[k].p).isNone && homed B A[k].p) = true) := by show _ = _; rw [hr, homed_at hs hk3]; rfl
              rw [hk3] at c0
              clear hr hp0 hs
              have HN : Hid (goneT A B (k + 1) = goneT A B k ++ [A[k].p]) := (gone_step hlt).trans (if_pos HC.out)
              have hrA := hrow.alloc (.cells #[.string A[k].p] 9)
              have hbA := hbw.alloc hbw.size (.cells #[.string A[k].p] 9)
              rw [ha] at HA1
              go_wp2_with fail
              refine (HP1 _).mono ?_
              rintro e w1 ⟨rfl, rfl⟩
              go_wp2_with fail
              refine (HA2 _ hbw).mono ?_
              rintro e w1 ⟨rfl, rfl⟩
              go_wp2_with fail
              refine (HA1 _ hbw).mono ?_
              rintro e w1 ⟨rfl, rfl⟩
              go_wp2_with (first
                | (at_builtin; refine wpList_append_own _ rfl _ _ 32 rfl w.heap.size 9 i0 (.string ByteArray.empty) 1 16 Tryz.underlying32 hi hz0 hz1 hz2 rfl (by decide) _ _ _ rfl hrA ⟨wr.heap.size, 0, none⟩ 1 1 [.string A[k].p] rfl rfl (cell_one_new _ _ _) (fun x hx => by simp at hx; subst hx; rfl) (by unfold maxLen; omega) (by omega) (by simp; omega) ?_; intro v' w9 hown' hgrow9 hnil9))
              exact ⟨⟨k + 1, by omega, by go_num, by rw [HN.out]; exact strS_snoc hown', hbA.grown hgrow9 hbA.size (fun j hj => (hrA.lt j hj).1), fun e => by have := (hnil9.1 e).2; omega⟩, by simp [intOf]; omega⟩
            · have HC : Hid (((recAt B A[k].p).isNone && homed B A[k].p) = false) := by show _ = _; rw [hr, homed_no hp0 hs hk3]; rfl
              have hd3 : (B[i].k == 3) = false := by simp [hk3]
              clear hr hp0 hs hk3
              have HN : Hid (goneT A B (k + 1) = goneT A B k) := (gone_step hlt).trans (if_neg (by rw [HC.out]; decide))
              rw [ha] at HA1
              go_wp2_with fail
              refine (HP1 _).mono ?_
              rintro e w1 ⟨rfl, rfl⟩
              go_wp2_with fail
              refine (HA2 _ hbw).mono ?_
              rintro e w1 ⟨rfl, rfl⟩
              go_wp2_with fail
              refine (HA1 _ hbw).mono ?_
              rintro e w1 ⟨rfl, rfl⟩
              go_wp2_with fail
              exact ⟨⟨k + 1, by omega, by go_num, by rw [HN.out]; exact hrow, hbw, hne⟩, by simp [intOf]; omega⟩
      · have HC : Hid (((recAt B A[k].p).isNone && homed B A[k].p) = false) := by show _ = _; rw [hr]; rfl
        have j3 : decide ((j : Int) < (0 : Int)) = false := by simp
        clear hr
        have HN : Hid (goneT A B (k + 1) = goneT A B k) := (gone_step hlt).trans (if_neg (by rw [HC.out]; decide))
        rw [ha] at HA1
        go_wp2_with fail
        refine (HP1 _).mono ?_
        rintro e w1 ⟨rfl, rfl⟩
        go_wp2_with fail
        refine (HA2 _ hbw).mono ?_
        rintro e w1 ⟨rfl, rfl⟩
        go_wp2_with fail
        refine (HA1 _ hbw).mono ?_
        rintro e w1 ⟨rfl, rfl⟩
        go_wp2_with fail
        exact ⟨⟨k + 1, by omega, by go_num, by rw [HN.out]; exact hrow, hbw, hne⟩, by simp [intOf]; omega⟩
    · have hkk : k = A.length := by omega
      subst hkk
      go_wp2_with fail
      go_ret
      exact ⟨_, rfl, hbw, by rw [← HEND.out]; exact hrow, hne⟩
end Go.Proofs.YtibekkfbpmloiabGreatDoor.Recs

/- Paths in their order: a path put in from the back (plain: for the model's list of paths). -/
namespace Go.Proofs.YtibekkfbpmloiabGreatDoor.Recs
set_option maxRecDepth 100000
open Paths

theorem lessQ_asymm {a b : ByteArray} (h : lessQ a b = true) : lessQ b a = false := by
  cases h2 : lessQ b a with
  | false => rfl
  | true => exact absurd (lessQ_trans _ _ _ h h2) (lessQ_irr a)
end Go.Proofs.YtibekkfbpmloiabGreatDoor.Recs
