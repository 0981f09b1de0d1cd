/- Parts of several texts of mine in one file (each begins with its own remark). -/
import Derived.Test.YtcbmnihepeefaaaGreatDoorCA10
import Derived.Test.YtcbmnihepeefaaaGreatDoorCA2
import Derived.Test.YtcbmnihepeefaaaGreatDoorCA3
import Derived.Test.YtcbmnihepeefaaaGreatDoorCA4
import Derived.Test.YtcbmnihepeefaaaGreatDoorCA5
import Derived.Test.YtcbmnihepeefaaaGreatDoorCA6
import Derived.Test.YtcbmnihepeefaaaGreatDoorCA8
import Derived.Test.YtcbmnihepeefaaaGreatDoorCA9
import Derived.Test.YtcbmnihepeefaaaGreatDoorCC3
import Derived.Test.YtcbmnihepeefaaaGreatDoorCE1
import Derived.Test.YtcbmnihepeefaaaGreatDoorCE3
import Derived.Test.YtcbmnihepeefaaaGreatDoorCE4
import Derived.Test.YtcbmnihepeefaaaGreatDoorCI1
import Derived.Test.YtcbmnihepeefaaaGreatDoorChecked
import Derived.Test.YtcbmnihepeefaaaGreatDoorShelf
import Derived.Test.YtcbmnihepeefaaaGreatDoorProg
import Derived.Test.YtcbmnihepeefaaaGreatDoorRows
import Derived.Stop.LaidErr
import Derived.StillTailTactics
import Derived.Laws.OwnMore
import Derived.BigQuiet
import Derived.BigRegion
import Derived.Deep.QuietTactic
import Derived.Deep.RegionHeld3
import Derived.Deep.Slices
import Derived.OpenShut
import Derived.ShutString
import Derived.ChangeArms
import Derived.WideShapes
import Derived.Lib.LaidTab
import Derived.Deep.Draws
import Derived.Deep.LoopGhost
import Derived.WalkKit
import Derived.WalkSpells
import Derived.WalkSmall
import Derived.Lib.OthersKept
import Derived.Lib.Hide
import Derived.Lib.Strings
import Derived.Lib.Join
import Derived.Laws.BytesArg
import Derived.WalkLawsBesides
import Derived.LaidEql
import Derived.Stop.Asserts
import Derived.Below
import Derived.Stop.LaidTwo
import Derived.ChangeVars
import Derived.Deep.DeepHandedRow
import Derived.Deep.RegionLaw
import Derived.Deep.RegionWith
import Derived.OneCell
import Derived.Lib.SliceRun
import Derived.Lib.Overlaps
import Derived.Lib.AppendZerosOnto
import Derived.Laws.NewBlocks
import Derived.Laws.IdiomCopy
/- SquashAll, of the program and of its model. Conditions (of the program's): the table of kinds, the two sentinels. -/
namespace Go.Proofs.YtcbmnihepeefaaaGreatDoor.Recs
set_option maxRecDepth 100000
open Go.RowKit Paths Errs

theorem sqa_step {LL : List (List R)} {k : Nat} (h : k < LL.length) : squashAllL (LL.take (k + 1)) = squashL (squashAllL (LL.take k)) LL[k] := by
  unfold squashAllL
  rw [List.take_succ_eq_append_getElem h, List.foldl_append]
  rfl
theorem sqa_len {LL : List (List R)} (h : ∀ l ∈ LL, l.length ≤ 16) : ∀ k, k ≤ LL.length → (squashAllL (LL.take k)).length ≤ 16 * k
  | 0, _ => by simp [squashAllL]
  | k + 1, hk => by
    have ih := sqa_len h k (by omega)
    rw [sqa_step (by omega)]
    have h1 := squash_len (squashAllL (LL.take k)) LL[k]
    have h2 := h LL[k] (List.getElem_mem _)
    omega
set_option maxHeartbeats 1600000 in
theorem combinationOfAll_any (v : Value) (LL : List (List R)) (w : World) (h : StkSl w v LL) (hok : ∀ l ∈ LL, layerOK l = true) (hl : LL.length ≤ 5) :
    Calls Tryz.prog 150 #[v] w fun e w' => ∃ x, e = .returned x ∧ Below w.heap.size w w' ∧ RowOf w' w.heap.size x (squashAllL LL).length (squashAllL LL) := by
  obtain ⟨sA, cap, rfl, hcap, h⟩ := h
  have H := Lib.hid h
  have HOK := Lib.hid hok
  clear h hok
  go_enter Tryz.func150, Tryz.ntmps150
  go_wp2
  go_loopw [3, 8] (fun f i wr => ∃ (k : Nat) (M : List R), k ≤ LL.length ∧ i = .int .i64 k ∧ Hid (M = squashAllL (LL.take k)) ∧ RowOf wr w.heap.size f M.length M ∧ Below w.heap.size w wr) (fun _ i _ => LL.length - (intOf i).toNat)
  case atStart => exact ⟨0, [], by omega, rfl, rfl, ⟨rfl, World.ownsRow_nil _ _ _ _⟩, Below.refl _ _⟩
  case round =>
    obtain ⟨k, M, hk, rfl, HM, hrow, hbw⟩ := hrel
    obtain ⟨fA, fcap, rfl⟩ := hrow.form
    by_cases hlt : k < LL.length
    · obtain ⟨b, off, rfl, hb, hcell⟩ := H.out (by omega)
      obtain ⟨u, hu0, hur⟩ := hcell k LL[k] (by simp [hlt])
      have hu : wr.cell? ⟨b, off + k, none⟩ = some u := (hbw.cell (p := ⟨b, off + k, none⟩) hb).trans hu0
      have hus := hur.below hbw
      clear hcell hu0 hur
      have hi1 : (k : Int) < (LL.length : Int) := by omega
      have hi0 : (0 : Int) ≤ (k : Int) := by omega
      have hlk := HOK.out LL[k] (List.getElem_mem hlt)
      have hFM : Fine M := by
        rw [HM.out]
        exact (squashAll_canon (fun l hm => fine_layer (HOK.out l (List.mem_of_mem_take hm)))).isFine
      have hML : M.length ≤ 16 * k := by
        rw [HM.out]
        exact sqa_len (fun l hm => layer_len (HOK.out l hm)) k hk
      have h16 := layer_len hlk
      have HCO := combination_any _ u M LL[k] wr hrow.sl hus hFM (fine_layer hlk) (by omega)
      have HN : Hid (squashL M LL[k] = squashAllL (LL.take (k + 1))) := by show _ = _; rw [sqa_step hlt, ← HM.out]
      obtain ⟨uA, ucap, rfl, -⟩ := hus
      clear hFM hML h16 hlk
      go_wp2_with fail
      refine HCO.mono ?_
      rintro e w4 ⟨g, rfl, hb4, hg⟩
      go_wp2_with fail
      exact ⟨⟨k + 1, _, by omega, by go_num, HN, ⟨hg.1, own_le hg.2 hbw.size⟩, hbw.trans (hb4.mono hbw.size)⟩, by simp [intOf]; omega⟩
    · have HF : Hid (M = squashAllL LL) := by show _ = _; rw [HM.out, List.take_of_length_le (by omega)]
      go_wp2
      go_ret
      exact ⟨_, rfl, hbw, by rw [← HF.out]; exact hrow⟩

set_option maxHeartbeats 1600000 in
theorem l06All_any (v : Value) (LL : List (List R)) (w : World) (h : StkSl w v LL) (hok : ∀ l ∈ LL, layerOK l = true) (hl : LL.length ≤ 5) :
    Calls Tryz.prog 153 #[v] w fun e w' => ∃ x, e = .returned x ∧ Below w.heap.size w w' ∧ RowOf w' w.heap.size x (squashAllL LL).length (squashAllL LL) := by
  obtain ⟨sA, cap, rfl, hcap, h⟩ := h
  have H := Lib.hid h
  have HOK := Lib.hid hok
  clear h hok
  have hown0 : (w.alloc (.cells #[] 26)).ownsRow w.heap.size 26 5 (.slice (some ⟨w.heap.size, 0, none⟩) 0 0) 0 [] := World.ownsRow_lit w #[] 0 (Nat.le_refl _) (Nat.zero_le _) rfl
  go_enter Tryz.func153, Tryz.ntmps153
  go_wp2
  go_loopw [3, 4] (fun f i wr => ∃ (k : Nat) (M : List R), k ≤ LL.length ∧ i = .int .i64 k ∧ Hid (M = squashAllL (LL.take k)) ∧ RowOf wr w.heap.size f M.length M ∧ Below w.heap.size w wr) (fun _ i _ => LL.length - (intOf i).toNat)
  case atStart => exact ⟨0, [], by omega, rfl, rfl, ⟨rfl, hown0⟩, (Below.refl _ _).alloc (Nat.le_refl _) _⟩
  case round =>
    obtain ⟨k, M, hk, rfl, HM, hrow, hbw⟩ := hrel
    obtain ⟨fA, fcap, rfl⟩ := hrow.form
    by_cases hlt : k < LL.length
    · obtain ⟨b, off, rfl, hb, hcell⟩ := H.out (by omega)
      obtain ⟨u, hu0, hur⟩ := hcell k LL[k] (by simp [hlt])
      have hu : wr.cell? ⟨b, off + k, none⟩ = some u := (hbw.cell (p := ⟨b, off + k, none⟩) hb).trans hu0
      have hus := hur.below hbw
      clear hcell hu0 hur
      have hi1 : (k : Int) < (LL.length : Int) := by omega
      have hi0 : (0 : Int) ≤ (k : Int) := by omega
      have hlk := HOK.out LL[k] (List.getElem_mem hlt)
      have hFM : Fine M := by
        rw [HM.out]
        exact (squashAll_canon (fun l hm => fine_layer (HOK.out l (List.mem_of_mem_take hm)))).isFine
      have hML : M.length ≤ 16 * k := by
        rw [HM.out]
        exact sqa_len (fun l hm => layer_len (HOK.out l hm)) k hk
      have h16 := layer_len hlk
      have HCO := l06Two_any _ u M LL[k] wr hrow.sl hus hFM (fine_layer hlk) (by omega)
      have HN : Hid (squashL M LL[k] = squashAllL (LL.take (k + 1))) := by show _ = _; rw [sqa_step hlt, ← HM.out]
      obtain ⟨uA, ucap, rfl, -⟩ := hus
      clear hFM hML h16 hlk
      go_wp2_with fail
      refine HCO.mono ?_
      rintro e w4 ⟨g, rfl, hb4, hg⟩
      go_wp2_with fail
      exact ⟨⟨k + 1, _, by omega, by go_num, HN, ⟨hg.1, own_le hg.2 hbw.size⟩, hbw.trans (hb4.mono hbw.size)⟩, by simp [intOf]; omega⟩
    · have HF : Hid (M = squashAllL LL) := by show _ = _; rw [HM.out, List.take_of_length_le (by omega)]
      go_wp2
      go_ret
      exact ⟨_, rfl, hbw, by rw [← HF.out]; exact hrow⟩

def sqaC (LL : List (List R)) : Int := if codeS LL = 0 then limE (squashAllL LL) else codeS LL
def sqaR (LL : List (List R)) : List R := if codeS LL = 0 then limR (squashAllL LL) else []
theorem sqa_bad {LL : List (List R)} {c : Int} (h : codeS LL = c) (hc : c ≠ 0) : sqaC LL = c ∧ sqaR LL = [] := by
  unfold sqaC sqaR
  rw [if_neg (by rw [h]; exact hc), if_neg (by rw [h]; exact hc), h]
  exact ⟨rfl, rfl⟩
theorem sqa_full {LL : List (List R)} (h : codeS LL = 0) (hl : 16 < (squashAllL LL).length) : sqaC LL = 7 ∧ sqaR LL = [] := by
  unfold sqaC sqaR limE limR
  rw [if_pos h, if_pos h, if_pos hl, if_pos hl]
  exact ⟨rfl, rfl⟩
theorem sqa_fine {LL : List (List R)} (h : codeS LL = 0) (hl : ¬ 16 < (squashAllL LL).length) : sqaC LL = 0 ∧ sqaR LL = squashAllL LL := by
  unfold sqaC sqaR limE limR
  rw [if_pos h, if_pos h, if_neg hl, if_neg hl]
  exact ⟨rfl, rfl⟩
theorem sqaR_len (LL : List (List R)) : (sqaR LL).length ≤ 1048576 := by
  unfold sqaR limR
  split
  · split
    · simp
    · omega
  · simp

set_option maxHeartbeats 1600000 in
theorem squashAll_impl (v : Value) (LL : List (List R)) (x y : Addr) (w : World) (h : StkSl w v LL) (hl : LL.length ≤ 1048576) (hr : ∀ l ∈ LL, l.length ≤ 1048576 ∧ ∀ r ∈ l, r.p.size ≤ maxLen) (hT : Three w x y) :
    Calls Tryz.prog 79 #[v] w fun e w' => ∃ z, e = .returned (.tuple #[z, .int .i64 (sqaC LL)]) ∧ Below w.heap.size w w' ∧ RowOf w' w.heap.size z (sqaR LL).length (sqaR LL) := by
  have HARG : euFrom [(stkE LL).u] 0 = codeS LL := arg_s LL
  by_cases h0 : codeS LL = 0
  · obtain ⟨hc, hSO⟩ := fine_s h0
    have H0 := Lib.hid h0
    have HC := stackU_any v LL x y w h hl hr hT
    rw [hc] at HC
    unfold EN.u EU.val at HC
    clear HARG h0
    go_enter Tryz.func79, Tryz.ntmps79
    go_wp2_with fail
    refine HC.mono ?_
    rintro e w1 ⟨rfl, hb1⟩
    have hT1 := hT.below hb1 (Nat.le_refl _)
    have c2 := hb1
    have HA := argU1_any .fine x y w1 hT1
    unfold EU.val at HA
    go_wp2_with fail
    refine HA.mono ?_
    rintro e w3 ⟨rfl, hb3⟩
    have c3 := c2.trans (hb3.mono c2.size)
    have hcode : euFrom [.fine] 0 = 0 := rfl
    rw [hcode]
    clear hcode
    have hst := stack_of hSO
    have HCO := combinationOfAll_any v LL w3 (h.below c3) hst.2 hst.1
    clear hst
    go_wp2_with fail
    refine HCO.mono ?_
    rintro e w4 ⟨f, rfl, hb4, hf⟩
    have c4 := c3.trans (hb4.mono c3.size)
    obtain ⟨fA, fcap, rfl⟩ := hf.form
    have HLI := limitRecords_any fA (squashAllL LL).length fcap w4
    have HF := Lib.hid hf
    clear hf HCO
    by_cases h16 : 16 < (squashAllL LL).length
    · have HQ := Lib.hid (sqa_full H0.out h16)
      rw [if_pos h16] at HLI
      clear h16
      go_wp2_with fail
      refine HLI.mono ?_
      rintro e w5 ⟨rfl, rfl⟩
      go_wp2_with fail
      go_ret2
      exact ⟨.slice none 0 0, by rw [HQ.out.1]; rfl, c4, by rw [HQ.out.2]; exact ⟨rfl, World.ownsRow_nil _ _ _ _⟩⟩
    · have HQ := Lib.hid (sqa_fine H0.out h16)
      rw [if_neg h16] at HLI
      clear h16
      go_wp2_with fail
      refine HLI.mono ?_
      rintro e w5 ⟨rfl, rfl⟩
      go_wp2_with fail
      go_ret2
      exact ⟨_, by rw [HQ.out.1]; rfl, c4, by rw [HQ.out.2]; exact ⟨HF.out.1, own_le HF.out.2 c3.size⟩⟩
  · cases hc : stkE LL <;> (
      rw [hc] at HARG
      first
      | exact absurd (HARG.symm.trans rfl) h0
      | (have HC := stackU_any v LL x y w h hl hr hT
         rw [hc] at HC
         unfold EN.u EU.val at HC
         try unfold errV at HC
         try unfold recV at HC
         go_enter Tryz.func79, Tryz.ntmps79
         go_wp2_with fail
         refine HC.mono ?_
         rintro e w1 ⟨rfl, hb1⟩
         have hT1 := hT.below hb1 (Nat.le_refl _)
         have c2 := hb1
         have HA := argU1_any ((stkE LL).u) x y w1 hT1
         rw [hc] at HA
         have hne : (codeS LL != 0) = true := (by simpa using h0)
         have HQ := Lib.hid (sqa_bad (LL := LL) rfl h0)
         rw [HARG] at HA
         try unfold EN.u at HA
         unfold EU.val at HA
         try unfold errV at HA
         try unfold recV at HA
         generalize hC : codeS LL = C at *
         have HCC := Lib.hid hC
         clear HARG h0 hC
         go_wp2_with fail
         refine HA.mono ?_
         rintro e w3 ⟨rfl, hb3⟩
         have c3 := c2.trans (hb3.mono c2.size)
         go_wp2_with fail
         go_ret2
         exact ⟨.slice none 0 0, by rw [HQ.out.1]; rfl, c3, by rw [HQ.out.2]; exact ⟨rfl, World.ownsRow_nil _ _ _ _⟩⟩))

set_option maxHeartbeats 1000000 in
theorem squashAll_spec (v : Value) (LL : List (List R)) (w : World) (h : StkSl w v LL) (hl : LL.length ≤ 1048576) (hll : ∀ l ∈ LL, l.length ≤ 1048576) :
    Calls Tryz.prog 77 #[v] w fun e w' => ∃ z, e = .returned (.tuple #[z, .int .i64 (sqaC LL)]) ∧ Below w.heap.size w w' ∧ RowOf w' w.heap.size z (sqaR LL).length (sqaR LL) := by
  have HS := Lib.hid h
  obtain ⟨vA, vcap, rfl⟩ := h.form
  have HOK := l05Stack_any _ LL w h hl hll
  have e0 : ∀ W, Below w.heap.size w W → (W.alloc (.cells #[] 26)).ownsRow w.heap.size 26 5 (.slice (some ⟨W.heap.size, 0, none⟩) 0 0) 0 [] := fun W hW => World.ownsRow_lit W #[] 0 hW.size (Nat.zero_le _) rfl
  have E0 := Lib.hid e0
  clear e0
  by_cases h1 : 4096 < LL.length
  · have hd : decide ((4096 : Int) < (LL.length : Int)) = true := by simp; omega
    have HQ := Lib.hid (sqa_bad (s_long h1) (by decide))
    clear h1
    go_enter Tryz.func77, Tryz.ntmps77
    go_wp2_with fail
    go_ret2
    exact ⟨_, by rw [HQ.out.1]; rfl, (Below.refl _ _).alloc (Nat.le_refl _) _, by rw [HQ.out.2]; exact ⟨rfl, E0.out _ (Below.refl _ _)⟩⟩
  have hd1 : decide ((4096 : Int) < (LL.length : Int)) = false := by simp; omega
  cases ho : stackOK LL with
  | false =>
    have HQ := Lib.hid (sqa_bad (s_bad h1 ho) (by decide))
    rw [ho] at HOK
    clear h1 ho
    go_enter Tryz.func77, Tryz.ntmps77
    go_wp2_with fail
    refine HOK.mono ?_
    rintro e w1 ⟨rfl, c0⟩
    go_wp2_with fail
    go_ret2
    exact ⟨_, by rw [HQ.out.1]; rfl, c0.alloc c0.size _, by rw [HQ.out.2]; exact ⟨rfl, E0.out _ c0⟩⟩
  | true =>
    have H0 := Lib.hid (s_ok h1 ho)
    have hst := stack_of ho
    have HAL : ∀ w', Below w.heap.size w w' → Calls Tryz.prog 153 #[.slice vA LL.length vcap] w' fun e w'' => ∃ x, e = .returned x ∧ Below w'.heap.size w' w'' ∧ RowOf w'' w'.heap.size x (squashAllL LL).length (squashAllL LL) := fun w' hb => l06All_any _ LL w' (HS.out.below hb) hst.2 hst.1
    rw [ho] at HOK
    clear h1 ho hst
    go_enter Tryz.func77, Tryz.ntmps77
    go_wp2_with fail
    refine HOK.mono ?_
    rintro e w1 ⟨rfl, c0⟩
    go_wp2_with fail
    refine (HAL _ c0).mono ?_
    rintro e w4 ⟨f, rfl, hb4, hf⟩
    have c4 := c0.trans (hb4.mono c0.size)
    obtain ⟨fA, fcap, rfl⟩ := hf.form
    have HF := Lib.hid hf
    clear hf
    by_cases h16 : 16 < (squashAllL LL).length
    · have HQ := Lib.hid (sqa_full H0.out h16)
      have hd : decide ((16 : Int) < ((squashAllL LL).length : Int)) = true := by simp; omega
      clear h16
      go_wp2_with fail
      go_ret2
      exact ⟨_, by rw [HQ.out.1]; rfl, c4.alloc c4.size _, by rw [HQ.out.2]; exact ⟨rfl, E0.out _ c4⟩⟩
    · have HQ := Lib.hid (sqa_fine H0.out h16)
      have hd : decide ((16 : Int) < ((squashAllL LL).length : Int)) = false := by simp; omega
      clear h16
      go_wp2_with fail
      go_ret2
      exact ⟨_, by rw [HQ.out.1]; rfl, c4, by rw [HQ.out.2]; exact ⟨HF.out.1, own_le HF.out.2 c0.size⟩⟩
end Go.Proofs.YtcbmnihepeefaaaGreatDoor.Recs

/- The laws' marks in a slice of records: written, and read again. -/
namespace Go.Proofs.YtcbmnihepeefaaaGreatDoor.Recs
set_option maxRecDepth 100000
open Go.RowKit Paths

/-- The marks of one record, from x on. -/
def mr (x : Int) : R := ⟨x, x + 1 + 1 + 1, markS (x + 1), markS (x + 1 + 1), (x + 1 + 1 + 1 + 1) % 3 == 0⟩
def markR (x : Int) (n : Nat) : List R := (List.range n).map fun i : Nat => mr (x + 5 * (i : Int))
theorem markR_len (x : Int) (n : Nat) : (markR x n).length = n := by simp [markR]
theorem markR_at {x : Int} {n j : Nat} (h : j < n) : (markR x n)[j]'(by rw [markR_len]; exact h) = mr (x + 5 * j) := by simp [markR]

set_option maxHeartbeats 3200000 in
theorem markRecordS_any (v : Value) (n base : Nat) (M : List R) (x : Int) (w : World) (hrow : RowOf w base v n M) (h0 : 0 ≤ x) (hk : x + 5 * n ≤ 1099511627776) :
    Calls Tryz.prog 73 #[v, .int .i64 x] w fun e w' => e = .returned (.int .i64 (x + 5 * n)) ∧ RowOf w' base v n (markR x n) ∧ w.grownBy w' v.ownBlock := by
  rcases hrow.2.2 with ⟨rfl, rfl⟩ | ⟨g, cap, cur, rfl, hbg, hgg, hnc, hcm, _⟩
  · go_enter Tryz.func73, Tryz.ntmps73
    go_wp2
    refine wp_loop_rounds 1 ?_
    rw [rounds_succ]
    go_wp2
    go_ret
    exact ⟨by simp, ⟨by simp [markR], World.ownsRow_nil _ _ _ _⟩, World.grownBy.refl _ _⟩
  · unfold maxLen at hcm
    clear hgg
    go_enter Tryz.func73, Tryz.ntmps73
    go_wp2
    go_loopw [1, 5] (fun m i wr => ∃ (j : Nat) (N : List R), j ≤ n ∧ i = .int .i64 j ∧ m = .int .i64 (x + 5 * j) ∧ RowOf wr base (.slice (some ⟨g, 0, none⟩) n cap) n N ∧ Hid (N.take j = (markR x n).take j) ∧ w.grownBy wr (some g)) (fun _ i _ => n - (intOf i).toNat)
    case atStart => exact ⟨0, M, by omega, rfl, by simp, hrow, rfl, World.grownBy.refl _ _⟩
    case round =>
      obtain ⟨j, N, hj, rfl, rfl, hr, HN, hgr⟩ := hrel
      by_cases hlt : j < n
      · have hi1 : (j : Int) < (n : Int) := by omega
        have hi0 : (0 : Int) ≤ (j : Int) := by omega
        have hm : j < N.length := by rw [hr.1]; exact hlt
        have HS := Lib.hid (set_take (l := markR x n) hm (by rw [markR_len]; exact hlt) HN.out)
        rw [markR_at hlt] at HS
        generalize hX : x + 5 * (j : Int) = X at *
        have hX0 : 0 ≤ X := by omega
        have hX1 : X + 5 ≤ 1099511627776 := by omega
        obtain ⟨d0, d1, d2, d3, d4⟩ := hr.cells hm
        have hf := hr.frozen
        obtain ⟨a1, b1⟩ := hr.field (i := j) (c := 0) (r := { N[j] with k := X }) (u := .int .i64 X) hm (by omega) rfl
        go_wp2_with fail
        refine (markText_any _ _ (by omega) (by omega)).mono ?_
        rintro e w1 ⟨rfl, hb1⟩
        have r1 := a1.below hb1
        have g1 := grown_trans hgr (grown_trans b1 (grown_below hb1 _))
        have l1 : j < (N.set j { N[j] with k := X }).length := by simpa using hm
        obtain ⟨e0, e1, e2, e3, e4⟩ := r1.cells l1
        have hf1 := r1.frozen
        obtain ⟨a2, b2⟩ := r1.field (i := j) (c := 1) (r := { N[j] with k := X, p := markS (X + 1) }) (u := .string (markS (X + 1))) l1 (by omega) (by simp [R.cs])
        rw [List.set_set] at a2
        clear d0 d1 d2 d3 d4 hf a1 b1
        go_wp2_with fail
        refine (markText_any _ _ (by omega) (by omega)).mono ?_
        rintro e w2 ⟨rfl, hb2⟩
        have r2 := a2.below hb2
        have g2 := grown_trans g1 (grown_trans b2 (grown_below hb2 _))
        have l2 : j < (N.set j { N[j] with k := X, p := markS (X + 1) }).length := by simpa using hm
        clear e0 e1 e2 e3 e4 hf1 a2 b2 r1
        obtain ⟨e0, e1, e2, e3, e4⟩ := r2.cells l2
        have hf2 := r2.frozen
        obtain ⟨a3, b3⟩ := r2.field (i := j) (c := 2) (r := { N[j] with k := X, p := markS (X + 1), b := markS (X + 1 + 1) }) (u := .string (markS (X + 1 + 1))) l2 (by omega) (by simp [R.cs])
        rw [List.set_set] at a3
        obtain ⟨a4, b4⟩ := a3.field (i := j) (c := 3) (r := { N[j] with k := X, p := markS (X + 1), b := markS (X + 1 + 1), m := X + 1 + 1 + 1 }) (u := .int .i64 (X + 1 + 1 + 1)) (by simpa using hm) (by omega) (by simp [R.cs])
        rw [List.set_set] at a4
        obtain ⟨a5, b5⟩ := a4.field (i := j) (c := 4) (r := mr X) (u := .bool ((X + 1 + 1 + 1 + 1) % 3 == 0)) (by simpa using hm) (by omega) (by simp [R.cs, mr])
        rw [List.set_set] at a5
        have HA := Lib.hid a5
        have HG := Lib.hid (grown_trans (grown_trans (grown_trans g2 b3) b4) b5)
        clear a3 a4 a5 b3 b4 b5
        go_wp2_with fail
        exact ⟨⟨j + 1, N.set j (mr X), by omega, by go_num, by subst hX; go_num, HA.out, HS, HG.out⟩, by simp [intOf]; omega⟩
      · obtain rfl : j = n := by omega
        go_wp2
        go_ret
        refine ⟨rfl, ?_, hgr⟩
        have := HN.out
        rw [List.take_of_length_le (by rw [hr.1]; exact Nat.le_refl _), List.take_of_length_le (by rw [markR_len]; exact Nat.le_refl _)] at this
        rw [← this]
        exact hr

set_option maxHeartbeats 3200000 in
theorem heldRecordS_any (v : Value) (n base : Nat) (x : Int) (w : World) (hrow : RowOf w base v n (markR x n)) (h0 : 0 ≤ x) (hk : x + 5 * n ≤ 1099511627776) :
    Calls Tryz.prog 82 #[v, .int .i64 x] w fun e w' => e = .returned (.int .i64 (x + 5 * n)) ∧ Below w.heap.size w w' := by
  rcases hrow.2.2 with ⟨rfl, rfl⟩ | ⟨g, cap, cur, rfl, hbg, hgg, hnc, hcm, _⟩
  · go_enter Tryz.func82, Tryz.ntmps82
    go_wp2
    refine wp_loop_rounds 1 ?_
    rw [rounds_succ]
    go_wp2
    go_ret
    exact ⟨by simp, Below.refl _ _⟩
  · unfold maxLen at hcm
    have hglt : g < w.heap.size := (Array.getElem?_eq_some_iff.1 hgg).1
    clear hgg
    have HC : Hid (∀ j, j < n → RecCells w g (j * 5) (mr (x + 5 * (j : Int)))) := fun j hj => by
      have := hrow.cells (i := j) (by rw [markR_len]; exact hj)
      rw [markR_at hj] at this
      exact this
    clear hrow
    go_enter Tryz.func82, Tryz.ntmps82
    go_wp2
    go_loopw [1, 5] (fun m i wr => ∃ j : Nat, j ≤ n ∧ i = .int .i64 j ∧ m = .int .i64 (x + 5 * j) ∧ Below w.heap.size w wr) (fun _ i _ => n - (intOf i).toNat)
    case atStart => exact ⟨0, by omega, rfl, by simp, Below.refl _ _⟩
    case round =>
      obtain ⟨j, hj, rfl, rfl, hbw⟩ := hrel
      by_cases hlt : j < n
      · have HR := Lib.hid (HC.out j hlt)
        generalize hX : x + 5 * (j : Int) = X at *
        have hX0 : 0 ≤ X := by omega
        have hX1 : X + 5 ≤ 1099511627776 := by omega
        obtain ⟨c0, c1, c2, c3, c4⟩ := HR.out.below hbw hglt
        unfold mr at c0 c1 c2 c3 c4
        have hi1 : (j : Int) < (n : Int) := by omega
        have hi0 : (0 : Int) ≤ (j : Int) := by omega
        have hgr : g < wr.heap.size := Nat.lt_of_lt_of_le hglt hbw.size
        go_wp2_with fail
        go_region_held3 (fun w' => w'.cell? ⟨g, j * 5 + 1, none⟩ = some (.string (markS (X + 1)))) (first | exact c1 | exact (hb1.cell (p := ⟨g, j * 5 + 1, none⟩) hgr).trans c1 | go_keep) (first | (go_at_call 159; refine (markText_any _ _ (by omega) (by omega)).mono ?_; rintro e w1 ⟨rfl, hb1⟩))
        have hbw1 := hbw.drew.trans (hb1.mono hbw.size)
        have hgr1 : g < w1.heap.size := Nat.lt_of_lt_of_le hglt hbw1.size
        clear c0 c1 c2 c3 c4
        obtain ⟨c0, c1, c2, c3, c4⟩ := HR.out.below hbw1 hglt
        unfold mr at c0 c1 c2 c3 c4
        go_wp2_with fail
        go_region_held3 (fun w' => w'.cell? ⟨g, j * 5 + 2, none⟩ = some (.string (markS (X + 1 + 1)))) (first | exact c2 | exact (hb2.cell (p := ⟨g, j * 5 + 2, none⟩) hgr1).trans c2 | go_keep) (first | (go_at_call 159; refine (markText_any _ _ (by omega) (by omega)).mono ?_; rintro e w2 ⟨rfl, hb2⟩))
        have hbw2 := hbw1.drew.trans (hb2.mono hbw1.size)
        clear c0 c1 c2 c3 c4
        obtain ⟨c0, c1, c2, c3, c4⟩ := HR.out.below hbw2 hglt
        unfold mr at c0 c1 c2 c3 c4
        go_wp2_with fail
        exact ⟨⟨j + 1, by omega, by go_num, by subst hX; go_num, hbw2⟩, by simp [intOf]; omega⟩
      · obtain rfl : j = n := by omega
        go_wp2
        go_ret
        exact ⟨rfl, hbw⟩
end Go.Proofs.YtcbmnihepeefaaaGreatDoor.Recs

/- For laws over lists of records: the laws' own sizes with their sums; blocks between two numbers; two equal rows of strings. -/
namespace Go.Proofs.YtcbmnihepeefaaaGreatDoor.Recs
set_option maxRecDepth 100000
open Go.RowKit Paths

theorem szRecord_sum (k m : Int) (p b : ByteArray) (o : Bool) (n : Nat) (w : World) (hp : p.size ≤ maxLen) (hb : b.size ≤ maxLen) (hn : n ≤ 1048576) :
    Calls Tryz.prog 155 #[.agg #[.int .i64 k, .string p, .string b, .int .i64 m, .bool o], .int .i64 n] w fun e w' => (∃ z : Int, z < 0 ∧ e = .returned (.int .i64 z) ∧ Below w.heap.size w w') ∨ ∃ z : Nat, z ≤ n ∧ e = .returned (.int .i64 z) ∧ Below w.heap.size w w' := by
  unfold maxLen at hp hb
  have hbw : Below w.heap.size w (w.alloc (.cells #[.int .i64 k, .string p, .string b, .int .i64 m, .bool o] 150)) := (Below.refl _ _).alloc (Nat.le_refl _) _
  by_cases h1 : n < p.size
  · have hd : decide ((n : Int) - (p.size : Int) < 0) = true := by simp; omega
    go_enter Tryz.func155, Tryz.ntmps155
    go_wp2_with fail
    go_ret
    exact .inl ⟨_, by omega, rfl, hbw⟩
  have hd : decide ((n : Int) - (p.size : Int) < 0) = false := by simp; omega
  by_cases h2 : n < p.size + b.size
  · have hd2 : decide ((n : Int) - (p.size : Int) - (b.size : Int) < 0) = true := by simp; omega
    go_enter Tryz.func155, Tryz.ntmps155
    go_wp2_with fail
    go_ret
    exact .inl ⟨_, by omega, rfl, hbw⟩
  have hd2 : decide ((n : Int) - (p.size : Int) - (b.size : Int) < 0) = false := by simp; omega
  have he : ((n - p.size - b.size : Nat) : Int) = (n : Int) - (p.size : Int) - (b.size : Int) := by omega
  have HE := Lib.hid he
  clear he
  go_enter Tryz.func155, Tryz.ntmps155
  go_wp2_with fail
  go_ret
  exact .inr ⟨n - p.size - b.size, by omega, ret_int HE.out.symm, hbw⟩

set_option maxHeartbeats 800000 in
theorem szRecordS_sum (v : Value) (l : List R) (n : Nat) (w : World) (h : RecSl w v l) (hlm : l.length ≤ maxLen) (hs : ∀ r ∈ l, r.p.size ≤ maxLen ∧ r.b.size ≤ maxLen) (hn : n ≤ 1048576) :
    Calls Tryz.prog 69 #[v, .int .i64 n] w fun e w' => (∃ z : Int, z < 0 ∧ e = .returned (.int .i64 z) ∧ Below w.heap.size w w') ∨ ∃ z : Nat, z + l.length ≤ n ∧ e = .returned (.int .i64 z) ∧ Below w.heap.size w w' := by
  unfold maxLen at hlm
  obtain ⟨A, cap, rfl, hcap, h⟩ := h
  have H := Lib.hid h
  clear h
  by_cases h1 : n < l.length
  · have hd : decide ((n : Int) - (l.length : Int) < 0) = true := by simp; omega
    go_enter Tryz.func69, Tryz.ntmps69
    go_wp2_with fail
    go_ret
    exact .inl ⟨_, by omega, rfl, Below.refl _ _⟩
  have hd : decide ((n : Int) - (l.length : Int) < 0) = false := by simp; omega
  go_enter Tryz.func69, Tryz.ntmps69
  go_wp2
  go_loopw [1, 5] (fun m i wr => ∃ (j z : Nat), j ≤ l.length ∧ i = .int .i64 j ∧ m = .int .i64 z ∧ z + l.length ≤ n ∧ Below w.heap.size w wr) (fun _ i _ => l.length - (intOf i).toNat)
  case atStart => exact ⟨0, n - l.length, by omega, rfl, by go_num, by omega, Below.refl _ _⟩
  case round =>
    obtain ⟨j, z, hj, rfl, rfl, hz, hbw⟩ := hrel
    by_cases hlt : j < l.length
    · obtain ⟨b, off, rfl, hb, hcell⟩ := H.out (by omega)
      obtain ⟨c0, c1, c2, c3, c4⟩ := (hcell j l[j] (by simp [hlt])).below hbw hb
      obtain ⟨s1, s2⟩ := hs l[j] (List.getElem_mem hlt)
      clear hcell
      have hi1 : (j : Int) < (l.length : Int) := by omega
      have hi0 : (0 : Int) ≤ (j : Int) := by omega
      go_wp2_with fail
      refine (szRecord_sum _ _ _ _ _ z _ s1 s2 (by omega)).mono ?_
      rintro e w1 (⟨z1, hz1, rfl, hb1⟩ | ⟨z1, hz1, rfl, hb1⟩)
      · have hd1 : decide (z1 < 0) = true := by simpa using hz1
        go_wp2_with fail
        go_ret
        exact .inl ⟨_, by omega, rfl, hbw.trans (hb1.mono hbw.size)⟩
      · have hd1 : decide ((z1 : Int) < 0) = false := by simp
        go_wp2_with fail
        go_roundw
        case rel => exact ⟨j + 1, z1, by omega, by go_num, rfl, by omega, hbw.trans (hb1.mono hbw.size)⟩
        case measure => simp [intOf]; omega
    · obtain rfl : j = l.length := by omega
      go_wp2
      go_ret
      exact .inr ⟨z, hz, rfl, hbw⟩

/-- From w to w' nothing has turned but blocks from base on, below top; and new ones came. -/
structure Betw (base top : Nat) (w w' : World) : Prop where
  os : w'.os = w.os
  tape : w'.tape = w.tape
  output : w'.output = w.output
  size : w.heap.size ≤ w'.heap.size
  block : ∀ k, k < w.heap.size → (k < base ∨ top ≤ k) → w'.heap[k]? = w.heap[k]?
theorem Betw.refl (base top : Nat) (w : World) : Betw base top w w := ⟨rfl, rfl, rfl, Nat.le_refl _, fun _ _ _ => rfl⟩
theorem Betw.trans {base top : Nat} {a b c : World} (h : Betw base top a b) (k : Betw base top b c) : Betw base top a c :=
  ⟨k.os.trans h.os, k.tape.trans h.tape, k.output.trans h.output, Nat.le_trans h.size k.size, fun i hi hk => (k.block i (Nat.lt_of_lt_of_le hi h.size) hk).trans (h.block i hi hk)⟩
theorem betw_of {base top : Nat} {w w' : World} {row : Option Nat} (hg : w.grownBy w' row) (hr : ∀ k, row = some k → base ≤ k ∧ k < top) : Betw base top w w' :=
  ⟨hg.os, hg.tape, hg.output, hg.size, fun k hk hb => hg.block k hk (fun e => by have := hr k e.symm; omega)⟩
theorem Betw.below {base top B : Nat} {a w w' : World} (h : Below B a w) (hb : Betw base top w w') (hB : B ≤ base) (hB2 : B ≤ w.heap.size) : Below B a w' :=
  h.trans ⟨hb.os, hb.tape, hb.output, hb.size, fun k hk => hb.block k (by omega) (.inl (by omega))⟩
theorem Betw.own {base top : Nat} {w w' : World} (hb : Betw base top w w') {b : Nat} {e : TypeId} {s : Nat} {v : Value} {n : Nat} {xs : List Value} (h : w.ownsRow b e s v n xs) (hk : ∀ k, v.ownBlock = some k → k < base ∨ top ≤ k) : w'.ownsRow b e s v n xs := by
  obtain ⟨h1, h2⟩ := h
  refine ⟨h1, ?_⟩
  rcases h2 with h2 | ⟨g, cap, cur, rfl, b1, c, d⟩
  · exact .inl h2
  · exact .inr ⟨g, cap, cur, rfl, b1, by rw [hb.block g (Array.getElem?_eq_some_iff.1 c).1 (hk g rfl)]; exact c, d⟩
theorem Betw.recs {base top : Nat} {w w' : World} (hb : Betw base top w w') {b : Nat} {v : Value} {n : Nat} {M : List R} (h : RowOf w b v n M) (hk : ∀ k, v.ownBlock = some k → k < base ∨ top ≤ k) : RowOf w' b v n M := ⟨h.1, hb.own h.2 hk⟩

end Go.Proofs.YtcbmnihepeefaaaGreatDoor.Recs
