/- Parts of several texts of mine in one file (each begins with its own remark). -/
import Derived.Test.YthopokiablgjoaaGreatDoorCA10
import Derived.Test.YthopokiablgjoaaGreatDoorCA11
import Derived.Test.YthopokiablgjoaaGreatDoorCA12
import Derived.Test.YthopokiablgjoaaGreatDoorCA13
import Derived.Test.YthopokiablgjoaaGreatDoorCA14
import Derived.Test.YthopokiablgjoaaGreatDoorCA15
import Derived.Test.YthopokiablgjoaaGreatDoorCA16
import Derived.Test.YthopokiablgjoaaGreatDoorCA17
import Derived.Test.YthopokiablgjoaaGreatDoorCA18
import Derived.Test.YthopokiablgjoaaGreatDoorCA19
import Derived.Test.YthopokiablgjoaaGreatDoorCA2
import Derived.Test.YthopokiablgjoaaGreatDoorCA3
import Derived.Test.YthopokiablgjoaaGreatDoorCA4
import Derived.Test.YthopokiablgjoaaGreatDoorCA5
import Derived.Test.YthopokiablgjoaaGreatDoorCA6
import Derived.Test.YthopokiablgjoaaGreatDoorCA7
import Derived.Test.YthopokiablgjoaaGreatDoorCA8
import Derived.Test.YthopokiablgjoaaGreatDoorCA9
import Derived.Test.YthopokiablgjoaaGreatDoorChecked
import Derived.Test.YthopokiablgjoaaGreatDoorShelf
import Derived.Test.YthopokiablgjoaaGreatDoorProg
import Derived.Test.YthopokiablgjoaaGreatDoorRows
import Derived.Stop.LaidErr
import Derived.StillTailTactics
import Derived.Laws.OwnMore
import Derived.BigQuiet
import Derived.BigRegion
import Derived.Deep.QuietTactic
import Derived.Deep.RegionHeld3
import Derived.Deep.Slices
import Derived.OpenShut
import Derived.ShutString
import Derived.ChangeArms
import Derived.WideShapes
import Derived.Lib.LaidTab
import Derived.Deep.Draws
import Derived.Deep.LoopGhost
import Derived.WalkKit
import Derived.WalkSpells
import Derived.WalkSmall
import Derived.Lib.OthersKept
import Derived.Lib.Hide
import Derived.Lib.Strings
import Derived.Lib.Join
import Derived.Laws.BytesArg
import Derived.WalkLawsBesides
import Derived.LaidEql
import Derived.Stop.Asserts
import Derived.Below
import Derived.Stop.LaidTwo
import Derived.ChangeVars
import Derived.Deep.DeepHandedRow
import Derived.Deep.RegionWith
import Derived.OneCell
import Derived.Lib.SliceRun
import Derived.Lib.Overlaps
import Derived.Lib.AppendZerosOnto
import Derived.Laws.NewBlocks
import Derived.Laws.IdiomCopy
import Derived.Deep.RegionLaw
import Derived.Laws.AppendOwnNone
/- The code of the errors of a call's arguments, whichever check they come from. Conditions: the table of kinds, the two sentinels. -/
namespace Go.Proofs.YthopokiablgjoaaGreatDoor.Recs
set_option maxRecDepth 100000
open Go.RowKit Paths Errs

/-- An error that a check hands back: none, one of the two sentinels, or the one that names a record. -/
inductive EU where
  | fine
  | long
  | inv
  | bad (i c : Int)
def EU.val (x y : Addr) : EU → Value
  | .fine => .nilIface
  | .long => errV x
  | .inv => errV y
  | .bad i c => recV i c
def EN.u : EN → EU
  | .fine => .fine
  | .long => .long
  | .inv => .inv
theorem EN.u_val (e : EN) (x y : Addr) : e.u.val x y = e.val x y := by cases e <;> rfl
def euFrom : List EU → Int → Int
  | [], c => c
  | .fine :: t, c => euFrom t c
  | .long :: _, _ => 2
  | .inv :: t, _ => euFrom t 1
  | .bad _ _ :: t, _ => euFrom t 1
theorem eu_end {L : List EU} {k : Nat} {c : Int} (h : L.length ≤ k) : euFrom (L.drop k) c = c := by rw [List.drop_eq_nil_of_le h]; rfl
theorem eu_fine {L : List EU} {k : Nat} {c : Int} (h : k < L.length) (he : L[k] = .fine) : euFrom (L.drop k) c = euFrom (L.drop (k + 1)) c := by rw [List.drop_eq_getElem_cons h, he]; rfl
theorem eu_long {L : List EU} {k : Nat} {c : Int} (h : k < L.length) (he : L[k] = .long) : euFrom (L.drop k) c = 2 := by rw [List.drop_eq_getElem_cons h, he]; rfl
theorem eu_inv {L : List EU} {k : Nat} {c : Int} (h : k < L.length) (he : L[k] = .inv) : euFrom (L.drop k) c = euFrom (L.drop (k + 1)) 1 := by rw [List.drop_eq_getElem_cons h, he]; rfl
theorem eu_bad {L : List EU} {k : Nat} {c i d : Int} (h : k < L.length) (he : L[k] = .bad i d) : euFrom (L.drop k) c = euFrom (L.drop (k + 1)) 1 := by rw [List.drop_eq_getElem_cons h, he]; rfl

set_option maxHeartbeats 1600000 in
theorem argumentU_any (g : Nat) (L : List EU) (x y : Addr) (w : World) (hT : Three w x y) (hg : g < w.heap.size) (hn : L.length ≤ 1000) (hc : ∀ k (h : k < L.length), w.cell? ⟨g, k, none⟩ = some (L[k].val x y)) :
    Calls Tryz.prog 60 #[.slice (some ⟨g, 0, none⟩) L.length L.length] w fun e w' => e = .returned (.int .i64 (euFrom L 0)) ∧ Below w.heap.size w w' := by
  have HC := Lib.hid hc
  have HT := Lib.hid hT
  clear hc hT
  go_enter Tryz.func60, Tryz.ntmps60
  go_wp2
  go_loopw [3, 8] (fun c i wr => ∃ (k : Nat) (d : Int), k ≤ L.length ∧ i = .int .i64 k ∧ c = .int .i64 d ∧ Hid (euFrom L 0 = euFrom (L.drop k) d) ∧ Below w.heap.size w wr) (fun _ i _ => L.length - (intOf i).toNat)
  case atStart => exact ⟨0, 0, by omega, rfl, rfl, rfl, Below.refl _ _⟩
  case round =>
    obtain ⟨k, d, hk, rfl, rfl, HK, hbw⟩ := hrel
    by_cases hlt : k < L.length
    · have hcell : wr.cell? ⟨g, k, none⟩ = some (L[k].val x y) := (hbw.cell (p := ⟨g, k, none⟩) hg).trans (HC.out k hlt)
      have hTr := HT.out.below hbw (Nat.le_refl _)
      have hx := hTr.long
      have hy := hTr.bad
      have hi1 : (k : Int) < (L.length : Int) := by omega
      have hi0 : (0 : Int) ≤ (k : Int) := by omega
      cases hE : L[k] with
      | fine =>
        have HF := Lib.hid (HK.out.trans (eu_fine hlt hE))
        rw [hE] at hcell
        unfold EU.val at hcell
        have H1 := is_nil x wr
        have H2 := is_nil y wr
        unfold errV at hx hy H1 H2
        go_wp2_with fail
        refine H1.mono ?_
        rintro e w1 ⟨rfl, rfl⟩
        go_wp2_with fail
        refine H2.mono ?_
        rintro e w2 ⟨rfl, rfl⟩
        go_wp2_with fail
        exact ⟨⟨k + 1, d, by omega, by go_num, rfl, HF, hbw⟩, by simp [intOf]; omega⟩
      | long =>
        have HF := Lib.hid (HK.out.trans (eu_long hlt hE))
        rw [hE] at hcell
        unfold EU.val at hcell
        have H1 := is_same x wr
        unfold errV at hx hy H1 hcell
        go_wp2_with fail
        refine H1.mono ?_
        rintro e w1 ⟨rfl, rfl⟩
        go_wp2_with fail
        go_ret
        exact ⟨ret_int HF.out.symm, hbw⟩
      | inv =>
        have HF := Lib.hid (HK.out.trans (eu_inv hlt hE))
        rw [hE] at hcell
        unfold EU.val at hcell
        obtain ⟨cx, tx, rx⟩ := hTr.rowx
        obtain ⟨cy, ty, ry⟩ := hTr.rowy
        have H1 := is_other y x _ _ _ _ wr (Ne.symm hTr.ne) ry rx
        have H2 := is_same y wr
        unfold errV at hx hy H1 H2 hcell
        go_wp2_with fail
        refine H1.mono ?_
        rintro e w1 ⟨rfl, rfl⟩
        go_wp2_with fail
        refine H2.mono ?_
        rintro e w2 ⟨rfl, rfl⟩
        go_wp2_with fail
        exact ⟨⟨k + 1, 1, by omega, by go_num, rfl, HF, hbw⟩, by simp [intOf]; omega⟩
      | bad i c =>
        have HF := Lib.hid (HK.out.trans (eu_bad hlt hE))
        rw [hE] at hcell
        unfold EU.val at hcell
        obtain ⟨cx, tx, rx⟩ := hTr.rowx
        obtain ⟨cy, ty, ry⟩ := hTr.rowy
        have H1 := is_rec_other i c y x _ _ _ _ wr hy (Ne.symm hTr.ne) ry rx
        have hxl := World.block_lt_of_cell? wr _ hx
        have hyl := World.block_lt_of_cell? wr _ hy
        have hye := hy
        unfold recV at hcell H1
        unfold errV at hx hy H1
        go_wp2_with fail
        refine H1.mono ?_
        rintro e w1 ⟨rfl, hb1⟩
        have hy1 : w1.cell? ⟨1, 0, none⟩ = some (errV y) := (hb1.cell (p := ⟨1, 0, none⟩) hyl).trans hye
        have H2 := is_rec_same i c y w1 hy1
        unfold recV at H2
        unfold errV at hy1 H2
        go_wp2_with fail
        refine H2.mono ?_
        rintro e w2 ⟨rfl, hb2⟩
        go_wp2_with fail
        exact ⟨⟨k + 1, 1, by omega, by go_num, rfl, HF, (hbw.trans (hb1.mono hbw.size)).trans (hb2.mono (hbw.trans (hb1.mono hbw.size)).size)⟩, by simp [intOf]; omega⟩
    · have HE := Lib.hid (HK.out.trans (eu_end (by omega)))
      go_wp2
      go_ret
      exact ⟨ret_int HE.out.symm, hbw⟩

theorem argU1_any (a : EU) (x y : Addr) (w : World) (hT : Three w x y) :
    Calls Tryz.prog 60 #[.slice (some ⟨w.heap.size, 0, none⟩) 1 1] (w.alloc (.cells #[a.val x y] 83)) fun e w' => e = .returned (.int .i64 (euFrom [a] 0)) ∧ Below w.heap.size w w' := by
  have hb0 : Below w.heap.size w (w.alloc (.cells #[a.val x y] 83)) := (Below.refl _ _).alloc (Nat.le_refl _) _
  have := argumentU_any w.heap.size [a] x y (w.alloc (.cells #[a.val x y] 83)) (hT.below hb0 (Nat.le_refl _)) (by simp) (by simp) (fun k hk => by
    have hk2 : k < 1 := hk
    match k, hk2 with
    | 0, _ => go_simp)
  refine this.mono ?_
  rintro e w1 ⟨rfl, hb1⟩
  exact ⟨rfl, hb0.trans (hb1.mono hb0.size)⟩

end Go.Proofs.YthopokiablgjoaaGreatDoor.Recs

/- The code of a call with a stack. Conditions: the table of kinds, the two sentinels. -/
namespace Go.Proofs.YthopokiablgjoaaGreatDoor.Recs
set_option maxRecDepth 100000
open Go.RowKit Paths Errs

def codeS (LL : List (List R)) : Int := if 4096 < LL.length then 2 else if stackOK LL then 0 else 1
theorem arg_s (LL : List (List R)) : euFrom [(stkE LL).u] 0 = codeS LL := by
  by_cases h1 : 4096 < LL.length <;> cases h3 : stackOK LL <;> simp [stkE, EN.u, codeS, euFrom, h1, h3]
theorem fine_s {LL : List (List R)} (h : codeS LL = 0) : stkE LL = .fine ∧ stackOK LL = true := by
  unfold codeS at h
  split at h
  · cases h
  · rename_i hn
    split at h
    · rename_i hk
      exact ⟨by unfold stkE; rw [if_neg hn, if_pos hk], hk⟩
    · cases h
theorem stack_of {LL : List (List R)} (h : stackOK LL = true) : LL.length ≤ 5 ∧ ∀ l ∈ LL, layerOK l = true := by
  unfold stackOK at h
  rw [Bool.and_eq_true] at h
  exact ⟨by simpa using h.1, fun l hm => (List.all_eq_true.1 h.2) l hm⟩
theorem stackU_any (v : Value) (LL : List (List R)) (x y : Addr) (w : World) (h : StkSl w v LL) (hl : LL.length ≤ 1048576) (hll : ∀ l ∈ LL, l.length ≤ 1048576 ∧ ∀ r ∈ l, r.p.size ≤ maxLen) (hT : Three w x y) :
    Calls Tryz.prog 80 #[v] w fun e w' => e = .returned ((stkE LL).u.val x y) ∧ Below w.heap.size w w' := by
  rw [EN.u_val]
  exact checkStack_any v LL x y w h hl hll hT
theorem s_long {LL : List (List R)} (h : 4096 < LL.length) : codeS LL = 2 := if_pos h
theorem s_bad {LL : List (List R)} (h : ¬ 4096 < LL.length) (hb : stackOK LL = false) : codeS LL = 1 := by
  unfold codeS
  rw [if_neg h, hb]
  rfl
theorem StkSl.form {w : World} {v : Value} {LL : List (List R)} (h : StkSl w v LL) : ∃ A cap, v = .slice A LL.length cap := by
  obtain ⟨A, cap, rfl, _⟩ := h
  exact ⟨A, cap, rfl⟩
theorem s_ok {LL : List (List R)} (h : ¬ 4096 < LL.length) (h1 : stackOK LL = true) : codeS LL = 0 := by
  unfold codeS
  rw [if_neg h, if_pos h1]
end Go.Proofs.YthopokiablgjoaaGreatDoor.Recs

/- SquashAll, of the program and of its model. Conditions (of the program's): the table of kinds, the two sentinels. -/
namespace Go.Proofs.YthopokiablgjoaaGreatDoor.Recs
set_option maxRecDepth 100000
open Go.RowKit Paths Errs

theorem sqa_step {LL : List (List R)} {k : Nat} (h : k < LL.length) : squashAllL (LL.take (k + 1)) = squashL (squashAllL (LL.take k)) LL[k] := by
  unfold squashAllL
  rw [List.take_succ_eq_append_getElem h, List.foldl_append]
  rfl
theorem sqa_len {LL : List (List R)} (h : ∀ l ∈ LL, l.length ≤ 16) : ∀ k, k ≤ LL.length → (squashAllL (LL.take k)).length ≤ 16 * k
  | 0, _ => by simp [squashAllL]
  | k + 1, hk => by
    have ih := sqa_len h k (by omega)
    rw [sqa_step (by omega)]
    have h1 := squash_len (squashAllL (LL.take k)) LL[k]
    have h2 := h LL[k] (List.getElem_mem _)
    omega
set_option maxHeartbeats 1600000 in
theorem combinationOfAll_any (v : Value) (LL : List (List R)) (w : World) (h : StkSl w v LL) (hok : ∀ l ∈ LL, layerOK l = true) (hl : LL.length ≤ 5) :
    Calls Tryz.prog 82 #[v] w fun e w' => ∃ x, e = .returned x ∧ Below w.heap.size w w' ∧ RowOf w' w.heap.size x (squashAllL LL).length (squashAllL LL) := by
  obtain ⟨sA, cap, rfl, hcap, h⟩ := h
  have H := Lib.hid h
  have HOK := Lib.hid hok
  clear h hok
  go_enter Tryz.func82, Tryz.ntmps82
  go_wp2
  go_loopw [3, 8] (fun f i wr => ∃ (k : Nat) (M : List R), k ≤ LL.length ∧ i = .int .i64 k ∧ Hid (M = squashAllL (LL.take k)) ∧ RowOf wr w.heap.size f M.length M ∧ Below w.heap.size w wr) (fun _ i _ => LL.length - (intOf i).toNat)
  case atStart => exact ⟨0, [], by omega, rfl, rfl, ⟨rfl, World.ownsRow_nil _ _ _ _⟩, Below.refl _ _⟩
  case round =>
    obtain ⟨k, M, hk, rfl, HM, hrow, hbw⟩ := hrel
    obtain ⟨fA, fcap, rfl⟩ := hrow.form
    by_cases hlt : k < LL.length
    · obtain ⟨b, off, rfl, hb, hcell⟩ := H.out (by omega)
      obtain ⟨u, hu0, hur⟩ := hcell k LL[k] (by simp [hlt])
      have hu : wr.cell? ⟨b, off + k, none⟩ = some u := (hbw.cell (p := ⟨b, off + k, none⟩) hb).trans hu0
      have hus := hur.below hbw
      clear hcell hu0 hur
      have hi1 : (k : Int) < (LL.length : Int) := by omega
      have hi0 : (0 : Int) ≤ (k : Int) := by omega
      have hlk := HOK.out LL[k] (List.getElem_mem hlt)
      have hFM : Fine M := by
        rw [HM.out]
        exact (squashAll_canon (fun l hm => fine_layer (HOK.out l (List.mem_of_mem_take hm)))).isFine
      have hML : M.length ≤ 16 * k := by
        rw [HM.out]
        exact sqa_len (fun l hm => layer_len (HOK.out l hm)) k hk
      have h16 := layer_len hlk
      have HCO := combination_any _ u M LL[k] wr hrow.sl hus hFM (fine_layer hlk) (by omega)
      have HN : Hid (squashL M LL[k] = squashAllL (LL.take (k + 1))) := by show _ = _; rw [sqa_step hlt, ← HM.out]
      obtain ⟨uA, ucap, rfl, -⟩ := hus
      clear hFM hML h16 hlk
      go_wp2_with fail
      refine HCO.mono ?_
      rintro e w4 ⟨g, rfl, hb4, hg⟩
      go_wp2_with fail
      exact ⟨⟨k + 1, _, by omega, by go_num, HN, ⟨hg.1, own_le hg.2 hbw.size⟩, hbw.trans (hb4.mono hbw.size)⟩, by simp [intOf]; omega⟩
    · have HF : Hid (M = squashAllL LL) := by show _ = _; rw [HM.out, List.take_of_length_le (by omega)]
      go_wp2
      go_ret
      exact ⟨_, rfl, hbw, by rw [← HF.out]; exact hrow⟩

set_option maxHeartbeats 1600000 in
theorem l06All_any (v : Value) (LL : List (List R)) (w : World) (h : StkSl w v LL) (hok : ∀ l ∈ LL, layerOK l = true) (hl : LL.length ≤ 5) :
    Calls Tryz.prog 84 #[v] w fun e w' => ∃ x, e = .returned x ∧ Below w.heap.size w w' ∧ RowOf w' w.heap.size x (squashAllL LL).length (squashAllL LL) := by
  obtain ⟨sA, cap, rfl, hcap, h⟩ := h
  have H := Lib.hid h
  have HOK := Lib.hid hok
  clear h hok
  have hown0 : (w.alloc (.cells #[] 52)).ownsRow w.heap.size 52 5 (.slice (some ⟨w.heap.size, 0, none⟩) 0 0) 0 [] := World.ownsRow_lit w #[] 0 (Nat.le_refl _) (Nat.zero_le _) rfl
  go_enter Tryz.func84, Tryz.ntmps84
  go_wp2
  go_loopw [3, 4] (fun f i wr => ∃ (k : Nat) (M : List R), k ≤ LL.length ∧ i = .int .i64 k ∧ Hid (M = squashAllL (LL.take k)) ∧ RowOf wr w.heap.size f M.length M ∧ Below w.heap.size w wr) (fun _ i _ => LL.length - (intOf i).toNat)
  case atStart => exact ⟨0, [], by omega, rfl, rfl, ⟨rfl, hown0⟩, (Below.refl _ _).alloc (Nat.le_refl _) _⟩
  case round =>
    obtain ⟨k, M, hk, rfl, HM, hrow, hbw⟩ := hrel
    obtain ⟨fA, fcap, rfl⟩ := hrow.form
    by_cases hlt : k < LL.length
    · obtain ⟨b, off, rfl, hb, hcell⟩ := H.out (by omega)
      obtain ⟨u, hu0, hur⟩ := hcell k LL[k] (by simp [hlt])
      have hu : wr.cell? ⟨b, off + k, none⟩ = some u := (hbw.cell (p := ⟨b, off + k, none⟩) hb).trans hu0
      have hus := hur.below hbw
      clear hcell hu0 hur
      have hi1 : (k : Int) < (LL.length : Int) := by omega
      have hi0 : (0 : Int) ≤ (k : Int) := by omega
      have hlk := HOK.out LL[k] (List.getElem_mem hlt)
      have hFM : Fine M := by
        rw [HM.out]
        exact (squashAll_canon (fun l hm => fine_layer (HOK.out l (List.mem_of_mem_take hm)))).isFine
      have hML : M.length ≤ 16 * k := by
        rw [HM.out]
        exact sqa_len (fun l hm => layer_len (HOK.out l hm)) k hk
      have h16 := layer_len hlk
      have HCO := l06Two_any _ u M LL[k] wr hrow.sl hus hFM (fine_layer hlk) (by omega)
      have HN : Hid (squashL M LL[k] = squashAllL (LL.take (k + 1))) := by show _ = _; rw [sqa_step hlt, ← HM.out]
      obtain ⟨uA, ucap, rfl, -⟩ := hus
      clear hFM hML h16 hlk
      go_wp2_with fail
      refine HCO.mono ?_
      rintro e w4 ⟨g, rfl, hb4, hg⟩
      go_wp2_with fail
      exact ⟨⟨k + 1, _, by omega, by go_num, HN, ⟨hg.1, own_le hg.2 hbw.size⟩, hbw.trans (hb4.mono hbw.size)⟩, by simp [intOf]; omega⟩
    · have HF : Hid (M = squashAllL LL) := by show _ = _; rw [HM.out, List.take_of_length_le (by omega)]
      go_wp2
      go_ret
      exact ⟨_, rfl, hbw, by rw [← HF.out]; exact hrow⟩

end Go.Proofs.YthopokiablgjoaaGreatDoor.Recs

/- Replaced, plain; of the model. -/
namespace Go.Proofs.YthopokiablgjoaaGreatDoor.Recs
set_option maxRecDepth 100000
open Go.RowKit Paths

/-- The layers from one place up to another as one. -/
def repM (LL : List (List R)) (f t : Nat) : List R := squashAllL ((LL.take t).drop f)
def repC (LL : List (List R)) (f t : Int) : Int :=
  if codeS LL ≠ 0 then codeS LL else if f < 0 ∨ t < f ∨ (LL.length : Int) < t then 4 else if f = t ∧ LL.length = 5 then 6 else limE (repM LL f.toNat t.toNat)
def repR (LL : List (List R)) (f t : Int) : List (List R) := if repC LL f t = 0 then LL.take f.toNat ++ [repM LL f.toNat t.toNat] ++ LL.drop t.toNat else []
theorem repR_bad {LL : List (List R)} {f t c : Int} (h : repC LL f t = c) (hc : c ≠ 0) : repR LL f t = [] := if_neg (by rw [h]; exact hc)
theorem repC_code {LL : List (List R)} {f t c : Int} (h : codeS LL = c) (hc : c ≠ 0) : repC LL f t = c := by
  unfold repC
  rw [if_pos (by rw [h]; exact hc), h]
theorem repC_range {LL : List (List R)} {f t : Int} (h : codeS LL = 0) (hr : f < 0 ∨ t < f ∨ (LL.length : Int) < t) : repC LL f t = 4 := by
  unfold repC
  rw [if_neg (by simpa using h), if_pos hr]
theorem repC_many {LL : List (List R)} {f t : Int} (h : codeS LL = 0) (hr : ¬ (f < 0 ∨ t < f ∨ (LL.length : Int) < t)) (hm : f = t ∧ LL.length = 5) : repC LL f t = 6 := by
  unfold repC
  rw [if_neg (by simpa using h), if_neg hr, if_pos hm]
theorem repC_lim {LL : List (List R)} {f t : Int} (h : codeS LL = 0) (hr : ¬ (f < 0 ∨ t < f ∨ (LL.length : Int) < t)) (hm : ¬ (f = t ∧ LL.length = 5)) : repC LL f t = limE (repM LL f.toNat t.toNat) := by
  unfold repC
  rw [if_neg (by simpa using h), if_neg hr, if_neg hm]
/-- A part of a stack that is read: its address as the machine lays it. -/
theorem StkGood.part {w : World} {A : Option Addr} {n cap : Nat} {LL : List (List R)} (h : StkGood w (.slice A n cap) LL) {f t : Nat} (hf : f ≤ t) (ht : t ≤ LL.length) :
    (cap = f → StkGood w (.slice A (t - f) (cap - f)) ((LL.take t).drop f)) ∧ (cap ≠ f → ∃ b off, A = some ⟨b, off, none⟩ ∧ StkGood w (.slice (some ⟨b, off + f, none⟩) (t - f) (cap - f)) ((LL.take t).drop f)) := by
  have hg := h
  obtain ⟨A', c, e, hc, h⟩ := h
  cases e
  have htl : (LL.take t).length = t := by rw [List.length_take]; omega
  have hl : ((LL.take t).drop f).length = t - f := by rw [List.length_drop, htl]
  refine ⟨fun hcf => ⟨_, _, by rw [hl], by rw [hl]; omega, fun h0 => by omega⟩, fun hcf => ?_⟩
  obtain ⟨b, off, rfl, hb, hcell⟩ := h (by omega)
  refine ⟨b, off, rfl, ?_⟩
  have h1 := (hg.take (k := t) ht).drop (k := f) (by rw [htl]; exact hf) (by omega)
  exact h1
end Go.Proofs.YthopokiablgjoaaGreatDoor.Recs
