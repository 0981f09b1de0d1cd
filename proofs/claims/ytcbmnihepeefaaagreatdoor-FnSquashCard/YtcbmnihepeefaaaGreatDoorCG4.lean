/- Parts of several texts of mine in one file (each begins with its own remark). -/
import Derived.Test.YtcbmnihepeefaaaGreatDoorCA1
import Derived.Test.YtcbmnihepeefaaaGreatDoorCA10
import Derived.Test.YtcbmnihepeefaaaGreatDoorCA2
import Derived.Test.YtcbmnihepeefaaaGreatDoorCA3
import Derived.Test.YtcbmnihepeefaaaGreatDoorCA4
import Derived.Test.YtcbmnihepeefaaaGreatDoorCA5
import Derived.Test.YtcbmnihepeefaaaGreatDoorCA6
import Derived.Test.YtcbmnihepeefaaaGreatDoorCA8
import Derived.Test.YtcbmnihepeefaaaGreatDoorCA9
import Derived.Test.YtcbmnihepeefaaaGreatDoorCC2
import Derived.Test.YtcbmnihepeefaaaGreatDoorCC3
import Derived.Test.YtcbmnihepeefaaaGreatDoorCD2
import Derived.Test.YtcbmnihepeefaaaGreatDoorCG2
import Derived.Test.YtcbmnihepeefaaaGreatDoorChecked
import Derived.Test.YtcbmnihepeefaaaGreatDoorShelf
import Derived.Test.YtcbmnihepeefaaaGreatDoorProg
import Derived.Test.YtcbmnihepeefaaaGreatDoorRows
import Derived.Stop.LaidErr
import Derived.StillTailTactics
import Derived.Laws.OwnMore
import Derived.BigQuiet
import Derived.BigRegion
import Derived.Deep.QuietTactic
import Derived.Deep.RegionHeld3
import Derived.Deep.Slices
import Derived.OpenShut
import Derived.ShutString
import Derived.ChangeArms
import Derived.WideShapes
import Derived.Lib.LaidTab
import Derived.Deep.Draws
import Derived.Deep.LoopGhost
import Derived.WalkKit
import Derived.WalkSpells
import Derived.WalkSmall
import Derived.Lib.OthersKept
import Derived.Lib.Hide
import Derived.Lib.Strings
import Derived.Lib.Join
import Derived.Laws.BytesArg
import Derived.WalkLawsBesides
import Derived.LaidEql
import Derived.Stop.Asserts
import Derived.Below
import Derived.Stop.LaidTwo
import Derived.ChangeVars
import Derived.Deep.DeepHandedRow
/- Hidden, of the program and of its model. Conditions (of the program's): the table of kinds, the two sentinels. -/
namespace Go.Proofs.YtcbmnihepeefaaaGreatDoor.Recs
set_option maxRecDepth 100000
open Go.RowKit Paths Errs

/-- The paths of a list that an upper layer cuts off. -/
def hidL (U l : List R) : List (List UInt8) := (l.filter fun r => cutsL U r.p).map fun r => r.p.data.toList
theorem hid_step {U l : List R} {k : Nat} (hk : k < l.length) : hidL U (l.take (k + 1)) = if cutsL U l[k].p then hidL U (l.take k) ++ [l[k].p.data.toList] else hidL U (l.take k) := by
  unfold hidL
  rw [List.take_add_one, List.getElem?_eq_getElem hk, List.filter_append]
  cases h : cutsL U l[k].p <;> simp [h]
theorem hid_le (U l : List R) : (hidL U l).length ≤ l.length := by unfold hidL; rw [List.length_map]; exact List.length_filter_le _ _
theorem str_snoc {w : World} {base : Nat} {v : Value} {M : List (List UInt8)} {p : ByteArray} (h : w.ownsRow base 9 1 v (M.length + 1) (M.map strV ++ [.string p])) : w.ownsRow base 9 1 v (M ++ [p.data.toList]).length ((M ++ [p.data.toList]).map strV) := by
  rw [List.length_append, List.map_append]
  exact h
def hidR (A B : List R) : List (List UInt8) := if codeBB A B = 0 then hidL B A else []
theorem hidR_ok {A B : List R} (h : codeBB A B = 0) : hidR A B = hidL B A := if_pos h
theorem hidR_bad {A B : List R} {c : Int} (h : codeBB A B = c) (hc : c ≠ 0) : hidR A B = [] := if_neg (by rw [h]; exact hc)
theorem hid_len (A B : List R) (hl : A.length ≤ 1048576) : (hidR A B).length ≤ 1048576 := by
  unfold hidR
  split
  · have := hid_le B A; omega
  · exact Nat.zero_le _

set_option maxHeartbeats 1600000 in
theorem pathsWhere_any (v u : Value) (l U : List R) (w : World) (h : RecSl w v l) (hu : RecSl w u U) (hl : l.length ≤ 1000) (hlU : U.length ≤ 1048576) (hr : ∀ r ∈ l, r.p.size ≤ maxLen) (hrU : ∀ r ∈ U, r.p.size ≤ maxLen) (hsd : Sorted U) (hf : ∀ r ∈ U, r.fault = 0) (hp : ∀ r ∈ l, pathB r.p.data.toList = true) :
    Calls Tryz.prog 145 #[v, .func (.func 132) #[u] #[]] w fun e w' => ∃ x, e = .returned x ∧ Below w.heap.size w w' ∧ w'.ownsRow w.heap.size 9 1 x (hidL U l).length ((hidL U l).map strV) := by
  obtain ⟨i0, hi, hz0, hz1, hz2⟩ := info_parts strInfo
  have HCU : Hid (∀ r ∈ l, ∀ w', Below w.heap.size w w' → Calls Tryz.prog 132 #[u, .string r.p] w' fun e w'' => e = .returned (.bool (cutsL U r.p)) ∧ Below w'.heap.size w' w'') := fun r hm w' hb => by
    rw [← cuts_same hsd hf (hp r hm)]
    exact cutsOff_any u U r.p w' (hu.below hb) hlU (hr r hm) hrU
  obtain ⟨sA, cap, rfl, hcap, h⟩ := h
  have H := Lib.hid h
  clear h hsd hf hp hr hrU hu
  go_enter Tryz.func145, Tryz.ntmps145
  go_wp2
  go_loopw [5, 10] (fun f i wr => ∃ (k : Nat) (M : List (List UInt8)), k ≤ l.length ∧ i = .int .i64 k ∧ Hid (M = hidL U (l.take k)) ∧ wr.ownsRow w.heap.size 9 1 f M.length (M.map strV) ∧ Below w.heap.size w wr) (fun _ i _ => l.length - (intOf i).toNat)
  case atStart => exact ⟨0, [], by omega, rfl, rfl, World.ownsRow_nil _ _ _ _, Below.refl _ _⟩
  case round =>
    obtain ⟨k, M, hk, rfl, HM, hown, hbw⟩ := hrel
    by_cases hlt : k < l.length
    · obtain ⟨b, off, rfl, hb, hcell⟩ := H.out (by omega)
      obtain ⟨c0, c1, c2, c3, c4⟩ := (hcell k l[k] (by simp [hlt])).below hbw hb
      clear hcell
      have hi1 : (k : Int) < (l.length : Int) := by omega
      have hi0 : (0 : Int) ≤ (k : Int) := by omega
      have hMl : M.length ≤ 1000 := by
        rw [HM.out]
        have := hid_le U (l.take k)
        rw [List.length_take] at this
        omega
      obtain ⟨fA, fcap, rfl⟩ := own_form hown
      have hbA : Below wr.heap.size wr (wr.alloc (.cells #[.int .i64 l[k].k, .string l[k].p, .string l[k].b, .int .i64 l[k].m, .bool l[k].o] 26)) := (Below.refl _ _).alloc (Nat.le_refl _) _
      have cA := hbw.trans (hbA.mono hbw.size)
      have HC := HCU.out l[k] (List.getElem_mem hlt) _ cA
      have hoA := own_below hown hbA
      have HST := Lib.hid (hid_step (U := U) hlt)
      have HPA : Hid ((wr.alloc (.cells #[.int .i64 l[k].k, .string l[k].p, .string l[k].b, .int .i64 l[k].m, .bool l[k].o] 26)).cell? ⟨wr.heap.size, 1, none⟩ = some (.string l[k].p)) := by show _ = _; go_simp
      rcases Bool.eq_false_or_eq_true (cutsL U l[k].p) with hc | hc
      · have HN : Hid (M ++ [l[k].p.data.toList] = hidL U (l.take (k + 1))) := by show _ = _; rw [HST.out, if_pos hc, ← HM.out]
        rw [hc] at HC
        go_wp2_with fail
        refine HC.mono ?_
        rintro e w1 ⟨rfl, hb1⟩
        have hp1 : w1.cell? ⟨wr.heap.size, 1, none⟩ = some (.string l[k].p) := (hb1.cell (p := ⟨wr.heap.size, 1, none⟩) (by simp)).trans HPA.out
        have d1 := cA.trans (hb1.mono cA.size)
        have hsz1 := d1.size
        have ho1 := own_below hoA hb1
        go_wp2_with (first
          | (at_builtin; refine wpList_append_own _ rfl _ _ 36 rfl w.heap.size 9 i0 (.string ByteArray.empty) 1 16 Tryz.underlying36 hi hz0 hz1 hz2 rfl (by decide) _ _ _ rfl (ho1.alloc _) ⟨w1.heap.size, 0, none⟩ 1 1 [.string l[k].p] rfl rfl (cell_one_new _ _ _) (fun x hx => by simp at hx; subst hx; rfl) (by unfold maxLen; omega) (by omega) (by simp; omega) ?_; intro v' w9 hown' hgrow9 hnil9))
        exact ⟨⟨k + 1, _, by omega, by go_num, HN, str_snoc hown', (d1.alloc d1.size _).grown hgrow9 (d1.alloc d1.size _).size (fun j hj => (hown.lt j hj).1)⟩, by simp [intOf]; omega⟩
      · have HN : Hid (M = hidL U (l.take (k + 1))) := by show _ = _; rw [HST.out, if_neg (by rw [hc]; decide), ← HM.out]
        rw [hc] at HC
        go_wp2_with fail
        refine HC.mono ?_
        rintro e w1 ⟨rfl, hb1⟩
        go_wp2_with fail
        exact ⟨⟨k + 1, M, by omega, by go_num, HN, own_below hoA hb1, cA.trans (hb1.mono cA.size)⟩, by simp [intOf]; omega⟩
    · have HF : Hid (M = hidL U l) := by show _ = _; rw [HM.out, List.take_of_length_le (by omega)]
      go_wp2
      go_ret
      exact ⟨_, rfl, hbw, by rw [← HF.out]; exact hown⟩

set_option maxHeartbeats 3200000 in
theorem hidden_impl (v1 v2 : Value) (A B : List R) (x y : Addr) (w : World) (h1 : RecSl w v1 A) (h2 : RecSl w v2 B) (hl1 : A.length ≤ 1048576) (hl2 : B.length ≤ 1048576) (hr1 : ∀ r ∈ A, r.p.size ≤ maxLen) (hr2 : ∀ r ∈ B, r.p.size ≤ maxLen) (hT : Three w x y) :
    Calls Tryz.prog 58 #[v1, v2] w fun e w' => ∃ x, e = .returned (.tuple #[x, .int .i64 (codeBB A B)]) ∧ Below w.heap.size w w' ∧ w'.ownsRow w.heap.size 9 1 x (hidR A B).length ((hidR A B).map strV) := by
  have HC1 := checkLayer_any v1 A x _ h1 hl1 hr1 hT.tab hT.long
  rw [← checkK_val] at HC1
  have HS1 := Lib.hid h1
  have HS2 := Lib.hid h2
  obtain ⟨A1, cap1, rfl, -⟩ := h1
  obtain ⟨A2, cap2, rfl, -⟩ := h2
  cases hk1 : checkK A with
  | fine =>
    rw [hk1] at HC1
    simp only [EK.val] at HC1
    cases hk2 : checkK B with
    | fine =>
      have HE := Lib.hid (show codeBB A B = 0 by rw [← arg_bb, hk1, hk2]; rfl)
      obtain ⟨hoa, hob⟩ := codeBB_ok HE.out
      go_enter Tryz.func58, Tryz.ntmps58
      go_wp2_with fail
      refine HC1.mono ?_
      rintro e w1 ⟨rfl, hb1⟩
      have hT1 := hT.below hb1 (Nat.le_refl _)
      have HC2 := checkLayer_any _ B x _ (HS2.out.below hb1) hl2 hr2 hT1.tab hT1.long
      rw [← checkK_val, hk2] at HC2
      simp only [EK.val] at HC2
      go_wp2_with fail
      refine HC2.mono ?_
      rintro e w2 ⟨rfl, hb2⟩
      have c2 := hb1.trans (hb2.mono hb1.size)
      have HA := arg2_any .fine .fine x y w2 (hT.below c2 (Nat.le_refl _))
      simp only [EK.val] at HA
      go_wp2_with fail
      refine HA.mono ?_
      rintro e w3 ⟨rfl, hb3⟩
      have c3 := c2.trans (hb3.mono c2.size)
      have hcode : argFrom [.fine, .fine] 0 = 0 := rfl
      rw [hcode]
      have hpa : ∀ r ∈ A, pathB r.p.data.toList = true := fun r hm => (fault_path (layer_rec hoa hm)).1
      have hla := layer_len hoa
      go_wp2_with fail
      refine (pathsWhere_any _ _ A B _ (HS1.out.below c3) (HS2.out.below c3) (by omega) hl2 hr1 hr2 (layer_sorted hob) (fun _ hm => layer_rec hob hm) hpa).mono ?_
      rintro e w4 ⟨f, rfl, hb4, hf⟩
      go_wp2_with fail
      go_ret2
      exact ⟨f, by rw [HE.out]; rfl, c3.trans (hb4.mono c3.size), by rw [hidR_ok HE.out]; exact own_le hf c3.size⟩
    | long =>
      have HE := Lib.hid (show codeBB A B = 2 by rw [← arg_bb, hk1, hk2]; rfl)
      go_enter Tryz.func58, Tryz.ntmps58
      go_wp2_with fail
      refine HC1.mono ?_
      rintro e w1 ⟨rfl, hb1⟩
      have hT1 := hT.below hb1 (Nat.le_refl _)
      have HC2 := checkLayer_any _ B x _ (HS2.out.below hb1) hl2 hr2 hT1.tab hT1.long
      rw [← checkK_val, hk2] at HC2
      simp only [EK.val, errV] at HC2
      go_wp2_with fail
      refine HC2.mono ?_
      rintro e w2 ⟨rfl, hb2⟩
      have c2 := hb1.trans (hb2.mono hb1.size)
      have HA := arg2_any .fine .long x y w2 (hT.below c2 (Nat.le_refl _))
      simp only [EK.val, errV] at HA
      go_wp2_with fail
      refine HA.mono ?_
      rintro e w3 ⟨rfl, hb3⟩
      have c3 := c2.trans (hb3.mono c2.size)
      have hcode : argFrom [.fine, .long] 0 = 2 := rfl
      rw [hcode]
      go_wp2_with fail
      go_ret2
      exact ⟨.slice none 0 0, by rw [HE.out]; rfl, c3, by rw [hidR_bad HE.out (by decide)]; exact World.ownsRow_nil _ _ _ _⟩
    | bad j d =>
      have HE := Lib.hid (show codeBB A B = 1 by rw [← arg_bb, hk1, hk2]; rfl)
      go_enter Tryz.func58, Tryz.ntmps58
      go_wp2_with fail
      refine HC1.mono ?_
      rintro e w1 ⟨rfl, hb1⟩
      have hT1 := hT.below hb1 (Nat.le_refl _)
      have HC2 := checkLayer_any _ B x _ (HS2.out.below hb1) hl2 hr2 hT1.tab hT1.long
      rw [← checkK_val, hk2] at HC2
      simp only [EK.val, recV] at HC2
      go_wp2_with fail
      refine HC2.mono ?_
      rintro e w2 ⟨rfl, hb2⟩
      have c2 := hb1.trans (hb2.mono hb1.size)
      have HA := arg2_any .fine (.bad j d) x y w2 (hT.below c2 (Nat.le_refl _))
      simp only [EK.val, recV] at HA
      go_wp2_with fail
      refine HA.mono ?_
      rintro e w3 ⟨rfl, hb3⟩
      have c3 := c2.trans (hb3.mono c2.size)
      have hcode : argFrom [.fine, (.bad j d)] 0 = 1 := rfl
      rw [hcode]
      go_wp2_with fail
      go_ret2
      exact ⟨.slice none 0 0, by rw [HE.out]; rfl, c3, by rw [hidR_bad HE.out (by decide)]; exact World.ownsRow_nil _ _ _ _⟩
  | long =>
    rw [hk1] at HC1
    simp only [EK.val, errV] at HC1
    cases hk2 : checkK B with
    | fine =>
      have HE := Lib.hid (show codeBB A B = 2 by rw [← arg_bb, hk1, hk2]; rfl)
      go_enter Tryz.func58, Tryz.ntmps58
      go_wp2_with fail
      refine HC1.mono ?_
      rintro e w1 ⟨rfl, hb1⟩
      have hT1 := hT.below hb1 (Nat.le_refl _)
      have HC2 := checkLayer_any _ B x _ (HS2.out.below hb1) hl2 hr2 hT1.tab hT1.long
      rw [← checkK_val, hk2] at HC2
      simp only [EK.val] at HC2
      go_wp2_with fail
      refine HC2.mono ?_
      rintro e w2 ⟨rfl, hb2⟩
      have c2 := hb1.trans (hb2.mono hb1.size)
      have HA := arg2_any .long .fine x y w2 (hT.below c2 (Nat.le_refl _))
      simp only [EK.val, errV] at HA
      go_wp2_with fail
      refine HA.mono ?_
      rintro e w3 ⟨rfl, hb3⟩
      have c3 := c2.trans (hb3.mono c2.size)
      have hcode : argFrom [.long, .fine] 0 = 2 := rfl
      rw [hcode]
      go_wp2_with fail
      go_ret2
      exact ⟨.slice none 0 0, by rw [HE.out]; rfl, c3, by rw [hidR_bad HE.out (by decide)]; exact World.ownsRow_nil _ _ _ _⟩
    | long =>
      have HE := Lib.hid (show codeBB A B = 2 by rw [← arg_bb, hk1, hk2]; rfl)
      go_enter Tryz.func58, Tryz.ntmps58
      go_wp2_with fail
      refine HC1.mono ?_
      rintro e w1 ⟨rfl, hb1⟩
      have hT1 := hT.below hb1 (Nat.le_refl _)
      have HC2 := checkLayer_any _ B x _ (HS2.out.below hb1) hl2 hr2 hT1.tab hT1.long
      rw [← checkK_val, hk2] at HC2
      simp only [EK.val, errV] at HC2
      go_wp2_with fail
      refine HC2.mono ?_
      rintro e w2 ⟨rfl, hb2⟩
      have c2 := hb1.trans (hb2.mono hb1.size)
      have HA := arg2_any .long .long x y w2 (hT.below c2 (Nat.le_refl _))
      simp only [EK.val, errV] at HA
      go_wp2_with fail
      refine HA.mono ?_
      rintro e w3 ⟨rfl, hb3⟩
      have c3 := c2.trans (hb3.mono c2.size)
      have hcode : argFrom [.long, .long] 0 = 2 := rfl
      rw [hcode]
      go_wp2_with fail
      go_ret2
      exact ⟨.slice none 0 0, by rw [HE.out]; rfl, c3, by rw [hidR_bad HE.out (by decide)]; exact World.ownsRow_nil _ _ _ _⟩
    | bad j d =>
      have HE := Lib.hid (show codeBB A B = 2 by rw [← arg_bb, hk1, hk2]; rfl)
      go_enter Tryz.func58, Tryz.ntmps58
      go_wp2_with fail
      refine HC1.mono ?_
      rintro e w1 ⟨rfl, hb1⟩
      have hT1 := hT.below hb1 (Nat.le_refl _)
      have HC2 := checkLayer_any _ B x _ (HS2.out.below hb1) hl2 hr2 hT1.tab hT1.long
      rw [← checkK_val, hk2] at HC2
      simp only [EK.val, recV] at HC2
      go_wp2_with fail
      refine HC2.mono ?_
      rintro e w2 ⟨rfl, hb2⟩
      have c2 := hb1.trans (hb2.mono hb1.size)
      have HA := arg2_any .long (.bad j d) x y w2 (hT.below c2 (Nat.le_refl _))
      simp only [EK.val, errV, recV] at HA
      go_wp2_with fail
      refine HA.mono ?_
      rintro e w3 ⟨rfl, hb3⟩
      have c3 := c2.trans (hb3.mono c2.size)
      have hcode : argFrom [.long, (.bad j d)] 0 = 2 := rfl
      rw [hcode]
      go_wp2_with fail
      go_ret2
      exact ⟨.slice none 0 0, by rw [HE.out]; rfl, c3, by rw [hidR_bad HE.out (by decide)]; exact World.ownsRow_nil _ _ _ _⟩
  | bad i c =>
    rw [hk1] at HC1
    simp only [EK.val, recV] at HC1
    cases hk2 : checkK B with
    | fine =>
      have HE := Lib.hid (show codeBB A B = 1 by rw [← arg_bb, hk1, hk2]; rfl)
      go_enter Tryz.func58, Tryz.ntmps58
      go_wp2_with fail
      refine HC1.mono ?_
      rintro e w1 ⟨rfl, hb1⟩
      have hT1 := hT.below hb1 (Nat.le_refl _)
      have HC2 := checkLayer_any _ B x _ (HS2.out.below hb1) hl2 hr2 hT1.tab hT1.long
      rw [← checkK_val, hk2] at HC2
      simp only [EK.val] at HC2
      go_wp2_with fail
      refine HC2.mono ?_
      rintro e w2 ⟨rfl, hb2⟩
      have c2 := hb1.trans (hb2.mono hb1.size)
      have HA := arg2_any (.bad i c) .fine x y w2 (hT.below c2 (Nat.le_refl _))
      simp only [EK.val, recV] at HA
      go_wp2_with fail
      refine HA.mono ?_
      rintro e w3 ⟨rfl, hb3⟩
      have c3 := c2.trans (hb3.mono c2.size)
      have hcode : argFrom [(.bad i c), .fine] 0 = 1 := rfl
      rw [hcode]
      go_wp2_with fail
      go_ret2
      exact ⟨.slice none 0 0, by rw [HE.out]; rfl, c3, by rw [hidR_bad HE.out (by decide)]; exact World.ownsRow_nil _ _ _ _⟩
    | long =>
      have HE := Lib.hid (show codeBB A B = 2 by rw [← arg_bb, hk1, hk2]; rfl)
      go_enter Tryz.func58, Tryz.ntmps58
      go_wp2_with fail
      refine HC1.mono ?_
      rintro e w1 ⟨rfl, hb1⟩
      have hT1 := hT.below hb1 (Nat.le_refl _)
      have HC2 := checkLayer_any _ B x _ (HS2.out.below hb1) hl2 hr2 hT1.tab hT1.long
      rw [← checkK_val, hk2] at HC2
      simp only [EK.val, errV] at HC2
      go_wp2_with fail
      refine HC2.mono ?_
      rintro e w2 ⟨rfl, hb2⟩
      have c2 := hb1.trans (hb2.mono hb1.size)
      have HA := arg2_any (.bad i c) .long x y w2 (hT.below c2 (Nat.le_refl _))
      simp only [EK.val, recV, errV] at HA
      go_wp2_with fail
      refine HA.mono ?_
      rintro e w3 ⟨rfl, hb3⟩
      have c3 := c2.trans (hb3.mono c2.size)
      have hcode : argFrom [(.bad i c), .long] 0 = 2 := rfl
      rw [hcode]
      go_wp2_with fail
      go_ret2
      exact ⟨.slice none 0 0, by rw [HE.out]; rfl, c3, by rw [hidR_bad HE.out (by decide)]; exact World.ownsRow_nil _ _ _ _⟩
    | bad j d =>
      have HE := Lib.hid (show codeBB A B = 1 by rw [← arg_bb, hk1, hk2]; rfl)
      go_enter Tryz.func58, Tryz.ntmps58
      go_wp2_with fail
      refine HC1.mono ?_
      rintro e w1 ⟨rfl, hb1⟩
      have hT1 := hT.below hb1 (Nat.le_refl _)
      have HC2 := checkLayer_any _ B x _ (HS2.out.below hb1) hl2 hr2 hT1.tab hT1.long
      rw [← checkK_val, hk2] at HC2
      simp only [EK.val, recV] at HC2
      go_wp2_with fail
      refine HC2.mono ?_
      rintro e w2 ⟨rfl, hb2⟩
      have c2 := hb1.trans (hb2.mono hb1.size)
      have HA := arg2_any (.bad i c) (.bad j d) x y w2 (hT.below c2 (Nat.le_refl _))
      simp only [EK.val, recV] at HA
      go_wp2_with fail
      refine HA.mono ?_
      rintro e w3 ⟨rfl, hb3⟩
      have c3 := c2.trans (hb3.mono c2.size)
      have hcode : argFrom [(.bad i c), (.bad j d)] 0 = 1 := rfl
      rw [hcode]
      go_wp2_with fail
      go_ret2
      exact ⟨.slice none 0 0, by rw [HE.out]; rfl, c3, by rw [hidR_bad HE.out (by decide)]; exact World.ownsRow_nil _ _ _ _⟩

set_option maxHeartbeats 1600000 in
theorem hidden_spec (v1 v2 : Value) (A B : List R) (w : World) (h1 : RecSl w v1 A) (h2 : RecSl w v2 B) (hl1 : A.length ≤ 1048576) (hl2 : B.length ≤ 1048576) :
    Calls Tryz.prog 59 #[v1, v2] w fun e w' => ∃ x, e = .returned (.tuple #[x, .int .i64 (codeBB A B)]) ∧ Below w.heap.size w w' ∧ w'.ownsRow w.heap.size 9 1 x (hidR A B).length ((hidR A B).map strV) := by
  have HC1 := l03OK_any v1 A _ h1 hl1
  have HS1 := Lib.hid h1
  have HS2 := Lib.hid h2
  obtain ⟨A1, cap1, rfl, -⟩ := h1
  obtain ⟨A2, cap2, rfl, -⟩ := h2
  by_cases ha : 4096 < A.length
  · have HE := Lib.hid (show codeBB A B = 2 from if_pos (.inl ha))
    have hd : decide ((4096 : Int) < (A.length : Int)) = true := by simp; omega
    go_enter Tryz.func59, Tryz.ntmps59
    have hown0 : (w.alloc (.cells #[] 9)).ownsRow w.heap.size 9 1 (.slice (some ⟨w.heap.size, 0, none⟩) 0 0) 0 [] := World.ownsRow_lit w #[] 0 (Below.refl w.heap.size w).size (Nat.zero_le _) rfl
    go_wp2_with fail
    go_ret2
    exact ⟨_, by rw [HE.out]; rfl, (Below.refl w.heap.size w).alloc (Below.refl w.heap.size w).size _, by rw [hidR_bad HE.out (by decide)]; exact hown0⟩
  have hda : decide ((4096 : Int) < (A.length : Int)) = false := by simp; omega
  by_cases hb : 4096 < B.length
  · have HE := Lib.hid (show codeBB A B = 2 from if_pos (.inr hb))
    have hd : decide ((4096 : Int) < (B.length : Int)) = true := by simp; omega
    go_enter Tryz.func59, Tryz.ntmps59
    have hown0 : (w.alloc (.cells #[] 9)).ownsRow w.heap.size 9 1 (.slice (some ⟨w.heap.size, 0, none⟩) 0 0) 0 [] := World.ownsRow_lit w #[] 0 (Below.refl w.heap.size w).size (Nat.zero_le _) rfl
    go_wp2_with fail
    go_ret2
    exact ⟨_, by rw [HE.out]; rfl, (Below.refl w.heap.size w).alloc (Below.refl w.heap.size w).size _, by rw [hidR_bad HE.out (by decide)]; exact hown0⟩
  have hdb : decide ((4096 : Int) < (B.length : Int)) = false := by simp; omega
  have HL : Hid (codeBB A B = if layerOK A && layerOK B then 0 else 1) := if_neg (by omega)
  rcases Bool.eq_false_or_eq_true (layerOK A) with hoa | hoa
  case inr =>
    have HE := Lib.hid (show codeBB A B = 1 by rw [HL.out, hoa]; rfl)
    rw [hoa] at HC1
    go_enter Tryz.func59, Tryz.ntmps59
    go_wp2_with fail
    refine HC1.mono ?_
    rintro e w1 ⟨rfl, hb1⟩
    have hown0 : (w1.alloc (.cells #[] 9)).ownsRow w.heap.size 9 1 (.slice (some ⟨w1.heap.size, 0, none⟩) 0 0) 0 [] := World.ownsRow_lit w1 #[] 0 hb1.size (Nat.zero_le _) rfl
    go_wp2_with fail
    go_ret2
    exact ⟨_, by rw [HE.out]; rfl, hb1.alloc hb1.size _, by rw [hidR_bad HE.out (by decide)]; exact hown0⟩
  rcases Bool.eq_false_or_eq_true (layerOK B) with hob | hob
  case inr =>
    have HE := Lib.hid (show codeBB A B = 1 by rw [HL.out, hoa, hob]; rfl)
    rw [hoa] at HC1
    go_enter Tryz.func59, Tryz.ntmps59
    go_wp2_with fail
    refine HC1.mono ?_
    rintro e w1 ⟨rfl, hb1⟩
    have HC2 := l03OK_any _ B _ (HS2.out.below hb1) hl2
    rw [hob] at HC2
    go_wp2_with fail
    refine HC2.mono ?_
    rintro e w2 ⟨rfl, hb2⟩
    have c2 := hb1.trans (hb2.mono hb1.size)
    have hown0 : (w2.alloc (.cells #[] 9)).ownsRow w.heap.size 9 1 (.slice (some ⟨w2.heap.size, 0, none⟩) 0 0) 0 [] := World.ownsRow_lit w2 #[] 0 c2.size (Nat.zero_le _) rfl
    go_wp2_with fail
    go_ret2
    exact ⟨_, by rw [HE.out]; rfl, c2.alloc c2.size _, by rw [hidR_bad HE.out (by decide)]; exact hown0⟩
  have HE := Lib.hid (show codeBB A B = 0 by rw [HL.out, hoa, hob]; rfl)
  rw [hoa] at HC1
  go_enter Tryz.func59, Tryz.ntmps59
  go_wp2_with fail
  refine HC1.mono ?_
  rintro e w1 ⟨rfl, hb1⟩
  have HC2 := l03OK_any _ B _ (HS2.out.below hb1) hl2
  rw [hob] at HC2
  go_wp2_with fail
  refine HC2.mono ?_
  rintro e w2 ⟨rfl, hb2⟩
  have c2 := hb1.trans (hb2.mono hb1.size)
  obtain ⟨i0, hi, hz0, hz1, hz2⟩ := info_parts strInfo
  have hla := layer_len hoa
  have HCU : Hid (∀ r ∈ A, ∀ w', Below w.heap.size w w' → Calls Tryz.prog 133 #[.slice A2 B.length cap2, .string r.p] w' fun e w'' => e = .returned (.bool (cutsL B r.p)) ∧ Below w'.heap.size w' w'') := fun r hm w' hb => l06Cuts_any _ B r.p w' (HS2.out.below hb) hl2 (fault_path (layer_rec hoa hm)).1
  have HA1 := HS1.out
  obtain ⟨_, _, hsv, _, h⟩ := HA1
  cases hsv
  have H := Lib.hid h
  clear h
  have hown0 : (w2.alloc (.cells #[] 9)).ownsRow w.heap.size 9 1 (.slice (some ⟨w2.heap.size, 0, none⟩) 0 0) 0 [] := World.ownsRow_lit w2 #[] 0 c2.size (Nat.zero_le _) rfl
  go_wp2_with fail
  go_loopw [6, 7] (fun f i wr => ∃ (k : Nat) (M : List (List UInt8)), k ≤ A.length ∧ i = .int .i64 k ∧ Hid (M = hidL B (A.take k)) ∧ wr.ownsRow w.heap.size 9 1 f M.length (M.map strV) ∧ Below w.heap.size w wr) (fun _ i _ => A.length - (intOf i).toNat)
  case atStart => exact ⟨0, [], by omega, rfl, rfl, hown0, c2.alloc c2.size _⟩
  case round =>
    obtain ⟨k, M, hk, rfl, HM, hown, hbw⟩ := hrel
    by_cases hlt : k < A.length
    · obtain ⟨b, off, rfl, hb, hcell⟩ := H.out (by omega)
      obtain ⟨k0, k1, k2, k3, k4⟩ := (hcell k A[k] (by simp [hlt])).below hbw hb
      have HK1 : Hid (∀ W, Below w.heap.size w W → W.cell? ⟨b, off + k * 5 + 1, none⟩ = some (.string A[k].p)) := fun W hW => ((hcell k A[k] (by simp [hlt])).below hW hb).2.1
      clear hcell
      have hi1 : (k : Int) < (A.length : Int) := by omega
      have hi0 : (0 : Int) ≤ (k : Int) := by omega
      have hMl : M.length ≤ 1000 := by
        rw [HM.out]
        have := hid_le B (A.take k)
        rw [List.length_take] at this
        omega
      obtain ⟨fA, fcap, rfl⟩ := own_form hown
      have HC := HCU.out A[k] (List.getElem_mem hlt) _ hbw
      have HST := Lib.hid (hid_step (U := B) hlt)
      rcases Bool.eq_false_or_eq_true (cutsL B A[k].p) with hc | hc
      · have HN : Hid (M ++ [A[k].p.data.toList] = hidL B (A.take (k + 1))) := by show _ = _; rw [HST.out, if_pos hc, ← HM.out]
        rw [hc] at HC
        go_wp2_with fail
        refine HC.mono ?_
        rintro e w5 ⟨rfl, hb5⟩
        have d1 := hbw.trans (hb5.mono hbw.size)
        have hp1 := HK1.out _ d1
        have hsz1 := d1.size
        have ho1 := own_below hown hb5
        go_wp2_with (first
          | (at_builtin; refine wpList_append_own _ rfl _ _ 36 rfl w.heap.size 9 i0 (.string ByteArray.empty) 1 16 Tryz.underlying36 hi hz0 hz1 hz2 rfl (by decide) _ _ _ rfl (ho1.alloc _) ⟨w5.heap.size, 0, none⟩ 1 1 [.string A[k].p] rfl rfl (cell_one_new _ _ _) (fun x hx => by simp at hx; subst hx; rfl) (by unfold maxLen; omega) (by omega) (by simp; omega) ?_; intro v' w9 hown' hgrow9 hnil9))
        exact ⟨⟨k + 1, _, by omega, by go_num, HN, str_snoc hown', (d1.alloc d1.size _).grown hgrow9 (d1.alloc d1.size _).size (fun j hj => (hown.lt j hj).1)⟩, by simp [intOf]; omega⟩
      · have HN : Hid (M = hidL B (A.take (k + 1))) := by show _ = _; rw [HST.out, if_neg (by rw [hc]; decide), ← HM.out]
        rw [hc] at HC
        go_wp2_with fail
        refine HC.mono ?_
        rintro e w5 ⟨rfl, hb5⟩
        go_wp2_with fail
        exact ⟨⟨k + 1, M, by omega, by go_num, HN, own_below hown hb5, hbw.trans (hb5.mono hbw.size)⟩, by simp [intOf]; omega⟩
    · have HF : Hid (M = hidL B A) := by show _ = _; rw [HM.out, List.take_of_length_le (by omega)]
      go_wp2
      go_ret2
      exact ⟨_, by rw [HE.out]; rfl, hbw, by rw [hidR_ok HE.out, ← HF.out]; exact hown⟩
end Go.Proofs.YtcbmnihepeefaaaGreatDoor.Recs
