/- Parts of several texts of mine in one file (each begins with its own remark). -/
import Derived.Test.YtibekkfbpmloiabGreatDoorHA1
import Derived.Test.YtibekkfbpmloiabGreatDoorHA10
import Derived.Test.YtibekkfbpmloiabGreatDoorHA12
import Derived.Test.YtibekkfbpmloiabGreatDoorHA13
import Derived.Test.YtibekkfbpmloiabGreatDoorHA15
import Derived.Test.YtibekkfbpmloiabGreatDoorHA16
import Derived.Test.YtibekkfbpmloiabGreatDoorHA19
import Derived.Test.YtibekkfbpmloiabGreatDoorHA2
import Derived.Test.YtibekkfbpmloiabGreatDoorHA20
import Derived.Test.YtibekkfbpmloiabGreatDoorHA3
import Derived.Test.YtibekkfbpmloiabGreatDoorHA30
import Derived.Test.YtibekkfbpmloiabGreatDoorHA31
import Derived.Test.YtibekkfbpmloiabGreatDoorHA4
import Derived.Test.YtibekkfbpmloiabGreatDoorHA5
import Derived.Test.YtibekkfbpmloiabGreatDoorHA6
import Derived.Test.YtibekkfbpmloiabGreatDoorHA9
import Derived.Test.YtibekkfbpmloiabGreatDoorChecked
import Derived.Test.YtibekkfbpmloiabGreatDoorShelf
import Derived.Test.YtibekkfbpmloiabGreatDoorProg
import Derived.Test.YtibekkfbpmloiabGreatDoorRows
import Derived.Deep.RegionHeld3
import Derived.Deep.Cut
import Derived.Deep.CutRange
import Derived.Deep.Slices
import Derived.OpenShut
import Derived.ShutString
import Derived.ChangeArms
import Derived.WideShapes
import Derived.Lib.LaidTab
import Derived.BigQuiet
import Derived.Deep.QuietTactic
import Derived.StillTailTactics
import Derived.Deep.Draws
import Derived.Deep.LoopGhost
import Derived.WalkKit
import Derived.WalkSpells
import Derived.WalkSmall
import Derived.Lib.OthersKept
import Derived.Lib.Hide
import Derived.Lib.Strings
import Derived.Lib.Join
import Derived.Deep.RegionWith
import Derived.Laws.OwnMore
import Derived.BigRegion
import Derived.Laws.BytesArg
import Derived.Stop.LaidErr
import Derived.WalkLawsBesides
import Derived.LaidEql
import Derived.Stop.Asserts
import Derived.Below
import Derived.Stop.LaidTwo
import Derived.OneCell
import Derived.Lib.SliceRun
import Derived.Lib.Overlaps
import Derived.Lib.AppendZerosOnto
import Derived.Laws.NewBlocks
import Derived.Laws.IdiomCopy
import Derived.Deep.RegionLaw
import Derived.ChangeVars
import Derived.Deep.DeepHandedRow
import Derived.Deep.AppendLies
import Derived.Laws.EntriesVeiled
import Derived.Deep.CutBlock
import Derived.Laws.IdiomRangeMap
import Derived.Maps.RangeWalk
import Derived.Maps.Ext
import Derived.Lib.SlMapFilter
/- The model's draws: a record put into a layer. -/
namespace Go.Proofs.YtibekkfbpmloiabGreatDoor.Recs
set_option maxRecDepth 100000
open Go.RowKit Paths

theorem base_le {l : List R} (h : Sorted l) (r : R) : (baseL l r).length ≤ l.length + 1 := by
  unfold baseL
  rw [base_is r l h]
  exact Nat.le_trans (put_le _ _) (Nat.succ_le_succ (List.length_filter_le _ _))
theorem lput_le : ∀ (n : Nat) {l : List R} {r : R}, Lays l → r.fault = 0 → (cutAt 47 r.p.data.toList).length ≤ n → (lputF n l r).length ≤ l.length + n := by
  intro n
  induction n with
  | zero =>
    intro l r _ _ hn
    have := cutAt_pos 47 r.p.data.toList
    omega
  | succ n ih =>
    intro l r hl hr hn
    show (baseL (if homed l r.p then l else lputF n l (dirR (parO r.p))) r).length ≤ _
    by_cases hh : homed l r.p = true
    · rw [if_pos hh]
      have := base_le hl.sorted r
      omega
    · rw [if_neg hh]
      have hpar : parentL r.p.data.toList ≠ [] := fun e => hh (by unfold homed; rw [decide_eq_true e]; rfl)
      obtain ⟨h1, h2⟩ := parts_parent (fault_path hr).1 hpar
      have h3 : (cutAt 47 (parO r.p).data.toList).length ≤ n := by omega
      have h4 := ih hl (dir_fault h1) (show (cutAt 47 (dirR (parO r.p)).p.data.toList).length ≤ n from h3)
      have h5 := base_le (lput_lays n hl (dir_fault h1) h3).1.sorted r
      omega
theorem from_step {r : R} {L : List R} {k : Nat} (hk : k < L.length) (d : Bool) : baseFrom r (L.drop k) d = (if !d && lessR r L[k] then [r] else []) ++ ((if keepX r L[k] then [L[k]] else []) ++ baseFrom r (L.drop (k + 1)) (d || lessR r L[k])) := by
  rw [List.drop_eq_getElem_cons hk]
  rfl
theorem from_end {r : R} {L : List R} {k : Nat} (hk : L.length ≤ k) (d : Bool) : baseFrom r (L.drop k) d = if d then [] else [r] := by
  rw [List.drop_eq_nil_of_le hk]
  rfl
theorem keep_same {r x : R} (h : x.p = r.p) : keepX r x = false := by unfold keepX; simp [h]
theorem keep_dir {r x : R} (h : x.p ≠ r.p) (hk : r.k = 3) : keepX r x = true := by unfold keepX; simp [h, hk]
theorem keep_not {r x : R} (h : x.p ≠ r.p) (hk : r.k ≠ 3) : keepX r x = !isUp r.p x.p := by unfold keepX; simp [h, hk]
theorem homed_root {l : List R} {q : ByteArray} (h : parentL q.data.toList = []) : homed l q = true := by unfold homed; rw [decide_eq_true h]; rfl
theorem homed_at {l : List R} {q : ByteArray} {x : R} (h : recAt l (parO q) = some x) (hk : x.k = 3) : homed l q = true := by unfold homed; rw [h]; simp [hk]
theorem homed_none {l : List R} {q : ByteArray} (hp : parentL q.data.toList ≠ []) (h : recAt l (parO q) = none) : homed l q = false := by unfold homed; rw [h, decide_eq_false hp]; rfl
theorem homed_no {l : List R} {q : ByteArray} {x : R} (hp : parentL q.data.toList ≠ []) (h : recAt l (parO q) = some x) (hk : x.k ≠ 3) : homed l q = false := by unfold homed; rw [h, decide_eq_false hp]; simp [hk]

set_option maxHeartbeats 8000000 in
theorem l03Put_any : ∀ (n : Nat) (v : Value) (l : List R) (r : R) (w : World), RecSl w v l → Lays l → r.fault = 0 → (cutAt 47 r.p.data.toList).length ≤ n → l.length + n ≤ 900 →
    Calls Tryz.prog 121 #[v, r.val] w fun e w' => ∃ x, e = .returned x ∧ Below w.heap.size w w' ∧ RowOf w' w.heap.size x (lputF n l r).length (lputF n l r) ∧ x ≠ .slice none 0 0 := by
  intro n
  induction n with
  | zero =>
    intro v l r w _ _ _ hn
    have := cutAt_pos 47 r.p.data.toList
    omega
  | succ n ih =>
    intro v l r w h hly hr hn hln
    obtain ⟨i0, hi, hI0, hI1, hI2⟩ := info_parts recInfo
    have hb0 : Below w.heap.size w (w.alloc (.cells #[.int .i64 r.k, .string r.p, .string r.b, .int .i64 r.m, .bool r.o] 53)) := (Below.refl _ _).alloc (Nat.le_refl _) _
    have bc := box_cells w r 53
    have hPP := (fault_path hr).1
    have hsl := h.below hb0
    have HIH : Hid (parentL r.p.data.toList ≠ [] → ∀ W, RecSl W v l → Calls Tryz.prog 121 #[v, (dirR (parO r.p)).val] W fun e w' => ∃ x, e = .returned x ∧ Below W.heap.size W w' ∧ RowOf w' W.heap.size x (lputF n l (dirR (parO r.p))).length (lputF n l (dirR (parO r.p))) ∧ x ≠ .slice none 0 0) := fun hp W hW => by
      obtain ⟨h1, h2⟩ := parts_parent hPP hp
      exact ih v l (dirR (parO r.p)) W hW hly (dir_fault h1) (show (cutAt 47 (parO r.p).data.toList).length ≤ n by omega) (by omega)
    have HLY2 : Hid (parentL r.p.data.toList ≠ [] → Lays (lputF n l (dirR (parO r.p))) ∧ (lputF n l (dirR (parO r.p))).length ≤ l.length + n) := fun hp => by
      obtain ⟨h1, h2⟩ := parts_parent hPP hp
      exact ⟨(lput_lays n hly (dir_fault h1) (show (cutAt 47 (parO r.p).data.toList).length ≤ n by omega)).1, lput_le n hly (dir_fault h1) (show (cutAt 47 (parO r.p).data.toList).length ≤ n by omega)⟩
    have HAT := l03At_any v l (parO r.p) (w.alloc (.cells #[.int .i64 r.k, .string r.p, .string r.b, .int .i64 r.m, .bool r.o] 53)) hsl (by omega)
    have HPA := fun W => l01Parent_any r.p W (by have := path_short hPP; unfold maxLen; omega)
    have hrp := path_short hPP
    have hrp0 : 0 < r.p.size := by
      rcases Nat.eq_zero_or_pos r.p.size with e | e
      · exact absurd (List.eq_nil_of_length_eq_zero (by rw [← Lib.size_eq]; exact e)) (pathB_ne hPP)
      · exact e
    have HRA := Lib.hid (atL_recAt l (parO r.p))
    have HYL := Lib.hid hly
    have hF : ∃ A cap, v = .slice A l.length cap := by
      obtain ⟨A, cap, e, _⟩ := h
      exact ⟨A, cap, e⟩
    obtain ⟨vA, vcap, rfl⟩ := hF
    obtain ⟨rk, rm, rp, rb, ro⟩ := r
    unfold R.val
    unfold strV at HPA
    dsimp only at *
    generalize hW1 : w.alloc (.cells #[.int .i64 rk, .string rp, .string rb, .int .i64 rm, .bool ro] 53) = W1 at *
    have hwl : w.heap.size < W1.heap.size := by rw [← hW1]; simp
    clear h hly hr hPP ih
    obtain ⟨d0, d1, d2, d3, d4⟩ := bc
    have hbx : RecCells W1 w.heap.size 0 (⟨rk, rm, rp, rb, ro⟩ : R) := ⟨d0, d1, d2, d3, d4⟩
    go_enter Tryz.func121, Tryz.ntmps121
    go_wp2_with fail
    refine (HPA _).mono ?_
    rintro e w' ⟨rfl, rfl⟩
    go_upto_if 14 with (fail)
    go_cut [0, 6] from 14 to 32 (fun s _ wx => ∃ (L : List R) (A : Option Addr) (c : Nat), s = .slice A L.length c ∧ Hid (RecSl wx (.slice A L.length c) L) ∧ Hid (Lays L ∧ L.length ≤ l.length + n) ∧ Hid (lputF (n + 1) l (⟨rk, rm, rp, rb, ro⟩ : R) = baseL L (⟨rk, rm, rp, rb, ro⟩ : R)) ∧ Hid (Below w.heap.size w wx) ∧ Hid (RecCells wx w.heap.size 0 (⟨rk, rm, rp, rb, ro⟩ : R)) ∧ w.heap.size < wx.heap.size)
    case first =>
      by_cases hpar : parentL rp.data.toList = []
      · have hemp : (parentL rp.data.toList).isEmpty = true := by rw [hpar]; rfl
        have HHM : Hid (homed l rp = true) := homed_root hpar
        clear hpar
        simp only [hemp, Bool.not_true]
        go_wp2_with fail
        go_meet
        exact ⟨l, _, _, rfl, hsl, ⟨HYL.out, by omega⟩, (by show baseL (if homed l rp = true then l else _) _ = _; rw [if_pos HHM.out]), hb0, hbx, hwl⟩
      have hemp : (parentL rp.data.toList).isEmpty = false := by simpa using hpar
      simp only [hemp, Bool.not_false]
      rcases HRA.out with ⟨ha, hn0⟩ | ⟨j, hj, ha, hn0⟩
      · have HHM : Hid (homed l rp = false) := homed_none hpar hn0
        rw [ha] at HAT
        unfold parO at HAT
        clear ha hn0
        have HI2 := HIH.out hpar W1 hsl
        have hpar2 := Lib.hid (HLY2.out hpar)
        have HLF : Hid (lputF (n + 1) l (⟨rk, rm, rp, rb, ro⟩ : R) = baseL (lputF n l (dirR (parO rp))) (⟨rk, rm, rp, rb, ro⟩ : R)) := (by show baseL (if homed l rp = true then l else _) _ = _; rw [HHM.out]; rfl)
        generalize lputF n l (dirR (parO rp)) = L at HI2 hpar2 HLF
        unfold R.val dirR parO at HI2
        go_wp2_with fail
        refine HAT.mono ?_
        rintro e w' ⟨rfl, rfl⟩
        go_wp2_with fail
        refine HI2.mono ?_
        rintro e W2 ⟨x2, rfl, hb2, hrow2, hx2⟩
        have HRW2 := Lib.hid hrow2
        clear hrow2 hx2 HI2
        have hbx2 : RecCells W2 w.heap.size 0 (⟨rk, rm, rp, rb, ro⟩ : R) := hbx.below hb2 hwl
        obtain ⟨xA, xcap, rfl⟩ := HRW2.out.form
        have hw2 := hb2.size
        go_wp2_with fail
        go_meet
        exact ⟨L, _, _, rfl, HRW2.out.sl, hpar2.out, HLF.out, hb0.trans (hb2.mono hb0.size), hbx2, by omega⟩
      obtain ⟨_, _, hsle, hcp, HS0⟩ := hsl
      cases hsle
      obtain ⟨g0, o0, hvA, hg0, hcell0⟩ := HS0 (by omega)
      subst hvA
      obtain ⟨f0, f1, f2, f3, f4⟩ := hcell0 j l[j] (by simp [hj])
      have hsl : RecSl W1 (.slice (some ⟨g0, o0, none⟩) l.length vcap) l := ⟨_, _, rfl, hcp, fun _ => ⟨g0, o0, rfl, hg0, hcell0⟩⟩
      clear hcell0 HS0
      have j0 : (0 : Int) ≤ (j : Int) := by omega
      have j1 : (j : Int) < (l.length : Int) := by omega
      have j2 : decide ((j : Int) < 0) = false := by simp
      rw [ha] at HAT
      unfold parO at HAT
      clear ha
      by_cases h3 : l[j].k = 3
      · have HHM : Hid (homed l rp = true) := homed_at hn0 h3
        have j4 : (l[j].k != 3) = false := by simpa using h3
        clear h3 hn0
        go_wp2_with fail
        refine HAT.mono ?_
        rintro e w' ⟨rfl, rfl⟩
        go_wp2_with fail
        go_meet
        exact ⟨l, _, _, rfl, hsl, ⟨HYL.out, by omega⟩, (by show baseL (if homed l rp = true then l else _) _ = _; rw [if_pos HHM.out]), hb0, hbx, hwl⟩
      · have HHM : Hid (homed l rp = false) := homed_no hpar hn0 h3
        have j4 : (l[j].k != 3) = true := by simpa using h3
        clear h3 hn0
        have HI2 := HIH.out hpar W1 hsl
        have hpar2 := Lib.hid (HLY2.out hpar)
        have HLF : Hid (lputF (n + 1) l (⟨rk, rm, rp, rb, ro⟩ : R) = baseL (lputF n l (dirR (parO rp))) (⟨rk, rm, rp, rb, ro⟩ : R)) := (by show baseL (if homed l rp = true then l else _) _ = _; rw [HHM.out]; rfl)
        generalize lputF n l (dirR (parO rp)) = L at HI2 hpar2 HLF
        unfold R.val dirR parO at HI2
        go_wp2_with fail
        refine HAT.mono ?_
        rintro e w' ⟨rfl, rfl⟩
        go_wp2_with fail
        refine HI2.mono ?_
        rintro e W2 ⟨x2, rfl, hb2, hrow2, hx2⟩
        have HRW2 := Lib.hid hrow2
        clear hrow2 hx2 HI2
        have hbx2 : RecCells W2 w.heap.size 0 (⟨rk, rm, rp, rb, ro⟩ : R) := hbx.below hb2 hwl
        obtain ⟨xA, xcap, rfl⟩ := HRW2.out.form
        have hw2 := hb2.size
        go_wp2_with fail
        go_meet
        exact ⟨L, _, _, rfl, HRW2.out.sl, hpar2.out, HLF.out, hb0.trans (hb2.mono hb0.size), hbx2, by omega⟩
    case rest =>
      obtain ⟨L, LA, lc, rfl, HSLx, HLYx, HLF, HBx, HBXx, hwx⟩ := hcut
      generalize hwq : wc = W2 at *
      clear hwq hsl hbx d0 d1 d2 d3 d4
      have c0 : Below w.heap.size w W2 := HBx.out
      have HLYS := Lib.hid (HLYx.out.1)
      have HBL : Hid ((baseL L (⟨rk, rm, rp, rb, ro⟩ : R)).length ≤ 950) := (by have h1 := base_le HLYS.out.sorted (⟨rk, rm, rp, rb, ro⟩ : R); have h2 := HLYx.out.2; show _ ≤ _; omega)
      have HLP : Hid (∀ x ∈ L, pathB x.p.data.toList = true) := fun x hx => (fault_path (HLYS.out.fault x hx)).1
      have hL9 : L.length ≤ 950 := by have h2 := HLYx.out.2; omega
      obtain ⟨_, _, hsle, _, HS0⟩ := HSLx.out
      cases hsle
      have HSL := Lib.hid HS0
      clear HS0
      have HBX : Hid (∀ W', Below W2.heap.size W2 W' → RecCells W' w.heap.size 0 (⟨rk, rm, rp, rb, ro⟩ : R)) := fun W' hb' => RecCells.below (HBXx.out) hb' (by omega)
      clear HAT HIH HPA HRA HLY2 HYL HLYS HSLx HLYx HBXx
      have HO0 : Hid (RowOf (W2.alloc (.cells #[] 53)) W2.heap.size (.slice (some ⟨W2.heap.size, 0, none⟩) 0 0) ([] : List R).length [] ∧ (Value.slice (some ⟨W2.heap.size, 0, none⟩) 0 0) ≠ .slice none 0 0 ∧ baseL L (⟨rk, rm, rp, rb, ro⟩ : R) = [] ++ baseFrom (⟨rk, rm, rp, rb, ro⟩ : R) (L.drop 0) false) := ⟨⟨rfl, World.ownsRow_lit W2 #[] 0 (Nat.le_refl _) (Nat.zero_le _) rfl⟩, (fun e => by cases e), rfl⟩
      have kA : Below W2.heap.size W2 (W2.alloc (.cells #[] 53)) := (Below.refl _ _).alloc (Nat.le_refl _) _
      go_wp2
      go_loopw [7, 8, 9] (fun ov dv iv wr => ∃ (k : Nat) (d : Bool) (O : List R), k ≤ L.length ∧ iv = .int .i64 k ∧ dv = .bool d ∧ Below W2.heap.size W2 wr ∧ Hid (RowOf wr W2.heap.size ov O.length O ∧ ov ≠ .slice none 0 0 ∧ baseL L (⟨rk, rm, rp, rb, ro⟩ : R) = O ++ baseFrom (⟨rk, rm, rp, rb, ro⟩ : R) (L.drop k) d)) (fun _ _ i _ => L.length - (intOf i).toNat)
      case atStart => exact ⟨0, false, [], by omega, rfl, rfl, kA, HO0.out⟩
      case round =>
        obtain ⟨k, d, O, hk, rfl, rfl, kw, HI⟩ := hrel
        have hOl : O.length ≤ 950 := by
          have h1 := congrArg List.length HI.out.2.2
          rw [List.length_append] at h1
          have h2 := HBL.out
          omega
        obtain ⟨oA, ocap, rfl⟩ := HI.out.1.form
        by_cases hlt : k < L.length
        · obtain ⟨b, off, hsA, hb, hcell⟩ := HSL.out (by omega)
          cases hsA
          have HCL : Hid (∀ W', Below W2.heap.size W2 W' → RecCells W' b (off + k * 5) L[k]) := fun W' hb' => (hcell k L[k] (by simp [hlt])).below hb' hb
          clear hcell
          have hi1 : (k : Int) < (L.length : Int) := by omega
          have hi0 : (0 : Int) ≤ (k : Int) := by omega
          have HLPP := Lib.hid (HLP.out _ (List.getElem_mem hlt))
          have hLp := path_short HLPP.out
          have HFS := Lib.hid (from_step (r := (⟨rk, rm, rp, rb, ro⟩ : R)) hlt)
          cases d with
          | true =>
            have HEQ : Hid (baseL L (⟨rk, rm, rp, rb, ro⟩ : R) = O ++ ((if keepX (⟨rk, rm, rp, rb, ro⟩ : R) L[k] then [L[k]] else []) ++ baseFrom (⟨rk, rm, rp, rb, ro⟩ : R) (L.drop (k + 1)) true)) := (by show _ = _; rw [HI.out.2.2, HFS.out]; simp)
            obtain ⟨e0, e1, e2, e3, e4⟩ := HCL.out _ kw
            obtain ⟨d0, d1, d2, d3, d4⟩ := HBX.out _ kw
            go_wp2_with fail
            go_quiet (fail)
            have kq0 : Below W2.heap.size W2 (wr.drewN nq) := below_drewN kw nq
            have HR5 : Hid (RowOf (wr.drewN nq) W2.heap.size (.slice oA O.length ocap) O.length O) := HI.out.1.below (below_drewN (Below.refl _ _) nq)
            have HN5 := Lib.hid HI.out.2.1
            clear e0 e1 e2 e3 e4 d0 d1 d2 d3 d4 HI
            generalize wr.drewN nq = W5 at *
            by_cases he : L[k].p = rp
            · have HKP : Hid (keepX (⟨rk, rm, rp, rb, ro⟩ : R) L[k] = false) := keep_same he
              have hd : (L[k].p.toList != rp.toList) = false := by rw [he]; simp
              have hd2 : (L[k].p.toList == rp.toList) = true := by rw [he]; simp
              clear he
              obtain ⟨e0, e1, e2, e3, e4⟩ := HCL.out _ kq0
              obtain ⟨d0, d1, d2, d3, d4⟩ := HBX.out _ kq0
              go_wp2_with fail
              go_quiet (fail)
              go_wp2_with fail
              go_roundw
              case rel => exact ⟨k + 1, true, O, by omega, by go_num, rfl, below_drewN kq0 _, ⟨(HR5.out).below (below_drewN (Below.refl _ _) _), HN5.out, by rw [HEQ.out, HKP.out]; simp⟩⟩
              case measure => simp [intOf]; omega
            have hd2 : (L[k].p.toList == rp.toList) = false := by rw [str_eq_dec, decide_eq_false he]
            have hd : (L[k].p.toList != rp.toList) = true := by rw [bne, hd2]; rfl
            have HNE := Lib.hid he
            clear he
            obtain ⟨e0, e1, e2, e3, e4⟩ := HCL.out _ kq0
            obtain ⟨d0, d1, d2, d3, d4⟩ := HBX.out _ kq0
            by_cases h3 : rk = 3
            · have HKP : Hid (keepX (⟨rk, rm, rp, rb, ro⟩ : R) L[k] = true) := keep_dir HNE.out h3
              have q3 : (rk == 3) = true := by simp [h3]
              clear h3
              go_wp2_with fail
              go_quiet (fail)
              have kq : Below W2.heap.size W2 (W5.drewN nq) := below_drewN kq0 nq
              have hrq : Hid (RowOf (W5.drewN nq) W2.heap.size (.slice oA O.length ocap) O.length O) := (HR5.out).below (below_drewN (Below.refl _ _) nq)
              clear e0 e1 e2 e3 e4 d0 d1 d2 d3 d4
              obtain ⟨e0, e1, e2, e3, e4⟩ := HCL.out _ kq
              generalize W5.drewN nq = W6 at *
              have hr3 : (W6.alloc (.cells #[.int .i64 L[k].k, .string L[k].p, .string L[k].b, .int .i64 L[k].m, .bool L[k].o] 53)).ownsRow W2.heap.size 53 5 (.slice oA O.length ocap) O.length (flat O) := (hrq.out).2.alloc _
              have hnews := rec_cells_new W6 L[k] 53
              have hone := rec_one L[k]
              have hbz : W2.heap.size ≤ (W6.alloc (.cells #[.int .i64 L[k].k, .string L[k].p, .string L[k].b, .int .i64 L[k].m, .bool L[k].o] 53)).heap.size := (kq.alloc kq.size _).size
              have HLO := Lib.hid (hrq.out).2.lt
              go_wp2_with (first
                | (at_builtin; refine wpList_append_own _ rfl _ _ 27 rfl W2.heap.size 53 i0 (.agg #[.int .i64 0, .string ByteArray.empty, .string ByteArray.empty, .int .i64 0, .bool false]) 5 56 Tryz.underlying27 hi hI0 hI1 hI2 rfl (by decide) _ _ _ rfl hr3 ⟨W6.heap.size, 0, none⟩ 1 1 (R.cs L[k]) rfl rfl hnews hone (by unfold maxLen; omega) (by omega) hbz ?_; intro v7 w7 hown' hgrow9 hnil9; have HRN := Lib.hid (row_snoc hown'); have HNN : Hid (v7 ≠ .slice none 0 0) := (fun e => by have := (hnil9.1 e).2; omega); have k7 := (kq.alloc kq.size _).grown hgrow9 hbz (fun j hj => (HLO.out j hj).1); clear hown' hgrow9 hnil9)
                | go_in)
              clear hr3 hnews hone hbz HLO
              go_roundw
              case rel => exact ⟨k + 1, true, O ++ [L[k]], by omega, by go_num, rfl, k7, ⟨HRN.out, HNN.out, by rw [HEQ.out, HKP.out]; simp [List.append_assoc]⟩⟩
              case measure => simp [intOf]; omega
            have q3 : (rk == 3) = false := by simp [h3]
            have HK3 := Lib.hid h3
            clear h3
            have HBE := fun W' => l01Below_two L[k].p rp W' hrp0 hLp hrp
            rw [← isUp_below HLPP.out] at HBE
            cases hu : isUp rp L[k].p with
            | true =>
              have HKP : Hid (keepX (⟨rk, rm, rp, rb, ro⟩ : R) L[k] = false) := (by show _ = _; rw [keep_not HNE.out HK3.out]; show (!isUp rp L[k].p) = _; rw [hu]; rfl)
              rw [hu] at HBE
              clear hu
              have kd : Below W2.heap.size W2 W5.drew := kq0.drew
              go_wp2_with fail
              go_region_held3 (fun W' => W'.cell? ⟨w.heap.size, 0, none⟩ = some (.int .i64 rk) ∧ W'.cell? ⟨w.heap.size, 1, none⟩ = some (.string rp) ∧ W'.cell? ⟨b, off + k * 5 + 1, none⟩ = some (.string L[k].p)) (first | exact ⟨d0, d1, e1⟩ | go_keep) (first
                | (go_at_call 180; refine (HBE _).mono ?_; rintro e w6 ⟨rfl, rfl⟩))
              go_wp2_with fail
              go_roundw
              case rel => exact ⟨k + 1, true, O, by omega, by go_num, rfl, kd, ⟨(HR5.out).below ((Below.refl _ _).drew), HN5.out, by rw [HEQ.out, HKP.out]; simp⟩⟩
              case measure => simp [intOf]; omega
            | false =>
              have HKP : Hid (keepX (⟨rk, rm, rp, rb, ro⟩ : R) L[k] = true) := (by show _ = _; rw [keep_not HNE.out HK3.out]; show (!isUp rp L[k].p) = _; rw [hu]; rfl)
              rw [hu] at HBE
              clear hu
              have kd : Below W2.heap.size W2 W5.drew := kq0.drew
              go_wp2_with fail
              go_region_held3 (fun W' => W'.cell? ⟨w.heap.size, 0, none⟩ = some (.int .i64 rk) ∧ W'.cell? ⟨w.heap.size, 1, none⟩ = some (.string rp) ∧ W'.cell? ⟨b, off + k * 5 + 1, none⟩ = some (.string L[k].p)) (first | exact ⟨d0, d1, e1⟩ | go_keep) (first
                | (go_at_call 180; refine (HBE _).mono ?_; rintro e w6 ⟨rfl, rfl⟩))
              have hrq : Hid (RowOf W5.drew W2.heap.size (.slice oA O.length ocap) O.length O) := (HR5.out).below ((Below.refl _ _).drew)
              clear e0 e1 e2 e3 e4 d0 d1 d2 d3 d4
              obtain ⟨e0, e1, e2, e3, e4⟩ := HCL.out _ kd
              generalize W5.drew = W6 at *
              have hr3 : (W6.alloc (.cells #[.int .i64 L[k].k, .string L[k].p, .string L[k].b, .int .i64 L[k].m, .bool L[k].o] 53)).ownsRow W2.heap.size 53 5 (.slice oA O.length ocap) O.length (flat O) := (hrq.out).2.alloc _
              have hnews := rec_cells_new W6 L[k] 53
              have hone := rec_one L[k]
              have hbz : W2.heap.size ≤ (W6.alloc (.cells #[.int .i64 L[k].k, .string L[k].p, .string L[k].b, .int .i64 L[k].m, .bool L[k].o] 53)).heap.size := (kd.alloc kd.size _).size
              have HLO := Lib.hid (hrq.out).2.lt
              go_wp2_with (first
                | (at_builtin; refine wpList_append_own _ rfl _ _ 27 rfl W2.heap.size 53 i0 (.agg #[.int .i64 0, .string ByteArray.empty, .string ByteArray.empty, .int .i64 0, .bool false]) 5 56 Tryz.underlying27 hi hI0 hI1 hI2 rfl (by decide) _ _ _ rfl hr3 ⟨W6.heap.size, 0, none⟩ 1 1 (R.cs L[k]) rfl rfl hnews hone (by unfold maxLen; omega) (by omega) hbz ?_; intro v7 w7 hown' hgrow9 hnil9; have HRN := Lib.hid (row_snoc hown'); have HNN : Hid (v7 ≠ .slice none 0 0) := (fun e => by have := (hnil9.1 e).2; omega); have k7 := (kd.alloc kd.size _).grown hgrow9 hbz (fun j hj => (HLO.out j hj).1); clear hown' hgrow9 hnil9)
                | go_in)
              clear hr3 hnews hone hbz HLO
              go_roundw
              case rel => exact ⟨k + 1, true, O ++ [L[k]], by omega, by go_num, rfl, k7, ⟨HRN.out, HNN.out, by rw [HEQ.out, HKP.out]; simp [List.append_assoc]⟩⟩
              case measure => simp [intOf]; omega
          | false =>
            obtain ⟨e0, e1, e2, e3, e4⟩ := HCL.out _ kw
            obtain ⟨d0, d1, d2, d3, d4⟩ := HBX.out _ kw
            have HLS := fun W' => l01Less_any rp L[k].p W' hrp hLp
            have kd0 : Below W2.heap.size W2 wr.drew := kw.drew
            have HCE : Hid (∀ W', Below W2.heap.size W2 W' → W'.cell? ⟨w.heap.size, 1, none⟩ = some (.string rp) ∧ W'.cell? ⟨b, off + k * 5 + 1, none⟩ = some (.string L[k].p)) := fun W' h' => ⟨(HBX.out W' h').2.1, (HCL.out W' h').2.1⟩
            cases hless : lessR (⟨rk, rm, rp, rb, ro⟩ : R) L[k] with
            | true =>
              have HEQ : Hid (baseL L (⟨rk, rm, rp, rb, ro⟩ : R) = (O ++ [(⟨rk, rm, rp, rb, ro⟩ : R)]) ++ ((if keepX (⟨rk, rm, rp, rb, ro⟩ : R) L[k] then [L[k]] else []) ++ baseFrom (⟨rk, rm, rp, rb, ro⟩ : R) (L.drop (k + 1)) true)) := (by show _ = _; rw [HI.out.2.2, HFS.out, hless]; simp)
              have hless' : lessP (cutAt 47 rp.data.toList) (cutAt 47 L[k].p.data.toList) = true := hless
              rw [hless'] at HLS
              clear hless hless'
              go_wp2_with fail
              go_region_held3 (fun W' => W'.cell? ⟨w.heap.size, 1, none⟩ = some (.string rp) ∧ W'.cell? ⟨b, off + k * 5 + 1, none⟩ = some (.string L[k].p)) (first | exact HCE.out _ k3 | exact HCE.out _ kd0 | go_keep) (first
                | (go_at_call 76; refine (HLS _).mono ?_; rintro e w3 ⟨rfl, hb3⟩; have k3 : Below W2.heap.size W2 w3 := kd0.trans (hb3.mono kd0.size)))
              have HR3 : Hid (RowOf w3 W2.heap.size (.slice oA O.length ocap) O.length O) := (HI.out.1.below ((Below.refl _ _).drew)).below hb3
              clear e0 e1 e2 e3 e4 d0 d1 d2 d3 d4
              obtain ⟨d0, d1, d2, d3, d4⟩ := HBX.out _ k3
              have hr3 : (w3.alloc (.cells #[.int .i64 rk, .string rp, .string rb, .int .i64 rm, .bool ro] 53)).ownsRow W2.heap.size 53 5 (.slice oA O.length ocap) O.length (flat O) := (HR3.out).2.alloc _
              have hnews := rec_cells_new w3 (⟨rk, rm, rp, rb, ro⟩ : R) 53
              have hone := rec_one (⟨rk, rm, rp, rb, ro⟩ : R)
              have hbz : W2.heap.size ≤ (w3.alloc (.cells #[.int .i64 rk, .string rp, .string rb, .int .i64 rm, .bool ro] 53)).heap.size := (k3.alloc k3.size _).size
              have HLO := Lib.hid (HR3.out).2.lt
              go_wp2_with (first
                | (at_builtin; refine wpList_append_own _ rfl _ _ 27 rfl W2.heap.size 53 i0 (.agg #[.int .i64 0, .string ByteArray.empty, .string ByteArray.empty, .int .i64 0, .bool false]) 5 56 Tryz.underlying27 hi hI0 hI1 hI2 rfl (by decide) _ _ _ rfl hr3 ⟨w3.heap.size, 0, none⟩ 1 1 (R.cs (⟨rk, rm, rp, rb, ro⟩ : R)) rfl rfl hnews hone (by unfold maxLen; omega) (by omega) hbz ?_; intro v5 w5 hown' hgrow9 hnil9; have HRN := Lib.hid (row_snoc hown'); have HNN : Hid (v5 ≠ .slice none 0 0) := (fun e => by have := (hnil9.1 e).2; omega); have k5 := (k3.alloc k3.size _).grown hgrow9 hbz (fun j hj => (HLO.out j hj).1); clear hown' hgrow9 hnil9)
                | go_in)
              clear hr3 hnews hone hbz HLO
              clear d0 d1 d2 d3 d4
              have hO5 : (O ++ [(⟨rk, rm, rp, rb, ro⟩ : R)]).length ≤ 951 := by simp; omega
              generalize O ++ [(⟨rk, rm, rp, rb, ro⟩ : R)] = O5 at *
              obtain ⟨pA, pcap, rfl⟩ := HRN.out.form
              have HR5 := HRN
              have HN5 := HNN
              clear HRN HNN
              by_cases he : L[k].p = rp
              · have HKP : Hid (keepX (⟨rk, rm, rp, rb, ro⟩ : R) L[k] = false) := keep_same he
                have hd : (L[k].p.toList != rp.toList) = false := by rw [he]; simp
                have hd2 : (L[k].p.toList == rp.toList) = true := by rw [he]; simp
                clear he
                obtain ⟨e0, e1, e2, e3, e4⟩ := HCL.out _ k5
                obtain ⟨d0, d1, d2, d3, d4⟩ := HBX.out _ k5
                go_wp2_with fail
                go_quiet (fail)
                go_wp2_with fail
                go_roundw
                case rel => exact ⟨k + 1, true, O5, by omega, by go_num, rfl, below_drewN k5 _, ⟨(HR5.out).below (below_drewN (Below.refl _ _) _), HN5.out, by rw [HEQ.out, HKP.out]; simp⟩⟩
                case measure => simp [intOf]; omega
              have hd2 : (L[k].p.toList == rp.toList) = false := by rw [str_eq_dec, decide_eq_false he]
              have hd : (L[k].p.toList != rp.toList) = true := by rw [bne, hd2]; rfl
              have HNE := Lib.hid he
              clear he
              obtain ⟨e0, e1, e2, e3, e4⟩ := HCL.out _ k5
              obtain ⟨d0, d1, d2, d3, d4⟩ := HBX.out _ k5
              by_cases h3 : rk = 3
              · have HKP : Hid (keepX (⟨rk, rm, rp, rb, ro⟩ : R) L[k] = true) := keep_dir HNE.out h3
                have q3 : (rk == 3) = true := by simp [h3]
                clear h3
                go_wp2_with fail
                go_quiet (fail)
                have kq : Below W2.heap.size W2 (w5.drewN nq) := below_drewN k5 nq
                have hrq : Hid (RowOf (w5.drewN nq) W2.heap.size (.slice pA O5.length pcap) O5.length O5) := (HR5.out).below (below_drewN (Below.refl _ _) nq)
                clear e0 e1 e2 e3 e4 d0 d1 d2 d3 d4
                obtain ⟨e0, e1, e2, e3, e4⟩ := HCL.out _ kq
                generalize w5.drewN nq = W6 at *
                have hr3 : (W6.alloc (.cells #[.int .i64 L[k].k, .string L[k].p, .string L[k].b, .int .i64 L[k].m, .bool L[k].o] 53)).ownsRow W2.heap.size 53 5 (.slice pA O5.length pcap) O5.length (flat O5) := (hrq.out).2.alloc _
                have hnews := rec_cells_new W6 L[k] 53
                have hone := rec_one L[k]
                have hbz : W2.heap.size ≤ (W6.alloc (.cells #[.int .i64 L[k].k, .string L[k].p, .string L[k].b, .int .i64 L[k].m, .bool L[k].o] 53)).heap.size := (kq.alloc kq.size _).size
                have HLO := Lib.hid (hrq.out).2.lt
                go_wp2_with (first
                  | (at_builtin; refine wpList_append_own _ rfl _ _ 27 rfl W2.heap.size 53 i0 (.agg #[.int .i64 0, .string ByteArray.empty, .string ByteArray.empty, .int .i64 0, .bool false]) 5 56 Tryz.underlying27 hi hI0 hI1 hI2 rfl (by decide) _ _ _ rfl hr3 ⟨W6.heap.size, 0, none⟩ 1 1 (R.cs L[k]) rfl rfl hnews hone (by unfold maxLen; omega) (by omega) hbz ?_; intro v7 w7 hown' hgrow9 hnil9; have HRN := Lib.hid (row_snoc hown'); have HNN : Hid (v7 ≠ .slice none 0 0) := (fun e => by have := (hnil9.1 e).2; omega); have k7 := (kq.alloc kq.size _).grown hgrow9 hbz (fun j hj => (HLO.out j hj).1); clear hown' hgrow9 hnil9)
                  | go_in)
                clear hr3 hnews hone hbz HLO
                go_roundw
                case rel => exact ⟨k + 1, true, O5 ++ [L[k]], by omega, by go_num, rfl, k7, ⟨HRN.out, HNN.out, by rw [HEQ.out, HKP.out]; simp [List.append_assoc]⟩⟩
                case measure => simp [intOf]; omega
              have q3 : (rk == 3) = false := by simp [h3]
              have HK3 := Lib.hid h3
              clear h3
              have HBE := fun W' => l01Below_two L[k].p rp W' hrp0 hLp hrp
              rw [← isUp_below HLPP.out] at HBE
              cases hu : isUp rp L[k].p with
              | true =>
                have HKP : Hid (keepX (⟨rk, rm, rp, rb, ro⟩ : R) L[k] = false) := (by show _ = _; rw [keep_not HNE.out HK3.out]; show (!isUp rp L[k].p) = _; rw [hu]; rfl)
                rw [hu] at HBE
                clear hu
                have kd : Below W2.heap.size W2 w5.drew := k5.drew
                go_wp2_with fail
                go_region_held3 (fun W' => W'.cell? ⟨w.heap.size, 0, none⟩ = some (.int .i64 rk) ∧ W'.cell? ⟨w.heap.size, 1, none⟩ = some (.string rp) ∧ W'.cell? ⟨b, off + k * 5 + 1, none⟩ = some (.string L[k].p)) (first | exact ⟨d0, d1, e1⟩ | go_keep) (first
                  | (go_at_call 180; refine (HBE _).mono ?_; rintro e w6 ⟨rfl, rfl⟩))
                go_wp2_with fail
                go_roundw
                case rel => exact ⟨k + 1, true, O5, by omega, by go_num, rfl, kd, ⟨(HR5.out).below ((Below.refl _ _).drew), HN5.out, by rw [HEQ.out, HKP.out]; simp⟩⟩
                case measure => simp [intOf]; omega
              | false =>
                have HKP : Hid (keepX (⟨rk, rm, rp, rb, ro⟩ : R) L[k] = true) := (by show _ = _; rw [keep_not HNE.out HK3.out]; show (!isUp rp L[k].p) = _; rw [hu]; rfl)
                rw [hu] at HBE
                clear hu
                have kd : Below W2.heap.size W2 w5.drew := k5.drew
                go_wp2_with fail
                go_region_held3 (fun W' => W'.cell? ⟨w.heap.size, 0, none⟩ = some (.int .i64 rk) ∧ W'.cell? ⟨w.heap.size, 1, none⟩ = some (.string rp) ∧ W'.cell? ⟨b, off + k * 5 + 1, none⟩ = some (.string L[k].p)) (first | exact ⟨d0, d1, e1⟩ | go_keep) (first
                  | (go_at_call 180; refine (HBE _).mono ?_; rintro e w6 ⟨rfl, rfl⟩))
                have hrq : Hid (RowOf w5.drew W2.heap.size (.slice pA O5.length pcap) O5.length O5) := (HR5.out).below ((Below.refl _ _).drew)
                clear e0 e1 e2 e3 e4 d0 d1 d2 d3 d4
                obtain ⟨e0, e1, e2, e3, e4⟩ := HCL.out _ kd
                generalize w5.drew = W6 at *
                have hr3 : (W6.alloc (.cells #[.int .i64 L[k].k, .string L[k].p, .string L[k].b, .int .i64 L[k].m, .bool L[k].o] 53)).ownsRow W2.heap.size 53 5 (.slice pA O5.length pcap) O5.length (flat O5) := (hrq.out).2.alloc _
                have hnews := rec_cells_new W6 L[k] 53
                have hone := rec_one L[k]
                have hbz : W2.heap.size ≤ (W6.alloc (.cells #[.int .i64 L[k].k, .string L[k].p, .string L[k].b, .int .i64 L[k].m, .bool L[k].o] 53)).heap.size := (kd.alloc kd.size _).size
                have HLO := Lib.hid (hrq.out).2.lt
                go_wp2_with (first
                  | (at_builtin; refine wpList_append_own _ rfl _ _ 27 rfl W2.heap.size 53 i0 (.agg #[.int .i64 0, .string ByteArray.empty, .string ByteArray.empty, .int .i64 0, .bool false]) 5 56 Tryz.underlying27 hi hI0 hI1 hI2 rfl (by decide) _ _ _ rfl hr3 ⟨W6.heap.size, 0, none⟩ 1 1 (R.cs L[k]) rfl rfl hnews hone (by unfold maxLen; omega) (by omega) hbz ?_; intro v7 w7 hown' hgrow9 hnil9; have HRN := Lib.hid (row_snoc hown'); have HNN : Hid (v7 ≠ .slice none 0 0) := (fun e => by have := (hnil9.1 e).2; omega); have k7 := (kd.alloc kd.size _).grown hgrow9 hbz (fun j hj => (HLO.out j hj).1); clear hown' hgrow9 hnil9)
                  | go_in)
                clear hr3 hnews hone hbz HLO
                go_roundw
                case rel => exact ⟨k + 1, true, O5 ++ [L[k]], by omega, by go_num, rfl, k7, ⟨HRN.out, HNN.out, by rw [HEQ.out, HKP.out]; simp [List.append_assoc]⟩⟩
                case measure => simp [intOf]; omega
            | false =>
              have HEQ : Hid (baseL L (⟨rk, rm, rp, rb, ro⟩ : R) = O ++ ((if keepX (⟨rk, rm, rp, rb, ro⟩ : R) L[k] then [L[k]] else []) ++ baseFrom (⟨rk, rm, rp, rb, ro⟩ : R) (L.drop (k + 1)) false)) := (by show _ = _; rw [HI.out.2.2, HFS.out, hless]; simp)
              have hless' : lessP (cutAt 47 rp.data.toList) (cutAt 47 L[k].p.data.toList) = false := hless
              rw [hless'] at HLS
              clear hless hless'
              go_wp2_with fail
              go_region_held3 (fun W' => W'.cell? ⟨w.heap.size, 1, none⟩ = some (.string rp) ∧ W'.cell? ⟨b, off + k * 5 + 1, none⟩ = some (.string L[k].p)) (first | exact HCE.out _ k3 | exact HCE.out _ kd0 | go_keep) (first
                | (go_at_call 76; refine (HLS _).mono ?_; rintro e w3 ⟨rfl, hb3⟩; have k3 : Below W2.heap.size W2 w3 := kd0.trans (hb3.mono kd0.size)))
              have HR3 : Hid (RowOf w3 W2.heap.size (.slice oA O.length ocap) O.length O) := (HI.out.1.below ((Below.refl _ _).drew)).below hb3
              clear e0 e1 e2 e3 e4 d0 d1 d2 d3 d4
              by_cases he : L[k].p = rp
              · have HKP : Hid (keepX (⟨rk, rm, rp, rb, ro⟩ : R) L[k] = false) := keep_same he
                have hd : (L[k].p.toList != rp.toList) = false := by rw [he]; simp
                have hd2 : (L[k].p.toList == rp.toList) = true := by rw [he]; simp
                clear he
                obtain ⟨e0, e1, e2, e3, e4⟩ := HCL.out _ k3
                obtain ⟨d0, d1, d2, d3, d4⟩ := HBX.out _ k3
                go_wp2_with fail
                go_quiet (fail)
                go_wp2_with fail
                go_roundw
                case rel => exact ⟨k + 1, false, O, by omega, by go_num, rfl, below_drewN k3 _, ⟨(HR3.out).below (below_drewN (Below.refl _ _) _), HI.out.2.1, by rw [HEQ.out, HKP.out]; simp⟩⟩
                case measure => simp [intOf]; omega
              have hd2 : (L[k].p.toList == rp.toList) = false := by rw [str_eq_dec, decide_eq_false he]
              have hd : (L[k].p.toList != rp.toList) = true := by rw [bne, hd2]; rfl
              have HNE := Lib.hid he
              clear he
              obtain ⟨e0, e1, e2, e3, e4⟩ := HCL.out _ k3
              obtain ⟨d0, d1, d2, d3, d4⟩ := HBX.out _ k3
              by_cases h3 : rk = 3
              · have HKP : Hid (keepX (⟨rk, rm, rp, rb, ro⟩ : R) L[k] = true) := keep_dir HNE.out h3
                have q3 : (rk == 3) = true := by simp [h3]
                clear h3
                go_wp2_with fail
                go_quiet (fail)
                have kq : Below W2.heap.size W2 (w3.drewN nq) := below_drewN k3 nq
                have hrq : Hid (RowOf (w3.drewN nq) W2.heap.size (.slice oA O.length ocap) O.length O) := (HR3.out).below (below_drewN (Below.refl _ _) nq)
                clear e0 e1 e2 e3 e4 d0 d1 d2 d3 d4
                obtain ⟨e0, e1, e2, e3, e4⟩ := HCL.out _ kq
                generalize w3.drewN nq = W6 at *
                have hr3 : (W6.alloc (.cells #[.int .i64 L[k].k, .string L[k].p, .string L[k].b, .int .i64 L[k].m, .bool L[k].o] 53)).ownsRow W2.heap.size 53 5 (.slice oA O.length ocap) O.length (flat O) := (hrq.out).2.alloc _
                have hnews := rec_cells_new W6 L[k] 53
                have hone := rec_one L[k]
                have hbz : W2.heap.size ≤ (W6.alloc (.cells #[.int .i64 L[k].k, .string L[k].p, .string L[k].b, .int .i64 L[k].m, .bool L[k].o] 53)).heap.size := (kq.alloc kq.size _).size
                have HLO := Lib.hid (hrq.out).2.lt
                go_wp2_with (first
                  | (at_builtin; refine wpList_append_own _ rfl _ _ 27 rfl W2.heap.size 53 i0 (.agg #[.int .i64 0, .string ByteArray.empty, .string ByteArray.empty, .int .i64 0, .bool false]) 5 56 Tryz.underlying27 hi hI0 hI1 hI2 rfl (by decide) _ _ _ rfl hr3 ⟨W6.heap.size, 0, none⟩ 1 1 (R.cs L[k]) rfl rfl hnews hone (by unfold maxLen; omega) (by omega) hbz ?_; intro v7 w7 hown' hgrow9 hnil9; have HRN := Lib.hid (row_snoc hown'); have HNN : Hid (v7 ≠ .slice none 0 0) := (fun e => by have := (hnil9.1 e).2; omega); have k7 := (kq.alloc kq.size _).grown hgrow9 hbz (fun j hj => (HLO.out j hj).1); clear hown' hgrow9 hnil9)
                  | go_in)
                clear hr3 hnews hone hbz HLO
                go_roundw
                case rel => exact ⟨k + 1, false, O ++ [L[k]], by omega, by go_num, rfl, k7, ⟨HRN.out, HNN.out, by rw [HEQ.out, HKP.out]; simp [List.append_assoc]⟩⟩
                case measure => simp [intOf]; omega
              have q3 : (rk == 3) = false := by simp [h3]
              have HK3 := Lib.hid h3
              clear h3
              have HBE := fun W' => l01Below_two L[k].p rp W' hrp0 hLp hrp
              rw [← isUp_below HLPP.out] at HBE
              cases hu : isUp rp L[k].p with
              | true =>
                have HKP : Hid (keepX (⟨rk, rm, rp, rb, ro⟩ : R) L[k] = false) := (by show _ = _; rw [keep_not HNE.out HK3.out]; show (!isUp rp L[k].p) = _; rw [hu]; rfl)
                rw [hu] at HBE
                clear hu
                have kd : Below W2.heap.size W2 w3.drew := k3.drew
                go_wp2_with fail
                go_region_held3 (fun W' => W'.cell? ⟨w.heap.size, 0, none⟩ = some (.int .i64 rk) ∧ W'.cell? ⟨w.heap.size, 1, none⟩ = some (.string rp) ∧ W'.cell? ⟨b, off + k * 5 + 1, none⟩ = some (.string L[k].p)) (first | exact ⟨d0, d1, e1⟩ | go_keep) (first
                  | (go_at_call 180; refine (HBE _).mono ?_; rintro e w6 ⟨rfl, rfl⟩))
                go_wp2_with fail
                go_roundw
                case rel => exact ⟨k + 1, false, O, by omega, by go_num, rfl, kd, ⟨(HR3.out).below ((Below.refl _ _).drew), HI.out.2.1, by rw [HEQ.out, HKP.out]; simp⟩⟩
                case measure => simp [intOf]; omega
              | false =>
                have HKP : Hid (keepX (⟨rk, rm, rp, rb, ro⟩ : R) L[k] = true) := (by show _ = _; rw [keep_not HNE.out HK3.out]; show (!isUp rp L[k].p) = _; rw [hu]; rfl)
                rw [hu] at HBE
                clear hu
                have kd : Below W2.heap.size W2 w3.drew := k3.drew
                go_wp2_with fail
                go_region_held3 (fun W' => W'.cell? ⟨w.heap.size, 0, none⟩ = some (.int .i64 rk) ∧ W'.cell? ⟨w.heap.size, 1, none⟩ = some (.string rp) ∧ W'.cell? ⟨b, off + k * 5 + 1, none⟩ = some (.string L[k].p)) (first | exact ⟨d0, d1, e1⟩ | go_keep) (first
                  | (go_at_call 180; refine (HBE _).mono ?_; rintro e w6 ⟨rfl, rfl⟩))
                have hrq : Hid (RowOf w3.drew W2.heap.size (.slice oA O.length ocap) O.length O) := (HR3.out).below ((Below.refl _ _).drew)
                clear e0 e1 e2 e3 e4 d0 d1 d2 d3 d4
                obtain ⟨e0, e1, e2, e3, e4⟩ := HCL.out _ kd
                generalize w3.drew = W6 at *
                have hr3 : (W6.alloc (.cells #[.int .i64 L[k].k, .string L[k].p, .string L[k].b, .int .i64 L[k].m, .bool L[k].o] 53)).ownsRow W2.heap.size 53 5 (.slice oA O.length ocap) O.length (flat O) := (hrq.out).2.alloc _
                have hnews := rec_cells_new W6 L[k] 53
                have hone := rec_one L[k]
                have hbz : W2.heap.size ≤ (W6.alloc (.cells #[.int .i64 L[k].k, .string L[k].p, .string L[k].b, .int .i64 L[k].m, .bool L[k].o] 53)).heap.size := (kd.alloc kd.size _).size
                have HLO := Lib.hid (hrq.out).2.lt
                go_wp2_with (first
                  | (at_builtin; refine wpList_append_own _ rfl _ _ 27 rfl W2.heap.size 53 i0 (.agg #[.int .i64 0, .string ByteArray.empty, .string ByteArray.empty, .int .i64 0, .bool false]) 5 56 Tryz.underlying27 hi hI0 hI1 hI2 rfl (by decide) _ _ _ rfl hr3 ⟨W6.heap.size, 0, none⟩ 1 1 (R.cs L[k]) rfl rfl hnews hone (by unfold maxLen; omega) (by omega) hbz ?_; intro v7 w7 hown' hgrow9 hnil9; have HRN := Lib.hid (row_snoc hown'); have HNN : Hid (v7 ≠ .slice none 0 0) := (fun e => by have := (hnil9.1 e).2; omega); have k7 := (kd.alloc kd.size _).grown hgrow9 hbz (fun j hj => (HLO.out j hj).1); clear hown' hgrow9 hnil9)
                  | go_in)
                clear hr3 hnews hone hbz HLO
                go_roundw
                case rel => exact ⟨k + 1, false, O ++ [L[k]], by omega, by go_num, rfl, k7, ⟨HRN.out, HNN.out, by rw [HEQ.out, HKP.out]; simp [List.append_assoc]⟩⟩
                case measure => simp [intOf]; omega
        · obtain rfl : k = L.length := by omega
          have HFE := Lib.hid (from_end (r := (⟨rk, rm, rp, rb, ro⟩ : R)) (Nat.le_refl L.length))
          cases d with
          | true =>
            have HE : Hid (baseL L (⟨rk, rm, rp, rb, ro⟩ : R) = O) := (by show _ = _; rw [HI.out.2.2, HFE.out]; simp)
            go_wp2
            go_ret
            exact ⟨_, rfl, c0.trans (kw.mono c0.size), (by rw [HLF.out, HE.out]; exact ⟨rfl, own_down HI.out.1.2 c0.size⟩), HI.out.2.1⟩
          | false =>
            have HE : Hid (baseL L (⟨rk, rm, rp, rb, ro⟩ : R) = O ++ [(⟨rk, rm, rp, rb, ro⟩ : R)]) := (by show _ = _; rw [HI.out.2.2, HFE.out]; simp)
            obtain ⟨d0, d1, d2, d3, d4⟩ := HBX.out _ kw
            have hr3 : (wr.alloc (.cells #[.int .i64 rk, .string rp, .string rb, .int .i64 rm, .bool ro] 53)).ownsRow W2.heap.size 53 5 (.slice oA O.length ocap) O.length (flat O) := (HI.out.1).2.alloc _
            have hnews := rec_cells_new wr (⟨rk, rm, rp, rb, ro⟩ : R) 53
            have hone := rec_one (⟨rk, rm, rp, rb, ro⟩ : R)
            have hbz : W2.heap.size ≤ (wr.alloc (.cells #[.int .i64 rk, .string rp, .string rb, .int .i64 rm, .bool ro] 53)).heap.size := (kw.alloc kw.size _).size
            have HLO := Lib.hid (HI.out.1).2.lt
            go_wp2_with (first
              | (at_builtin; refine wpList_append_own _ rfl _ _ 27 rfl W2.heap.size 53 i0 (.agg #[.int .i64 0, .string ByteArray.empty, .string ByteArray.empty, .int .i64 0, .bool false]) 5 56 Tryz.underlying27 hi hI0 hI1 hI2 rfl (by decide) _ _ _ rfl hr3 ⟨wr.heap.size, 0, none⟩ 1 1 (R.cs (⟨rk, rm, rp, rb, ro⟩ : R)) rfl rfl hnews hone (by unfold maxLen; omega) (by omega) hbz ?_; intro v7 w7 hown' hgrow9 hnil9; have HRN := Lib.hid (row_snoc hown'); have HNN : Hid (v7 ≠ .slice none 0 0) := (fun e => by have := (hnil9.1 e).2; omega); have k7 := (kw.alloc kw.size _).grown hgrow9 hbz (fun j hj => (HLO.out j hj).1); clear hown' hgrow9 hnil9)
              | go_in)
            clear hr3 hnews hone hbz HLO
            go_ret
            exact ⟨_, rfl, c0.trans (k7.mono c0.size), (by rw [HLF.out, HE.out]; exact ⟨rfl, own_down HRN.out.2 c0.size⟩), HNN.out⟩
end Go.Proofs.YtibekkfbpmloiabGreatDoor.Recs
