/- Parts of several texts of mine in one file (each begins with its own remark). -/
import Derived.Test.YtcnjiphoahoojaaGreatDoorCA10
import Derived.Test.YtcnjiphoahoojaaGreatDoorCA11
import Derived.Test.YtcnjiphoahoojaaGreatDoorCA12
import Derived.Test.YtcnjiphoahoojaaGreatDoorCA13
import Derived.Test.YtcnjiphoahoojaaGreatDoorCA14
import Derived.Test.YtcnjiphoahoojaaGreatDoorCA15
import Derived.Test.YtcnjiphoahoojaaGreatDoorCA16
import Derived.Test.YtcnjiphoahoojaaGreatDoorCA18
import Derived.Test.YtcnjiphoahoojaaGreatDoorCA19
import Derived.Test.YtcnjiphoahoojaaGreatDoorCA2
import Derived.Test.YtcnjiphoahoojaaGreatDoorCA21
import Derived.Test.YtcnjiphoahoojaaGreatDoorCA22
import Derived.Test.YtcnjiphoahoojaaGreatDoorCA23
import Derived.Test.YtcnjiphoahoojaaGreatDoorCA24
import Derived.Test.YtcnjiphoahoojaaGreatDoorCA26
import Derived.Test.YtcnjiphoahoojaaGreatDoorCA3
import Derived.Test.YtcnjiphoahoojaaGreatDoorCA4
import Derived.Test.YtcnjiphoahoojaaGreatDoorCA6
import Derived.Test.YtcnjiphoahoojaaGreatDoorCA9
import Derived.Test.YtcnjiphoahoojaaGreatDoorChecked
import Derived.Test.YtcnjiphoahoojaaGreatDoorShelf
import Derived.Test.YtcnjiphoahoojaaGreatDoorProg
import Derived.Test.YtcnjiphoahoojaaGreatDoorRows
import Derived.StillTailTactics
import Derived.Laws.OwnMore
import Derived.BigQuiet
import Derived.BigRegion
import Derived.Deep.QuietTactic
import Derived.Deep.RegionHeld3
import Derived.Deep.Slices
import Derived.OpenShut
import Derived.ShutString
import Derived.ChangeArms
import Derived.WideShapes
import Derived.Lib.LaidTab
import Derived.Deep.Draws
import Derived.Deep.LoopGhost
import Derived.WalkKit
import Derived.WalkSpells
import Derived.WalkSmall
import Derived.Lib.OthersKept
import Derived.Lib.Hide
import Derived.Lib.Strings
import Derived.Lib.Join
import Derived.Laws.BytesArg
import Derived.Stop.LaidErr
import Derived.WalkLawsBesides
import Derived.LaidEql
import Derived.Stop.Asserts
import Derived.Below
import Derived.Stop.LaidTwo
import Derived.ChangeVars
import Derived.Deep.DeepHandedRow
import Derived.Deep.AppendLies
import Derived.Laws.IdiomCopy
import Derived.Deep.RegionWith
import Derived.OneCell
import Derived.Lib.SliceRun
import Derived.Lib.Overlaps
import Derived.Lib.AppendZerosOnto
import Derived.Laws.NewBlocks
import Derived.Deep.RegionLaw
import Derived.RangeFuncNested
import Derived.RangeFuncBound
import Derived.RangeFuncCalls
import Derived.RangeFuncLeaves
import Derived.RangeFuncBox
import Derived.Shelf.Abstract
import Derived.Shelf.RegionOpen
import Derived.OwnWalkIn
import Derived.TacticsInMore
import Derived.LoopNIn
import Derived.LoopIn
/- Slices in memory of their own, of any element that lies in a fixed number of cells. -/
namespace Go.Proofs.YtcnjiphoahoojaaGreatDoor.Recs
set_option maxRecDepth 100000
open Go.RowKit Paths

section
variable {α : Type} {cs : α → List Value} {k : Nat}
variable {T : TypeId} {w w' : World} {base : Nat} {v : Value} {n : Nat} {M : List α}
theorem RowG.betw {b top : Nat} (h : RowG cs k T w base v n M) (hb : Betw b top w w') (hk : ∀ j, v.ownBlock = some j → j < b ∨ top ≤ j) : RowG cs k T w' base v n M := ⟨h.1, hb.own h.2 hk⟩
end
end Go.Proofs.YtcnjiphoahoojaaGreatDoor.Recs

/- MergeTrace, MergeMany of the program. Conditions: the table of kinds, the two sentinels. -/
namespace Go.Proofs.YtcnjiphoahoojaaGreatDoor.Recs
set_option maxRecDepth 100000
open Go.RowKit Paths Errs

theorem csK_len (p : ByteArray × Int) : (csK p).length = 2 := rfl
theorem rowK_snoc {w : World} {base : Nat} {v : Value} {M : List (ByteArray × Int)} {p : ByteArray × Int} (h : w.ownsRow base 64 2 v (M.length + 1) (flatG csK M ++ csK p)) : RowK w base v (M ++ [p]).length (M ++ [p]) :=
  ⟨rfl, by rw [flatG_snoc, List.length_append]; exact h⟩
theorem picks_step {W : List (R × Nat)} {k : Nat} (hk : k < W.length) : picksL (W.take (k + 1)) = picksL (W.take k) ++ [(W[k].1.p, (W[k].2 : Int))] := by
  unfold picksL
  rw [List.take_add_one, List.getElem?_eq_getElem hk, List.map_append]
  rfl
def trR (LL : List (List R)) : List (ByteArray × Int) := if codeS LL = 0 then picksL (wins LL) else []
theorem tr_ok {LL : List (List R)} (h : codeS LL = 0) : trR LL = picksL (wins LL) := if_pos h
theorem tr_bad {LL : List (List R)} {c : Int} (h : codeS LL = c) (hc : c ≠ 0) : trR LL = [] := if_neg (by rw [h]; exact hc)
theorem tr_len (LL : List (List R)) : (trR LL).length ≤ 1048576 := by
  unfold trR
  split
  · rename_i h
    have := wins_80 (fine_s h).2
    unfold picksL
    rw [List.length_map]
    omega
  · simp
set_option maxHeartbeats 3200000 in
theorem mergeTrace_impl (v : Value) (LL : List (List R)) (x y : Addr) (w : World) (h : StkSl w v LL) (hl : LL.length ≤ 1048576) (hr : ∀ l ∈ LL, l.length ≤ 1048576 ∧ ∀ r ∈ l, r.p.size ≤ maxLen) (hT : Three w x y) :
    Calls Tryz.prog 9 #[v] w fun e w' => ∃ z, e = .returned (.tuple #[z, .int .i64 (codeS LL)]) ∧ Below w.heap.size w w' ∧ RowK w' w.heap.size z (trR LL).length (trR LL) := by
  obtain ⟨i0, hi, hI0, hI1, hI2⟩ := info_parts pickInfo
  have HARG : euFrom [(stkE LL).u] 0 = codeS LL := arg_s LL
  by_cases h0 : codeS LL = 0
  · obtain ⟨hc, hSO⟩ := fine_s h0
    have H0 := Lib.hid h0
    have HC := stackU_any v LL x y w h hl hr hT
    rw [hc] at HC
    unfold EN.u EU.val at HC
    have hst := stack_of hSO
    have h80 := wins_80 hSO
    have HWO := fun w1 hb => winnersOf_any v LL w1 (h.below hb) hst.1 hst.2
    clear HARG h0 hst h
    go_enter Tryz.func9, Tryz.ntmps9
    go_wp2_with fail
    refine HC.mono ?_
    rintro e w1 ⟨rfl, hb1⟩
    have hT1 := hT.below hb1 (Nat.le_refl _)
    have HA := argU1_any .fine x y w1 hT1
    unfold EU.val at HA
    go_wp2_with fail
    refine HA.mono ?_
    rintro e w3 ⟨rfl, hb3⟩
    have c3 := hb1.trans (hb3.mono hb1.size)
    have hcode : euFrom [.fine] 0 = 0 := rfl
    rw [hcode]
    clear hcode
    go_wp2_with fail
    refine (HWO w3 c3).mono ?_
    rintro e w4 ⟨gv, rfl, hb4, hg4⟩
    have c4 := c3.trans (hb4.mono c3.size)
    obtain ⟨gA, gcap, rfl⟩ := hg4.form
    have HG4 := Lib.hid hg4
    clear HWO hg4
    have HWE : Hid (trR LL = picksL (wins LL)) := tr_ok H0.out
    generalize hWW : wins LL = WW at *
    clear hWW
    go_wp2_with fail
    go_loopw [5, 18] (fun f i wr => ∃ (k : Nat) (M : List (ByteArray × Int)), k ≤ WW.length ∧ i = .int .i64 k ∧ Hid (M = picksL (WW.take k)) ∧ Hid (M.length = k) ∧ RowK wr w4.heap.size f M.length M ∧ Below w4.heap.size w4 wr) (fun _ i _ => WW.length - (intOf i).toNat)
    case atStart => exact ⟨0, [], by omega, rfl, rfl, rfl, RowG.nil, Below.refl _ _⟩
    case round =>
      obtain ⟨k, M, hk, rfl, HM, hMk, hrow, hbw⟩ := hrel
      have hbv := c4.trans (hbw.mono c4.size)
      obtain ⟨fA, fcap, rfl⟩ := hrow.form
      by_cases hlt : k < WW.length
      · obtain ⟨g, cap, hge, hpc⟩ := win_cells (HG4.out.below hbw) hlt
        cases hge
        have HN : Hid (M ++ [(WW[k].1.p, (WW[k].2 : Int))] = picksL (WW.take (k + 1))) := by show _ = _; rw [picks_step hlt, ← HM.out]
        obtain ⟨⟨p0, p1, p2, p3, p4⟩, p5⟩ := hpc
        have hMl : M.length ≤ 80 := by have := hMk.out; omega
        have hi1 : (k : Int) < (WW.length : Int) := by omega
        have hi0 : (0 : Int) ≤ (k : Int) := by omega
        generalize hP : WW[k] = P at *
        clear hP
        have cA := hbw.alloc hbw.size (.cells #[.int .i64 P.1.k, .string P.1.p, .string P.1.b, .int .i64 P.1.m, .bool P.1.o, .int .i64 (P.2 : Int)] 62)
        have hrA := hrow.2.alloc (.cells #[.int .i64 P.1.k, .string P.1.p, .string P.1.b, .int .i64 P.1.m, .bool P.1.o, .int .i64 (P.2 : Int)] 62)
        have HNW : Hid (∀ j u, (csK (P.1.p, (P.2 : Int)))[j]? = some u → ((wr.alloc (.cells #[.int .i64 P.1.k, .string P.1.p, .string P.1.b, .int .i64 P.1.m, .bool P.1.o, .int .i64 (P.2 : Int)] 62)).alloc (.cells #[.string P.1.p, .int .i64 (P.2 : Int)] 64)).cell? ((⟨wr.heap.size + 1, 0, none⟩ : Addr).add j) = some u) := by
          have h := csK_new (wr.alloc (.cells #[.int .i64 P.1.k, .string P.1.p, .string P.1.b, .int .i64 P.1.m, .bool P.1.o, .int .i64 (P.2 : Int)] 62)) (P.1.p, (P.2 : Int)) 64
          rw [World.size_alloc] at h
          exact h
        have HZ : Hid (w4.heap.size ≤ (wr.alloc (.cells #[.int .i64 P.1.k, .string P.1.p, .string P.1.b, .int .i64 P.1.m, .bool P.1.o, .int .i64 (P.2 : Int)] 62)).heap.size) := cA.size
        go_wp2_with (first
          | (at_builtin; refine wpList_append_own _ rfl _ _ 24 rfl w4.heap.size 64 i0 (.agg #[.string ByteArray.empty, .int .i64 0]) 2 24 Tryz.underlying24 hi hI0 hI1 hI2 rfl (by decide) _ _ _ rfl (hrA.alloc _) ⟨wr.heap.size + 1, 0, none⟩ 1 1 (csK (P.1.p, (P.2 : Int))) rfl rfl HNW.out (csK_one _) (by unfold maxLen; omega) (by omega) (by have := hbw.size; simp; omega) ?_; intro v' w9 hown' hgrow9 hnil9))
        exact ⟨⟨k + 1, _, by omega, by go_num, HN, by show _ = _; simp [hMk.out], rowK_snoc hown', (cA.alloc cA.size _).grown hgrow9 (cA.alloc cA.size _).size (fun j hj => (hrA.lt j hj).1)⟩, by simp [intOf]; omega⟩
      · have HF : Hid (M = picksL WW) := by show _ = _; rw [HM.out, List.take_of_length_le (by omega)]
        go_wp2
        go_ret2
        exact ⟨_, by rw [H0.out]; rfl, hbv, by rw [HWE.out, ← HF.out]; exact hrow.down c4.size⟩
  · cases hc : stkE LL <;> (
      rw [hc] at HARG
      first
      | exact absurd (HARG.symm.trans rfl) h0
      | (have HC := stackU_any v LL x y w h hl hr hT
         rw [hc] at HC
         unfold EN.u EU.val at HC
         try unfold errV at HC
         try unfold recV at HC
         obtain ⟨vA, vcap, rfl⟩ := h.form
         go_enter Tryz.func9, Tryz.ntmps9
         go_wp2_with fail
         refine HC.mono ?_
         rintro e w1 ⟨rfl, hb1⟩
         have hT1 := hT.below hb1 (Nat.le_refl _)
         have HA := argU1_any ((stkE LL).u) x y w1 hT1
         rw [hc] at HA
         have hne : (codeS LL != 0) = true := (by simpa using h0)
         have HQ := Lib.hid (tr_bad (LL := LL) rfl h0)
         rw [HARG] at HA
         try unfold EN.u at HA
         unfold EU.val at HA
         try unfold errV at HA
         try unfold recV at HA
         generalize hC : codeS LL = C at *
         have HCC := Lib.hid hC
         clear HARG h0 hC
         go_wp2_with fail
         refine HA.mono ?_
         rintro e w3 ⟨rfl, hb3⟩
         have c3 := hb1.trans (hb3.mono hb1.size)
         go_wp2_with fail
         go_ret2
         exact ⟨.slice none 0 0, by first | rfl | (rw [HCC.out]; rfl) | (rw [← HCC.out]; rfl), c3, by rw [HQ.out]; exact RowG.nil⟩))

end Go.Proofs.YtcnjiphoahoojaaGreatDoor.Recs

/- MergeTrace, MergeMany of the model. -/
namespace Go.Proofs.YtcnjiphoahoojaaGreatDoor.Recs
set_option maxRecDepth 100000
open Go.RowKit Paths Errs

set_option maxHeartbeats 1600000 in
theorem mergeTrace_spec (v : Value) (LL : List (List R)) (w : World) (h : StkSl w v LL) (hl : LL.length ≤ 1048576) (hll : ∀ l ∈ LL, l.length ≤ 1048576) :
    Calls Tryz.prog 7 #[v] w fun e w' => ∃ z, e = .returned (.tuple #[z, .int .i64 (codeS LL)]) ∧ Below w.heap.size w w' ∧ RowK w' w.heap.size z (trR LL).length (trR LL) := by
  have HS := Lib.hid h
  obtain ⟨vA, vcap, rfl⟩ := h.form
  have HOK := l05Stack_any _ LL w h hl hll
  have E0 : Hid (∀ W, Below w.heap.size w W → (W.alloc (.cells #[] 64)).ownsRow w.heap.size 64 2 (.slice (some ⟨W.heap.size, 0, none⟩) 0 0) 0 []) := fun W hW => World.ownsRow_lit W #[] 0 hW.size (Nat.zero_le _) rfl
  by_cases h1 : 4096 < LL.length
  · have hd : decide ((4096 : Int) < (LL.length : Int)) = true := by simp; omega
    have HC := Lib.hid (s_long h1)
    have HQ := Lib.hid (tr_bad (s_long h1) (by decide))
    clear h1
    go_enter Tryz.func7, Tryz.ntmps7
    go_wp2_with fail
    go_ret2
    exact ⟨_, by rw [HC.out]; rfl, (Below.refl _ _).alloc (Nat.le_refl _) _, by rw [HQ.out]; exact ⟨rfl, E0.out _ (Below.refl _ _)⟩⟩
  have hd1 : decide ((4096 : Int) < (LL.length : Int)) = false := by simp; omega
  cases ho : stackOK LL with
  | false =>
    have HC := Lib.hid (s_bad h1 ho)
    have HQ := Lib.hid (tr_bad (s_bad h1 ho) (by decide))
    rw [ho] at HOK
    clear h1 ho
    go_enter Tryz.func7, Tryz.ntmps7
    go_wp2_with fail
    refine HOK.mono ?_
    rintro e w1 ⟨rfl, c0⟩
    go_wp2_with fail
    go_ret2
    exact ⟨_, by rw [HC.out]; rfl, c0.alloc c0.size _, by rw [HQ.out]; exact ⟨rfl, E0.out _ c0⟩⟩
  | true =>
    have H0 := Lib.hid (s_ok h1 ho)
    have hst := stack_of ho
    have HAL := fun w' hb => l07Merge_any (.slice vA LL.length vcap) LL w' (HS.out.below hb) hst.1 hst.2
    rw [ho] at HOK
    clear h1 ho hst
    go_enter Tryz.func7, Tryz.ntmps7
    go_wp2_with fail
    refine HOK.mono ?_
    rintro e w1 ⟨rfl, c0⟩
    go_wp2_with fail
    refine (HAL _ c0).mono ?_
    rintro e w4 ⟨f, z, rfl, hb4, hf, hz⟩
    have c4 := c0.trans (hb4.mono c0.size)
    go_wp2_with fail
    go_ret2
    exact ⟨_, by rw [H0.out]; rfl, c4, by rw [tr_ok H0.out]; exact hz.down c0.size⟩

end Go.Proofs.YtcnjiphoahoojaaGreatDoor.Recs

/- The laws' comparison of two slices of picks, and their marks in one: written, and read again. -/
namespace Go.Proofs.YtcnjiphoahoojaaGreatDoor.Recs
set_option maxRecDepth 100000
open Go.RowKit Paths

def KCells (w : World) (b off : Nat) (p : ByteArray × Int) : Prop := w.cell? ⟨b, off, none⟩ = some (.string p.1) ∧ w.cell? ⟨b, off + 1, none⟩ = some (.int .i64 p.2)
theorem KCells.below {w w' : World} {B b off : Nat} {p : ByteArray × Int} (h : KCells w b off p) (hb : Below B w w') (hB : b < B) : KCells w' b off p := ⟨(hb.cell (p := ⟨b, off, none⟩) hB).trans h.1, (hb.cell (p := ⟨b, off + 1, none⟩) hB).trans h.2⟩
def PickSl (w : World) (v : Value) (G : List (ByteArray × Int)) : Prop :=
  ∃ A cap, v = .slice A G.length cap ∧ G.length ≤ cap ∧ (0 < G.length → ∃ b off, A = some ⟨b, off, none⟩ ∧ b < w.heap.size ∧ ∀ i p, G[i]? = some p → KCells w b (off + i * 2) p)
theorem RowK.sl {w : World} {base : Nat} {v : Value} {n : Nat} {G : List (ByteArray × Int)} (h : RowK w base v n G) : PickSl w v G := by
  have hh := h
  obtain ⟨rfl, h⟩ := h
  rcases h.2 with ⟨rfl, hn⟩ | ⟨g, cap, cur, rfl, hb, hg, hc, _⟩
  · exact ⟨none, 0, by rw [hn], by omega, fun h => by omega⟩
  · refine ⟨_, cap, rfl, hc, fun _ => ⟨g, 0, rfl, (Array.getElem?_eq_some_iff.1 hg).1, fun i p hi => ?_⟩⟩
    have hlt := (List.getElem?_eq_some_iff.1 hi).1
    have he := (List.getElem?_eq_some_iff.1 hi).2
    have one : ∀ c, c < 2 → w.cell? ⟨g, i * 2 + c, none⟩ = (csK p)[c]? := fun c hc => by
      rw [RowG.cell csK_len hh hlt hc, he]
    rw [Nat.zero_add]
    exact ⟨one 0 (by omega), one 1 (by omega)⟩
theorem RowK.below {w w' : World} {base : Nat} {v : Value} {n : Nat} {G : List (ByteArray × Int)} (h : RowK w base v n G) (hb : Below w.heap.size w w') : RowK w' base v n G := RowG.below h hb
theorem Betw.picks {b top : Nat} {w w' : World} {base : Nat} {v : Value} {n : Nat} {G : List (ByteArray × Int)} (hb : Betw b top w w') (h : RowK w base v n G) (hk : ∀ j, v.ownBlock = some j → j < b ∨ top ≤ j) : RowK w' base v n G := RowG.betw h hb hk

set_option maxHeartbeats 400000 in
theorem eqPick_any (p : ByteArray) (n : Int) (w : World) :
    Calls Tryz.prog 33 #[.agg #[.string p, .int .i64 n], .agg #[.string p, .int .i64 n]] w fun e w' => e = .returned (.bool true) ∧ Below w.heap.size w w' := by
  go_enter Tryz.func33, Tryz.ntmps33
  go_wp2_with fail
  go_ret
  exact ⟨rfl, ((Below.refl _ _).alloc (Nat.le_refl _) _).alloc (by simp) _⟩

set_option maxHeartbeats 1000000 in
theorem eqPickS_same (v1 v2 : Value) (l : List (ByteArray × Int)) (w : World) (h1 : PickSl w v1 l) (h2 : PickSl w v2 l) (hl : l.length ≤ 1048576) :
    Calls Tryz.prog 10 #[v1, v2] w fun e w' => e = .returned (.bool true) ∧ Below w.heap.size w w' := by
  obtain ⟨A1, cap1, rfl, hcap1, h1⟩ := h1
  obtain ⟨A2, cap2, rfl, hcap2, h2⟩ := h2
  have H1 := Lib.hid h1
  have H2 := Lib.hid h2
  clear h1 h2
  go_enter Tryz.func10, Tryz.ntmps10
  go_wp2
  go_loopw [5] (fun i wr => ∃ (j : Nat), j ≤ l.length ∧ i = .int .i64 j ∧ Below w.heap.size w wr) (fun i _ => l.length - (intOf i).toNat)
  case atStart => exact ⟨0, by omega, rfl, Below.refl _ _⟩
  case round =>
    obtain ⟨j, hj, rfl, hbw⟩ := hrel
    by_cases hlt : j < l.length
    · obtain ⟨b1, off1, rfl, hb1, hcell1⟩ := H1.out (by omega)
      obtain ⟨b2, off2, rfl, hb2, hcell2⟩ := H2.out (by omega)
      obtain ⟨c0, c1⟩ := (hcell1 j l[j] (by simp [hlt])).below hbw hb1
      obtain ⟨d0, d1⟩ := (hcell2 j l[j] (by simp [hlt])).below hbw hb2
      clear hcell1 hcell2
      have hi1 : (j : Int) < (l.length : Int) := by omega
      have hi0 : (0 : Int) ≤ (j : Int) := by omega
      go_wp2_with fail
      go_still_tail 8, (by kernel_rfl)
      change wpList _ _ _ _ _ wr.drew
      have hbw' : Below w.heap.size w wr.drew := hbw.drew
      clear hbw
      generalize wr.drew = W2 at *
      go_wp2_with fail
      refine (eqPick_any _ _ _).mono ?_
      rintro e w1 ⟨rfl, hb1⟩
      go_wp2_with fail
      go_roundw
      case rel => exact ⟨j + 1, by omega, by go_num, hbw'.trans (hb1.mono hbw'.size)⟩
      case measure => simp [intOf]; omega
    · obtain rfl : j = l.length := by omega
      go_wp2
      go_ret
      exact ⟨rfl, hbw⟩

/-- The marks of one pick, from x on. -/
def mk2 (x : Int) : ByteArray × Int := (markS x, x + 1)
def markK (x : Int) (n : Nat) : List (ByteArray × Int) := (List.range n).map fun i : Nat => mk2 (x + 2 * (i : Int))
theorem markK_len (x : Int) (n : Nat) : (markK x n).length = n := by simp [markK]
theorem markK_at {x : Int} {n j : Nat} (h : j < n) : (markK x n)[j]'(by rw [markK_len]; exact h) = mk2 (x + 2 * j) := by simp [markK]
theorem setK_take {l N : List (ByteArray × Int)} {j : Nat} (hm : j < N.length) (hl : j < l.length) (h : N.take j = l.take j) : (N.set j l[j]).take (j + 1) = l.take (j + 1) := by
  rw [List.take_add_one, List.take_add_one, List.take_set_of_le (Nat.le_refl _), h, List.getElem?_set_self hm, List.getElem?_eq_getElem hl]

set_option maxHeartbeats 3200000 in
theorem markPickS_any (v : Value) (n base : Nat) (M : List (ByteArray × Int)) (x : Int) (w : World) (hrow : RowK w base v n M) (h0 : 0 ≤ x) (hk : x + 2 * n ≤ 1099511627776) :
    Calls Tryz.prog 13 #[v, .int .i64 x] w fun e w' => e = .returned (.int .i64 (x + 2 * n)) ∧ RowK w' base v n (markK x n) ∧ w.grownBy w' v.ownBlock := by
  rcases hrow.2.2 with ⟨rfl, rfl⟩ | ⟨g, cap, cur, rfl, hbg, hgg, hnc, hcm, _⟩
  · go_enter Tryz.func13, Tryz.ntmps13
    go_wp2
    refine wp_loop_rounds 1 ?_
    rw [rounds_succ]
    go_wp2
    go_ret
    exact ⟨by simp, ⟨by simp [markK], World.ownsRow_nil _ _ _ _⟩, World.grownBy.refl _ _⟩
  · unfold maxLen at hcm
    clear hgg
    go_enter Tryz.func13, Tryz.ntmps13
    go_wp2
    go_loopw [1, 5] (fun m i wr => ∃ (j : Nat) (N : List (ByteArray × Int)), j ≤ n ∧ i = .int .i64 j ∧ m = .int .i64 (x + 2 * j) ∧ RowK wr base (.slice (some ⟨g, 0, none⟩) n cap) n N ∧ Hid (N.take j = (markK x n).take j) ∧ w.grownBy wr (some g)) (fun _ i _ => n - (intOf i).toNat)
    case atStart => exact ⟨0, M, by omega, rfl, by simp, hrow, rfl, World.grownBy.refl _ _⟩
    case round =>
      obtain ⟨j, N, hj, rfl, rfl, hr, HN, hgr⟩ := hrel
      by_cases hlt : j < n
      · have hi1 : (j : Int) < (n : Int) := by omega
        have hi0 : (0 : Int) ≤ (j : Int) := by omega
        have hm : j < N.length := by rw [hr.1]; exact hlt
        have HS := Lib.hid (setK_take (l := markK x n) hm (by rw [markK_len]; exact hlt) HN.out)
        rw [markK_at hlt] at HS
        generalize hX : x + 2 * (j : Int) = X at *
        have hX0 : 0 ≤ X := by omega
        have hX1 : X + 2 ≤ 1099511627776 := by omega
        have d0 := RowG.cell csK_len hr hm (c := 0) (by omega)
        have d1 := RowG.cell csK_len hr hm (c := 1) (by omega)
        simp only [csK, List.getElem?_cons_zero, List.getElem?_cons_succ, Nat.add_zero] at d0 d1
        have hf := RowG.frozen hr
        obtain ⟨a1, b1⟩ := RowG.field csK_len hr (i := j) (c := 0) (a := (markS X, N[j].2)) (u := .string (markS X)) hm (by omega) rfl
        simp only [Nat.add_zero] at a1 b1
        go_wp2_with fail
        refine (markText_any _ _ (by omega) (by omega)).mono ?_
        rintro e w1 ⟨rfl, hb1⟩
        have r1 := RowK.below hr hb1
        have g1 := grown_trans hgr (grown_below hb1 (some g))
        have c0 := RowG.cell csK_len r1 hm (c := 0) (by omega)
        have c1 := RowG.cell csK_len r1 hm (c := 1) (by omega)
        simp only [csK, List.getElem?_cons_zero, List.getElem?_cons_succ, Nat.add_zero] at c0 c1
        have hf1 := RowG.frozen r1
        clear a1 b1 d0 d1 hf
        obtain ⟨a1, b1⟩ := RowG.field csK_len r1 (i := j) (c := 0) (a := (markS X, N[j].2)) (u := .string (markS X)) hm (by omega) rfl
        obtain ⟨a2, b2⟩ := RowG.field csK_len a1 (i := j) (c := 1) (a := mk2 X) (u := .int .i64 (X + 1)) (by simpa using hm) (by omega) (by simp [csK, mk2])
        rw [List.set_set] at a2
        simp only [Nat.add_zero] at a2 b1 b2
        have HA := Lib.hid a2
        have HG := Lib.hid (grown_trans g1 (grown_trans b1 b2))
        clear a1 a2 b1 b2
        go_wp2_with fail
        exact ⟨⟨j + 1, N.set j (mk2 X), by omega, by go_num, by subst hX; go_num, HA.out, HS, HG.out⟩, by simp [intOf]; omega⟩
      · obtain rfl : j = n := by omega
        go_wp2
        go_ret
        refine ⟨rfl, ?_, hgr⟩
        have := HN.out
        rw [List.take_of_length_le (by rw [hr.1]; exact Nat.le_refl _), List.take_of_length_le (by rw [markK_len]; exact Nat.le_refl _)] at this
        rw [← this]
        exact hr

set_option maxHeartbeats 3200000 in
theorem heldPickS_any (v : Value) (n base : Nat) (x : Int) (w : World) (hrow : RowK w base v n (markK x n)) (h0 : 0 ≤ x) (hk : x + 2 * n ≤ 1099511627776) :
    Calls Tryz.prog 14 #[v, .int .i64 x] w fun e w' => e = .returned (.int .i64 (x + 2 * n)) ∧ Below w.heap.size w w' := by
  rcases hrow.2.2 with ⟨rfl, rfl⟩ | ⟨g, cap, cur, rfl, hbg, hgg, hnc, hcm, _⟩
  · go_enter Tryz.func14, Tryz.ntmps14
    go_wp2
    refine wp_loop_rounds 1 ?_
    rw [rounds_succ]
    go_wp2
    go_ret
    exact ⟨by simp, Below.refl _ _⟩
  · unfold maxLen at hcm
    have hglt : g < w.heap.size := (Array.getElem?_eq_some_iff.1 hgg).1
    clear hgg
    have HC : Hid (∀ j, j < n → KCells w g (j * 2) (mk2 (x + 2 * (j : Int)))) := fun j hj => by
      have hm : j < (markK x n).length := by rw [markK_len]; exact hj
      have e0 := RowG.cell csK_len hrow hm (c := 0) (by omega)
      have e1 := RowG.cell csK_len hrow hm (c := 1) (by omega)
      rw [markK_at hj] at e0 e1
      exact ⟨e0, e1⟩
    clear hrow
    go_enter Tryz.func14, Tryz.ntmps14
    go_wp2
    go_loopw [1, 5] (fun m i wr => ∃ j : Nat, j ≤ n ∧ i = .int .i64 j ∧ m = .int .i64 (x + 2 * j) ∧ Below w.heap.size w wr) (fun _ i _ => n - (intOf i).toNat)
    case atStart => exact ⟨0, by omega, rfl, by simp, Below.refl _ _⟩
    case round =>
      obtain ⟨j, hj, rfl, rfl, hbw⟩ := hrel
      by_cases hlt : j < n
      · have HR := Lib.hid (HC.out j hlt)
        generalize hX : x + 2 * (j : Int) = X at *
        have hX0 : 0 ≤ X := by omega
        have hX1 : X + 2 ≤ 1099511627776 := by omega
        obtain ⟨c0, c1⟩ := HR.out.below hbw hglt
        unfold mk2 at c0 c1
        have hi1 : (j : Int) < (n : Int) := by omega
        have hi0 : (0 : Int) ≤ (j : Int) := by omega
        have hgr : g < wr.heap.size := Nat.lt_of_lt_of_le hglt hbw.size
        go_wp2_with fail
        go_region_held3 (fun w' => w'.cell? ⟨g, j * 2, none⟩ = some (.string (markS X))) (first | exact c0 | exact (hb1.cell (p := ⟨g, j * 2, none⟩) hgr).trans c0 | go_keep) (first | (go_at_call 34; refine (markText_any _ _ (by omega) (by omega)).mono ?_; rintro e w1 ⟨rfl, hb1⟩))
        have hbw1 := hbw.drew.trans (hb1.mono hbw.size)
        clear c0 c1
        obtain ⟨c0, c1⟩ := HR.out.below hbw1 hglt
        unfold mk2 at c0 c1
        go_wp2_with fail
        exact ⟨⟨j + 1, by omega, by go_num, by subst hX; go_num, hbw1⟩, by simp [intOf]; omega⟩
      · obtain rfl : j = n := by omega
        go_wp2
        go_ret
        exact ⟨rfl, hbw⟩
end Go.Proofs.YtcnjiphoahoojaaGreatDoor.Recs
