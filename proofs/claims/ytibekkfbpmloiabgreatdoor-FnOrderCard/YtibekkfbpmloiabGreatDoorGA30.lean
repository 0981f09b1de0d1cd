/- Parts of several texts of mine in one file (each begins with its own remark). -/
import Derived.Test.YtibekkfbpmloiabGreatDoorGA1
import Derived.Test.YtibekkfbpmloiabGreatDoorGA10
import Derived.Test.YtibekkfbpmloiabGreatDoorGA11
import Derived.Test.YtibekkfbpmloiabGreatDoorGA12
import Derived.Test.YtibekkfbpmloiabGreatDoorGA13
import Derived.Test.YtibekkfbpmloiabGreatDoorGA14
import Derived.Test.YtibekkfbpmloiabGreatDoorGA15
import Derived.Test.YtibekkfbpmloiabGreatDoorGA16
import Derived.Test.YtibekkfbpmloiabGreatDoorGA18
import Derived.Test.YtibekkfbpmloiabGreatDoorGA19
import Derived.Test.YtibekkfbpmloiabGreatDoorGA2
import Derived.Test.YtibekkfbpmloiabGreatDoorGA20
import Derived.Test.YtibekkfbpmloiabGreatDoorGA22
import Derived.Test.YtibekkfbpmloiabGreatDoorGA23
import Derived.Test.YtibekkfbpmloiabGreatDoorGA25
import Derived.Test.YtibekkfbpmloiabGreatDoorGA26
import Derived.Test.YtibekkfbpmloiabGreatDoorGA27
import Derived.Test.YtibekkfbpmloiabGreatDoorGA29
import Derived.Test.YtibekkfbpmloiabGreatDoorGA3
import Derived.Test.YtibekkfbpmloiabGreatDoorGA4
import Derived.Test.YtibekkfbpmloiabGreatDoorGA5
import Derived.Test.YtibekkfbpmloiabGreatDoorGA7
import Derived.Test.YtibekkfbpmloiabGreatDoorGA8
import Derived.Test.YtibekkfbpmloiabGreatDoorGA9
import Derived.Test.YtibekkfbpmloiabGreatDoorChecked
import Derived.Test.YtibekkfbpmloiabGreatDoorShelf
import Derived.Test.YtibekkfbpmloiabGreatDoorProg
import Derived.Test.YtibekkfbpmloiabGreatDoorRows
import Derived.Deep.AppendLies
import Derived.Laws.IdiomCopy
import Derived.BigRegion
import Derived.StillTailTactics
import Derived.Deep.Slices
import Derived.OpenShut
import Derived.ShutString
import Derived.ChangeArms
import Derived.WideShapes
import Derived.Lib.LaidTab
import Derived.BigQuiet
import Derived.Deep.QuietTactic
import Derived.Deep.RegionHeld3
import Derived.Deep.Draws
import Derived.Deep.LoopGhost
import Derived.WalkKit
import Derived.WalkSpells
import Derived.WalkSmall
import Derived.Lib.OthersKept
import Derived.Lib.Hide
import Derived.Lib.Strings
import Derived.Lib.Join
import Derived.Laws.OwnMore
import Derived.Laws.BytesArg
import Derived.Stop.LaidErr
import Derived.WalkLawsBesides
import Derived.LaidEql
import Derived.Stop.Asserts
import Derived.Below
import Derived.Stop.LaidTwo
import Derived.ChangeVars
import Derived.Deep.DeepHandedRow
import Derived.Deep.RegionWith
import Derived.OneCell
import Derived.Lib.SliceRun
import Derived.Lib.Overlaps
import Derived.Lib.AppendZerosOnto
import Derived.Laws.NewBlocks
import Derived.Deep.RegionLaw
import Derived.RangeFuncNested
import Derived.RangeFuncBound
import Derived.RangeFuncCalls
import Derived.RangeFuncLeaves
import Derived.RangeFuncBox
import Derived.Shelf.Abstract
import Derived.Shelf.RegionOpen
import Derived.OwnWalkIn
import Derived.TacticsInMore
import Derived.LoopNIn
import Derived.LoopIn
/- MergeTrace, MergeMany of the program. Conditions: the table of kinds, the two sentinels. -/
namespace Go.Proofs.YtibekkfbpmloiabGreatDoor.Recs
set_option maxRecDepth 100000
open Go.RowKit Paths Errs

/-- A path and the number of a layer. -/
def csK (p : ByteArray × Int) : List Value := [.string p.1, .int .i64 p.2]
theorem csK_one (p : ByteArray × Int) : ∀ u ∈ csK p, u.oneCell' = true := by
  intro u hu
  simp only [csK, List.mem_cons, List.not_mem_nil, or_false] at hu
  rcases hu with rfl | rfl <;> rfl
theorem csK_new (w : World) (p : ByteArray × Int) (t : TypeId) (j : Nat) (u : Value) (h : (csK p)[j]? = some u) : (w.alloc (.cells #[.string p.1, .int .i64 p.2] t)).cell? ((⟨w.heap.size, 0, none⟩ : Addr).add j) = some u := by
  rw [Addr.add_lit]
  match j, h with
  | 0, h => cases h; go_simp
  | 1, h => cases h; go_simp
  | j + 2, h => simp [csK] at h
abbrev RowK (w : World) (base : Nat) (v : Value) (n : Nat) (G : List (ByteArray × Int)) : Prop := RowG csK 2 59 w base v n G
theorem pickInfo : (Tryz.prog.info? 59).map (fun i => (i.zero, i.size, i.bytes)) = some (some (.agg #[.string ByteArray.empty, .int .i64 0]), 2, 24) := by kernel_rfl

def picksL (W : List (R × Nat)) : List (ByteArray × Int) := W.map fun p => (p.1.p, (p.2 : Int))
theorem firsts_step {W : List (R × Nat)} {k : Nat} (hk : k < W.length) : (W.take (k + 1)).map Prod.fst = (W.take k).map Prod.fst ++ [W[k].1] := by
  rw [List.take_add_one, List.getElem?_eq_getElem hk, List.map_append]
  rfl
theorem wins_80 {LL : List (List R)} (h : stackOK LL = true) : (wins LL).length ≤ 80 := by
  have hst := stack_of h
  have := pathsL_len (LL := LL) (fun l hm => layer_len (hst.2 l hm)) hst.1
  have := wins_len LL
  omega
/-- One of the program's winners, in its row. -/
theorem win_cells {wr : World} {b : Nat} {gA : Option Addr} {gcap : Nat} {W : List (R × Nat)} {k : Nat} (h : RowP wr b (.slice gA W.length gcap) W.length W) (hk : k < W.length) : ∃ g cap, Value.slice gA W.length gcap = .slice (some ⟨g, 0, none⟩) W.length cap ∧ PCells wr g (k * 6) W[k] := by
  obtain ⟨g, cap, e, _, hg, _, _⟩ := RowG.atom h (by omega)
  refine ⟨g, cap, e, ?_⟩
  rw [e] at h
  have one : ∀ c, c < 6 → wr.cell? ⟨g, k * 6 + c, none⟩ = (csP W[k])[c]? := fun c hc => RowG.cell csP_len h hk hc
  exact ⟨⟨one 0 (by omega), one 1 (by omega), one 2 (by omega), one 3 (by omega), one 4 (by omega)⟩, one 5 (by omega)⟩

/-- What MergeMany answers. -/
def mmL (LL : List (List R)) : List R := canonL (winL LL)
def mmC (LL : List (List R)) : Int := if codeS LL = 0 then limE (mmL LL) else codeS LL
def mmR (LL : List (List R)) : List R := if codeS LL = 0 then limR (mmL LL) else []
theorem mm_bad {LL : List (List R)} {c : Int} (h : codeS LL = c) (hc : c ≠ 0) : mmC LL = c ∧ mmR LL = [] := by
  unfold mmC mmR
  rw [if_neg (by rw [h]; exact hc), if_neg (by rw [h]; exact hc), h]
  exact ⟨rfl, rfl⟩
theorem mm_full {LL : List (List R)} (h : codeS LL = 0) (hl : 16 < (mmL LL).length) : mmC LL = 7 ∧ mmR LL = [] := by
  unfold mmC mmR limE limR
  rw [if_pos h, if_pos h, if_pos hl, if_pos hl]
  exact ⟨rfl, rfl⟩
theorem mm_fine {LL : List (List R)} (h : codeS LL = 0) (hl : ¬ 16 < (mmL LL).length) : mmC LL = 0 ∧ mmR LL = mmL LL := by
  unfold mmC mmR limE limR
  rw [if_pos h, if_pos h, if_neg hl, if_neg hl]
  exact ⟨rfl, rfl⟩
set_option maxHeartbeats 3200000 in
theorem mergeMany_impl (v : Value) (LL : List (List R)) (x y : Addr) (w : World) (h : StkSl w v LL) (hl : LL.length ≤ 1048576) (hr : ∀ l ∈ LL, l.length ≤ 1048576 ∧ ∀ r ∈ l, r.p.size ≤ maxLen) (hT : Three w x y) :
    Calls Tryz.prog 32 #[v] w fun e w' => ∃ z, e = .returned (.tuple #[z, .int .i64 (mmC LL)]) ∧ Below w.heap.size w w' ∧ RowOf w' w.heap.size z (mmR LL).length (mmR LL) := by
  obtain ⟨i0, hi, hI0, hI1, hI2⟩ := info_parts recInfo
  have HARG : euFrom [(stkE LL).u] 0 = codeS LL := arg_s LL
  by_cases h0 : codeS LL = 0
  · obtain ⟨hc, hSO⟩ := fine_s h0
    have H0 := Lib.hid h0
    have HC := stackU_any v LL x y w h hl hr hT
    rw [hc] at HC
    unfold EN.u EU.val at HC
    have hst := stack_of hSO
    have h80 := wins_80 hSO
    have hfine : ∀ l ∈ LL, Fine l := fun l hm => fine_layer (hst.2 l hm)
    have HWS := Lib.hid (winL_sorted LL)
    have HWF := Lib.hid (winL_fault hfine)
    have HWO := fun w1 hb => winnersOf_any v LL w1 (h.below hb) hst.1 hst.2
    clear HARG h0 hst h hfine
    go_enter Tryz.func32, Tryz.ntmps32
    go_wp2_with fail
    refine HC.mono ?_
    rintro e w1 ⟨rfl, hb1⟩
    have hT1 := hT.below hb1 (Nat.le_refl _)
    have HA := argU1_any .fine x y w1 hT1
    unfold EU.val at HA
    go_wp2_with fail
    refine HA.mono ?_
    rintro e w3 ⟨rfl, hb3⟩
    have c3 := hb1.trans (hb3.mono hb1.size)
    have hcode : euFrom [.fine] 0 = 0 := rfl
    rw [hcode]
    clear hcode
    go_wp2_with fail
    refine (HWO w3 c3).mono ?_
    rintro e w4 ⟨gv, rfl, hb4, hg4⟩
    have c4 := c3.trans (hb4.mono c3.size)
    obtain ⟨gA, gcap, rfl⟩ := hg4.form
    have HG4 := Lib.hid hg4
    clear HWO hg4
    have HWL : Hid (winL LL = (wins LL).map Prod.fst) := rfl
    generalize hWW : wins LL = WW at *
    clear hWW
    go_wp2_with fail
    go_loopw [5, 18] (fun f i wr => ∃ (k : Nat) (M : List R), k ≤ WW.length ∧ i = .int .i64 k ∧ Hid (M = (WW.take k).map Prod.fst) ∧ Hid (M.length = k) ∧ RowOf wr w4.heap.size f M.length M ∧ Below w4.heap.size w4 wr) (fun _ i _ => WW.length - (intOf i).toNat)
    case atStart => exact ⟨0, [], by omega, rfl, rfl, rfl, ⟨rfl, World.ownsRow_nil _ _ _ _⟩, Below.refl _ _⟩
    case round =>
      obtain ⟨k, M, hk, rfl, HM, hMk, hrow, hbw⟩ := hrel
      have hbv := c4.trans (hbw.mono c4.size)
      obtain ⟨fA, fcap, rfl⟩ := hrow.form
      by_cases hlt : k < WW.length
      · obtain ⟨g, cap, hge, hpc⟩ := win_cells (HG4.out.below hbw) hlt
        cases hge
        have HN : Hid (M ++ [WW[k].1] = (WW.take (k + 1)).map Prod.fst) := by show _ = _; rw [firsts_step hlt, ← HM.out]
        obtain ⟨⟨p0, p1, p2, p3, p4⟩, p5⟩ := hpc
        have hMl : M.length ≤ 80 := by have := hMk.out; omega
        have hi1 : (k : Int) < (WW.length : Int) := by omega
        have hi0 : (0 : Int) ≤ (k : Int) := by omega
        generalize hP : WW[k] = P at *
        clear hP
        have cA := hbw.alloc hbw.size (.cells #[.int .i64 P.1.k, .string P.1.p, .string P.1.b, .int .i64 P.1.m, .bool P.1.o, .int .i64 (P.2 : Int)] 103)
        have hrA := hrow.2.alloc (.cells #[.int .i64 P.1.k, .string P.1.p, .string P.1.b, .int .i64 P.1.m, .bool P.1.o, .int .i64 (P.2 : Int)] 103)
        have HNW : Hid (∀ j u, (R.cs P.1)[j]? = some u → ((wr.alloc (.cells #[.int .i64 P.1.k, .string P.1.p, .string P.1.b, .int .i64 P.1.m, .bool P.1.o, .int .i64 (P.2 : Int)] 103)).alloc (.cells #[.int .i64 P.1.k, .string P.1.p, .string P.1.b, .int .i64 P.1.m, .bool P.1.o] 53)).cell? ((⟨wr.heap.size + 1, 0, none⟩ : Addr).add j) = some u) := by
          have h := rec_cells_new (wr.alloc (.cells #[.int .i64 P.1.k, .string P.1.p, .string P.1.b, .int .i64 P.1.m, .bool P.1.o, .int .i64 (P.2 : Int)] 103)) P.1 53
          rw [World.size_alloc] at h
          exact h
        have hone := rec_one P.1
        have HZ : Hid (w4.heap.size ≤ (wr.alloc (.cells #[.int .i64 P.1.k, .string P.1.p, .string P.1.b, .int .i64 P.1.m, .bool P.1.o, .int .i64 (P.2 : Int)] 103)).heap.size) := cA.size
        go_wp2_with (first
          | (at_builtin; refine wpList_append_own _ rfl _ _ 27 rfl w4.heap.size 53 i0 (.agg #[.int .i64 0, .string ByteArray.empty, .string ByteArray.empty, .int .i64 0, .bool false]) 5 56 Tryz.underlying27 hi hI0 hI1 hI2 rfl (by decide) _ _ _ rfl (hrA.alloc _) ⟨wr.heap.size + 1, 0, none⟩ 1 1 (R.cs P.1) rfl rfl HNW.out hone (by unfold maxLen; omega) (by omega) (by have := hbw.size; simp; omega) ?_; intro v' w9 hown' hgrow9 hnil9))
        have hrow9 := row_snoc hown'
        exact ⟨⟨k + 1, _, by omega, by go_num, HN, by show _ = _; simp [hMk.out], hrow9, (cA.alloc cA.size _).grown hgrow9 (cA.alloc cA.size _).size (fun j hj => (hrA.lt j hj).1)⟩, by simp [intOf]; omega⟩
      · have HF : Hid (M = winL LL) := by show _ = _; rw [HM.out, List.take_of_length_le (by omega), HWL.out]
        have hM80 : M.length ≤ 80 := by have := hMk.out; omega
        have hMS : Sorted M := by rw [HF.out]; exact HWS.out
        have hMF : ∀ r ∈ M, r.fault = 0 := by rw [HF.out]; exact HWF.out
        have HC4 := canonicalForm_gen _ M wr hrow.sl hMS hMF (by omega) (fun r hr => path_max (fault_path (hMF r hr)).1)
        have HML : Hid (mmL LL = canonL M) := by show _ = _; unfold mmL; rw [HF.out]
        clear hMS hMF
        go_wp2_with fail
        refine HC4.mono ?_
        rintro e w5 ⟨f, rfl, hb5, hf⟩
        have d5 := hbv.trans (hb5.mono hbv.size)
        obtain ⟨f2A, f2cap, rfl⟩ := hf.form
        have HLI := limitRecords_any f2A (canonL M).length f2cap w5
        have HFF := Lib.hid hf
        clear hf HC4
        by_cases h16 : 16 < (canonL M).length
        · have HQ := Lib.hid (mm_full H0.out (by rw [HML.out]; exact h16))
          rw [if_pos h16] at HLI
          clear h16
          go_wp2_with fail
          refine HLI.mono ?_
          rintro e w6 ⟨rfl, rfl⟩
          go_wp2_with fail
          go_ret2
          exact ⟨.slice none 0 0, by rw [HQ.out.1]; rfl, d5, by rw [HQ.out.2]; exact ⟨rfl, World.ownsRow_nil _ _ _ _⟩⟩
        · have HQ := Lib.hid (mm_fine H0.out (by rw [HML.out]; exact h16))
          rw [if_neg h16] at HLI
          clear h16
          go_wp2_with fail
          refine HLI.mono ?_
          rintro e w6 ⟨rfl, rfl⟩
          go_wp2_with fail
          go_ret2
          exact ⟨_, by rw [HQ.out.1]; rfl, d5, by rw [HQ.out.2, HML.out]; exact ⟨HFF.out.1, own_le HFF.out.2 hbv.size⟩⟩
  · cases hc : stkE LL <;> (
      rw [hc] at HARG
      first
      | exact absurd (HARG.symm.trans rfl) h0
      | (have HC := stackU_any v LL x y w h hl hr hT
         rw [hc] at HC
         unfold EN.u EU.val at HC
         try unfold errV at HC
         try unfold recV at HC
         obtain ⟨vA, vcap, rfl⟩ := h.form
         go_enter Tryz.func32, Tryz.ntmps32
         go_wp2_with fail
         refine HC.mono ?_
         rintro e w1 ⟨rfl, hb1⟩
         have hT1 := hT.below hb1 (Nat.le_refl _)
         have HA := argU1_any ((stkE LL).u) x y w1 hT1
         rw [hc] at HA
         have hne : (codeS LL != 0) = true := (by simpa using h0)
         have HQ := Lib.hid (mm_bad (LL := LL) rfl h0)
         rw [HARG] at HA
         try unfold EN.u at HA
         unfold EU.val at HA
         try unfold errV at HA
         try unfold recV at HA
         generalize hC : codeS LL = C at *
         have HCC := Lib.hid hC
         clear HARG h0 hC
         go_wp2_with fail
         refine HA.mono ?_
         rintro e w3 ⟨rfl, hb3⟩
         have c3 := hb1.trans (hb3.mono hb1.size)
         go_wp2_with fail
         go_ret2
         exact ⟨.slice none 0 0, by rw [HQ.out.1]; first | rfl | (rw [HCC.out]; rfl), c3, by rw [HQ.out.2]; exact ⟨rfl, World.ownsRow_nil _ _ _ _⟩⟩))
end Go.Proofs.YtibekkfbpmloiabGreatDoor.Recs

/- Paths in their order: a path put in from the back (plain: for the model's list of paths). -/
namespace Go.Proofs.YtibekkfbpmloiabGreatDoor.Recs
set_option maxRecDepth 100000
open Paths

/-- Behind the place all are above q; the one ahead of the place is not: it is q, or q goes in here. -/
theorem ins_back {P : List ByteArray} {q : ByteArray} {n : Nat} (hP : Ups P) (hn : n ≤ P.length) (h1 : ∀ j (hj : j < P.length), n ≤ j → lessQ q P[j] = true) (h2 : ∀ (hp : n - 1 < P.length), 0 < n → lessQ q P[n - 1] = false) :
    insP q P = if 0 < n ∧ P[n - 1]? = some q then P else P.take n ++ [q] ++ P.drop n := by
  have hup := insP_ups q P hP
  have hall := List.pairwise_iff_getElem.1 hP
  split
  · rename_i h
    refine ups_ext hup hP fun x => ?_
    rw [insP_mem]
    exact ⟨fun e => e.elim (fun e => e ▸ List.mem_of_getElem? h.2) id, .inr⟩
  · rename_i h
    have hlow : ∀ j (hj : j < P.length), j < n → lessQ P[j] q = true := by
      intro j hj hjn
      have hp : n - 1 < P.length := by omega
      have hne : P[n - 1] ≠ q := fun e => h ⟨by omega, by rw [List.getElem?_eq_getElem hp, e]⟩
      have hl : lessQ P[n - 1] q = true := (lessQ_total hne).resolve_right (by rw [h2 hp (by omega)]; decide)
      by_cases e : j = n - 1
      · subst e; exact hl
      · exact lessQ_trans _ _ _ (hall j (n - 1) hj hp (by omega)) hl
    have hu2 : Ups (P.take n ++ [q] ++ P.drop n) := by
      unfold Ups
      rw [List.append_assoc, List.pairwise_append]
      refine ⟨hP.sublist (List.take_sublist ..), ?_, ?_⟩
      · show (q :: P.drop n).Pairwise _
        refine List.pairwise_cons.2 ⟨fun b hb => ?_, hP.sublist (List.drop_sublist ..)⟩
        obtain ⟨j, hj, rfl⟩ := List.getElem_of_mem hb
        rw [List.getElem_drop]
        exact h1 _ _ (by omega)
      · intro a ha b hb
        obtain ⟨i, hi, rfl⟩ := List.getElem_of_mem ha
        rw [List.length_take] at hi
        rw [List.getElem_take]
        have ha' := hlow i (by omega) (by omega)
        rcases List.mem_cons.1 hb with rfl | hb
        · exact ha'
        · have hb' : b ∈ P.drop n := hb
          obtain ⟨j, hj, rfl⟩ := List.getElem_of_mem hb'
          rw [List.getElem_drop]
          exact lessQ_trans _ _ _ ha' (h1 _ _ (by omega))
    refine ups_ext hup hu2 fun x => ?_
    rw [insP_mem, List.append_assoc, List.mem_append, List.singleton_append, List.mem_cons]
    have := List.mem_append (a := x) (s := P.take n) (t := P.drop n)
    rw [List.take_append_drop] at this
    rw [this]
    exact ⟨fun e => e.elim (fun e => .inr (.inl e)) (fun e => e.elim .inl (fun e => .inr (.inr e))), fun e => e.elim (fun e => .inr (.inl e)) (fun e => e.elim .inl (fun e => .inr (.inr e)))⟩
/-- The paths of the first k lists and of the first j records of the next. -/
def pathsTo (LL : List (List R)) (k j : Nat) : List ByteArray := ((LL.take k).flatten ++ ((LL[k]?).getD []).take j).foldl (fun P r => insP r.p P) []
theorem to_next {LL : List (List R)} {k : Nat} (hk : k < LL.length) : pathsTo LL (k + 1) 0 = pathsTo LL k (LL[k].length) := by
  unfold pathsTo
  rw [List.take_zero, List.append_nil, List.take_add_one, List.getElem?_eq_getElem hk, Option.toList_some, List.flatten_append, List.flatten_singleton, Option.getD_some, List.take_length]
theorem to_end (LL : List (List R)) : pathsTo LL LL.length 0 = pathsL LL := by
  unfold pathsTo pathsL
  rw [List.take_zero, List.append_nil, List.take_length]
theorem to_step {LL : List (List R)} {k j : Nat} (hk : k < LL.length) (hj : j < LL[k].length) : pathsTo LL k (j + 1) = insP LL[k][j].p (pathsTo LL k j) := by
  unfold pathsTo
  rw [List.getElem?_eq_getElem hk, Option.getD_some, List.take_add_one, List.getElem?_eq_getElem hj, Option.toList_some, ← List.append_assoc, List.foldl_append]
  rfl
theorem to_ups (LL : List (List R)) (k j : Nat) : Ups (pathsTo LL k j) := (fold_ins _ [] List.Pairwise.nil).1
end Go.Proofs.YtibekkfbpmloiabGreatDoor.Recs
