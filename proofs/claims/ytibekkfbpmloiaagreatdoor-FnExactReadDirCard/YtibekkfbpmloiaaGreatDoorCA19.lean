/- Parts of several texts of mine in one file (each begins with its own remark). -/
import Derived.Test.YtibekkfbpmloiaaGreatDoorCA1
import Derived.Test.YtibekkfbpmloiaaGreatDoorCA10
import Derived.Test.YtibekkfbpmloiaaGreatDoorCA11
import Derived.Test.YtibekkfbpmloiaaGreatDoorCA12
import Derived.Test.YtibekkfbpmloiaaGreatDoorCA13
import Derived.Test.YtibekkfbpmloiaaGreatDoorCA14
import Derived.Test.YtibekkfbpmloiaaGreatDoorCA15
import Derived.Test.YtibekkfbpmloiaaGreatDoorCA16
import Derived.Test.YtibekkfbpmloiaaGreatDoorCA17
import Derived.Test.YtibekkfbpmloiaaGreatDoorCA18
import Derived.Test.YtibekkfbpmloiaaGreatDoorCA2
import Derived.Test.YtibekkfbpmloiaaGreatDoorCA3
import Derived.Test.YtibekkfbpmloiaaGreatDoorCA4
import Derived.Test.YtibekkfbpmloiaaGreatDoorCA5
import Derived.Test.YtibekkfbpmloiaaGreatDoorCA8
import Derived.Test.YtibekkfbpmloiaaGreatDoorCA9
import Derived.Test.YtibekkfbpmloiaaGreatDoorChecked
import Derived.Test.YtibekkfbpmloiaaGreatDoorShelf
import Derived.Test.YtibekkfbpmloiaaGreatDoorProg
import Derived.Test.YtibekkfbpmloiaaGreatDoorRows
import Derived.Deep.Slices
import Derived.OpenShut
import Derived.ShutString
import Derived.ChangeArms
import Derived.WideShapes
import Derived.Lib.LaidTab
import Derived.BigQuiet
import Derived.Deep.QuietTactic
import Derived.Deep.RegionHeld3
import Derived.StillTailTactics
import Derived.Deep.Draws
import Derived.Deep.LoopGhost
import Derived.WalkKit
import Derived.WalkSpells
import Derived.WalkSmall
import Derived.Lib.OthersKept
import Derived.Lib.Hide
import Derived.Lib.Strings
import Derived.Lib.Join
import Derived.Laws.OwnMore
import Derived.BigRegion
import Derived.Laws.BytesArg
import Derived.WalkLawsBesides
import Derived.RangeFuncNested
import Derived.RangeFuncBound
import Derived.RangeFuncCalls
import Derived.RangeFuncLeaves
import Derived.RangeFuncBox
import Derived.Shelf.Abstract
import Derived.Shelf.RegionOpen
import Derived.OwnWalkIn
import Derived.TacticsInMore
import Derived.LoopNIn
import Derived.LoopIn
import Derived.Stop.LaidErr
import Derived.LaidEql
import Derived.Stop.Asserts
import Derived.Below
import Derived.Stop.LaidTwo
import Derived.ChangeVars
import Derived.Deep.DeepHandedRow
import Derived.Deep.RegionWith
import Derived.OneCell
import Derived.Lib.SliceRun
import Derived.Lib.Overlaps
import Derived.Lib.AppendZerosOnto
import Derived.Laws.NewBlocks
import Derived.Laws.IdiomCopy
import Derived.Deep.RegionLaw
import Derived.Laws.EntriesVeiled
/- Queries: LookUp, LayerOf, ReadLink, ReadFile, of the model. -/
namespace Go.Proofs.YtibekkfbpmloiaaGreatDoor.Recs
set_option maxRecDepth 100000
open Go.RowKit Paths

def luV (F : (R × Nat) × Int) : Value := .tuple #[F.1.1.nod, .int .i64 F.2]
def loV (F : (R × Nat) × Int) : Value := .tuple #[.int .i64 (F.1.2 : Int), .int .i64 F.2]
def rlC (F : (R × Nat) × Int) : Int := if F.2 ≠ 0 then F.2 else if F.1.1.k ≠ 2 then 9 else 0
def rlV (F : (R × Nat) × Int) : Value := .tuple #[.string (if rlC F = 0 then F.1.1.b else ⟨#[]⟩), .int .i64 (rlC F)]
theorem rl_bad {F : (R × Nat) × Int} {c : Int} (h : F.2 = c) (hc : c ≠ 0) : rlV F = .tuple #[.string ⟨#[]⟩, .int .i64 c] := by
  have e : rlC F = c := by unfold rlC; rw [h, if_pos hc]
  unfold rlV; rw [e, if_neg hc]
theorem rl_kind {F : (R × Nat) × Int} (h : F.2 = 0) (hk : F.1.1.k ≠ 2) : rlV F = .tuple #[.string ⟨#[]⟩, .int .i64 9] := by
  have e : rlC F = 9 := by unfold rlC; rw [if_neg (by simpa using h), if_pos hk]
  unfold rlV; rw [e]; rfl
theorem rl_ok {F : (R × Nat) × Int} (h : F.2 = 0) (hk : F.1.1.k = 2) : rlV F = .tuple #[.string F.1.1.b, .int .i64 0] := by
  have e : rlC F = 0 := by unfold rlC; rw [if_neg (by simpa using h), if_neg (by simpa using hk)]
  unfold rlV; rw [e]; rfl
set_option maxHeartbeats 1600000 in
theorem LookUp_spec (v : Value) (LL : List (List R)) (q : ByteArray) (w : World) (h : StkSl w v LL) (hl : LL.length ≤ 1048576) (hll : ∀ l ∈ LL, l.length ≤ 1048576) :
    Calls Tryz.prog 10 #[v, .string q] w fun e w' => e = .returned (luV (qR LL q)) ∧ Below w.heap.size w w' := by
  have hb0 : Below w.heap.size w (w.alloc (.cells #[.int .i64 0, .string ByteArray.empty, .string ByteArray.empty, .int .i64 0] 25)) := (Below.refl _ _).alloc (Nat.le_refl _) _
  have HA := fun W hb => l10Ask_any v LL q W (h.below hb) hl hll
  have HF := fun W hb hc => l10Find_any v LL q W (h.below hb) hc
  obtain ⟨vA, vcap, rfl⟩ := h.form
  by_cases h : 4096 < LL.length
  · have hd : decide ((4096 : Int) < (LL.length : Int)) = true := decide_eq_true (by omega)
    have HE := Lib.hid (congrArg luV (qR_bad (cq_bad (st_long (LL := LL) (q := q) (.inl h)) (by decide)) (by decide)))
    clear h
    go_enter Tryz.func10, Tryz.ntmps10
    go_wp2_with fail
    refine bodyPost_ret (v := .tuple #[.agg #[.int .i64 0, .string ⟨#[]⟩, .string ⟨#[]⟩, .int .i64 0], .int .i64 2]) (by simp [results, Tryz.results10, go_sem]) rfl ⟨by rw [HE.out]; rfl, ?_⟩
    repeat (refine Below.setCell ?_ (by simp) _)
    exact hb0
  have hd0 : decide ((4096 : Int) < (LL.length : Int)) = false := decide_eq_false (by omega)
  have hn0 := Lib.hid h
  clear h
  by_cases h : 65536 < q.size
  · have hd : decide ((65536 : Int) < (q.size : Int)) = true := decide_eq_true (by omega)
    have HE := Lib.hid (congrArg luV (qR_bad (cq_bad (st_long (LL := LL) (q := q) (.inr h)) (by decide)) (by decide)))
    clear h
    go_enter Tryz.func10, Tryz.ntmps10
    go_wp2_with fail
    refine bodyPost_ret (v := .tuple #[.agg #[.int .i64 0, .string ⟨#[]⟩, .string ⟨#[]⟩, .int .i64 0], .int .i64 2]) (by simp [results, Tryz.results10, go_sem]) rfl ⟨by rw [HE.out]; rfl, ?_⟩
    repeat (refine Below.setCell ?_ (by simp) _)
    exact hb0
  have hd1 : decide ((65536 : Int) < (q.size : Int)) = false := decide_eq_false (by omega)
  have hn1 := Lib.hid h
  clear h
  by_cases h0 : codeQ LL q = 0
  case neg =>
    have HE := Lib.hid (congrArg luV (qR_bad (LL := LL) (q := q) rfl h0))
    have hd : (codeQ LL q != 0) = true := by simpa using h0
    clear HF
    generalize codeQ LL q = C at *
    have HC := Lib.hid h0
    clear h0
    go_enter Tryz.func10, Tryz.ntmps10
    go_wp2_with fail
    refine (HA _ hb0).mono ?_
    rintro e w1 ⟨rfl, hb1⟩
    have c1 := hb0.trans (hb1.mono hb0.size)
    have hc1 := fun o => (bcell hb1).1 w.heap.size o (by simp)
    have hf1 := fun o => (bcell hb1).2 w.heap.size o (by simp)
    go_wp2_with fail
    refine bodyPost_ret (v := .tuple #[.agg #[.int .i64 0, .string ⟨#[]⟩, .string ⟨#[]⟩, .int .i64 0], .int .i64 C]) (by simp [results, Tryz.results10, go_sem, hc1]) rfl ⟨by rw [HE.out]; rfl, ?_⟩
    repeat (refine Below.setCell ?_ (by simp) _)
    exact c1
  have HQ := Lib.hid (qR_ok h0)
  have hsz := find_size h0
  have HF1 := fun W hb => HF W hb h0
  rw [h0] at HA
  unfold resQ R.nod at HF1
  clear HF h0
  generalize findQ LL q = F at *
  obtain ⟨⟨r, m⟩, c⟩ := F
  dsimp only at HF1 hsz
  go_enter Tryz.func10, Tryz.ntmps10
  go_wp2_with fail
  refine (HA _ hb0).mono ?_
  rintro e w1 ⟨rfl, hb1⟩
  have c1 := hb0.trans (hb1.mono hb0.size)
  have z1 : w.heap.size < w1.heap.size := by have := hb1.size; simp at this; omega
  go_wp2_with fail
  refine (HF1 _ c1).mono ?_
  rintro e w2 ⟨rfl, hb2⟩
  have c2 := c1.trans (hb2.mono c1.size)
  have hc1 := fun o => (bcell hb1).1 w.heap.size o (by simp)
  have hf1 := fun o => (bcell hb1).2 w.heap.size o (by simp)
  have bA2 := hb2.alloc hb2.size (.cells #[.int .i64 r.k, .string r.p, .string r.b, .int .i64 r.m] 25)
  have hc2 := fun o => (bcell bA2).1 w.heap.size o z1
  have hf2 := fun o => (bcell bA2).2 w.heap.size o z1
  go_wp2_with fail
  refine bodyPost_ret (v := luV ((r, m), c)) (by simp [results, Tryz.results10, go_sem, luV, R.nod, hc1, hc2]) rfl ⟨by rw [HQ.out], ?_⟩
  repeat (refine Below.setCell ?_ (by simp) _)
  exact c2.alloc c2.size _

set_option maxHeartbeats 1600000 in
theorem LayerOf_spec (v : Value) (LL : List (List R)) (q : ByteArray) (w : World) (h : StkSl w v LL) (hl : LL.length ≤ 1048576) (hll : ∀ l ∈ LL, l.length ≤ 1048576) :
    Calls Tryz.prog 27 #[v, .string q] w fun e w' => e = .returned (loV (qR LL q)) ∧ Below w.heap.size w w' := by
  have hb0 : Below w.heap.size w w := Below.refl _ _
  have HA := fun W hb => l10Ask_any v LL q W (h.below hb) hl hll
  have HF := fun W hb hc => l10Find_any v LL q W (h.below hb) hc
  obtain ⟨vA, vcap, rfl⟩ := h.form
  by_cases h : 4096 < LL.length
  · have hd : decide ((4096 : Int) < (LL.length : Int)) = true := decide_eq_true (by omega)
    have HE := Lib.hid (congrArg loV (qR_bad (cq_bad (st_long (LL := LL) (q := q) (.inl h)) (by decide)) (by decide)))
    clear h
    go_enter Tryz.func27, Tryz.ntmps27
    go_wp2_with fail
    go_ret2
    exact ⟨by rw [HE.out]; rfl, hb0⟩
  have hd0 : decide ((4096 : Int) < (LL.length : Int)) = false := decide_eq_false (by omega)
  have hn0 := Lib.hid h
  clear h
  by_cases h : 65536 < q.size
  · have hd : decide ((65536 : Int) < (q.size : Int)) = true := decide_eq_true (by omega)
    have HE := Lib.hid (congrArg loV (qR_bad (cq_bad (st_long (LL := LL) (q := q) (.inr h)) (by decide)) (by decide)))
    clear h
    go_enter Tryz.func27, Tryz.ntmps27
    go_wp2_with fail
    go_ret2
    exact ⟨by rw [HE.out]; rfl, hb0⟩
  have hd1 : decide ((65536 : Int) < (q.size : Int)) = false := decide_eq_false (by omega)
  have hn1 := Lib.hid h
  clear h
  by_cases h0 : codeQ LL q = 0
  case neg =>
    have HE := Lib.hid (congrArg loV (qR_bad (LL := LL) (q := q) rfl h0))
    have hd : (codeQ LL q != 0) = true := by simpa using h0
    clear HF
    generalize codeQ LL q = C at *
    have HC := Lib.hid h0
    clear h0
    go_enter Tryz.func27, Tryz.ntmps27
    go_wp2_with fail
    refine (HA _ hb0).mono ?_
    rintro e w1 ⟨rfl, hb1⟩
    have c1 := hb0.trans (hb1.mono hb0.size)
    go_wp2_with fail
    go_ret2
    exact ⟨by rw [HE.out]; rfl, c1⟩
  have HQ := Lib.hid (qR_ok h0)
  have hsz := find_size h0
  have HF1 := fun W hb => HF W hb h0
  rw [h0] at HA
  unfold resQ R.nod at HF1
  clear HF h0
  generalize findQ LL q = F at *
  obtain ⟨⟨r, m⟩, c⟩ := F
  dsimp only at HF1 hsz
  go_enter Tryz.func27, Tryz.ntmps27
  go_wp2_with fail
  refine (HA _ hb0).mono ?_
  rintro e w1 ⟨rfl, hb1⟩
  have c1 := hb0.trans (hb1.mono hb0.size)
  go_wp2_with fail
  refine (HF1 _ c1).mono ?_
  rintro e w2 ⟨rfl, hb2⟩
  have c2 := c1.trans (hb2.mono c1.size)
  go_wp2_with fail
  go_ret2
  exact ⟨by rw [HQ.out]; rfl, c2.alloc c2.size _⟩

set_option maxHeartbeats 1600000 in
theorem ReadLink_spec (v : Value) (LL : List (List R)) (q : ByteArray) (w : World) (h : StkSl w v LL) (hl : LL.length ≤ 1048576) (hll : ∀ l ∈ LL, l.length ≤ 1048576) :
    Calls Tryz.prog 23 #[v, .string q] w fun e w' => e = .returned (rlV (qR LL q)) ∧ Below w.heap.size w w' := by
  have hb0 : Below w.heap.size w w := Below.refl _ _
  have HA := fun W hb => l10Ask_any v LL q W (h.below hb) hl hll
  have HF := fun W hb hc => l10Find_any v LL q W (h.below hb) hc
  obtain ⟨vA, vcap, rfl⟩ := h.form
  by_cases h : 4096 < LL.length
  · have hd : decide ((4096 : Int) < (LL.length : Int)) = true := decide_eq_true (by omega)
    have HE := Lib.hid (rl_bad (congrArg Prod.snd (qR_bad (cq_bad (st_long (LL := LL) (q := q) (.inl h)) (by decide)) (by decide))) (by decide))
    clear h
    go_enter Tryz.func23, Tryz.ntmps23
    go_wp2_with fail
    go_ret2
    exact ⟨by rw [HE.out]; rfl, hb0⟩
  have hd0 : decide ((4096 : Int) < (LL.length : Int)) = false := decide_eq_false (by omega)
  have hn0 := Lib.hid h
  clear h
  by_cases h : 65536 < q.size
  · have hd : decide ((65536 : Int) < (q.size : Int)) = true := decide_eq_true (by omega)
    have HE := Lib.hid (rl_bad (congrArg Prod.snd (qR_bad (cq_bad (st_long (LL := LL) (q := q) (.inr h)) (by decide)) (by decide))) (by decide))
    clear h
    go_enter Tryz.func23, Tryz.ntmps23
    go_wp2_with fail
    go_ret2
    exact ⟨by rw [HE.out]; rfl, hb0⟩
  have hd1 : decide ((65536 : Int) < (q.size : Int)) = false := decide_eq_false (by omega)
  have hn1 := Lib.hid h
  clear h
  by_cases h0 : codeQ LL q = 0
  case neg =>
    have HE := Lib.hid (rl_bad (congrArg Prod.snd (qR_bad (LL := LL) (q := q) rfl h0)) h0)
    have hd : (codeQ LL q != 0) = true := by simpa using h0
    clear HF
    generalize codeQ LL q = C at *
    have HC := Lib.hid h0
    clear h0
    go_enter Tryz.func23, Tryz.ntmps23
    go_wp2_with fail
    refine (HA _ hb0).mono ?_
    rintro e w1 ⟨rfl, hb1⟩
    have c1 := hb0.trans (hb1.mono hb0.size)
    go_wp2_with fail
    go_ret2
    exact ⟨by rw [HE.out]; rfl, c1⟩
  have HQ := Lib.hid (qR_ok h0)
  have hsz := find_size h0
  have HF1 := fun W hb => HF W hb h0
  rw [h0] at HA
  unfold resQ R.nod at HF1
  clear HF h0
  generalize findQ LL q = F at *
  obtain ⟨⟨r, m⟩, c⟩ := F
  dsimp only at HF1 hsz
  by_cases hc : c = 0
  case neg =>
    have HE : Hid (rlV (qR LL q) = .tuple #[.string ⟨#[]⟩, .int .i64 c]) := rl_bad (by rw [HQ.out]) hc
    have hd : (c != 0) = true := by simpa using hc
    clear hc
    go_enter Tryz.func23, Tryz.ntmps23
    go_wp2_with fail
    refine (HA _ hb0).mono ?_
    rintro e w1 ⟨rfl, hb1⟩
    have c1 := hb0.trans (hb1.mono hb0.size)
    go_wp2_with fail
    refine (HF1 _ c1).mono ?_
    rintro e w2 ⟨rfl, hb2⟩
    have c2 := c1.trans (hb2.mono c1.size)
    go_wp2_with fail
    go_ret2
    exact ⟨by rw [HE.out]; rfl, c2.alloc c2.size _⟩
  have HC0 := Lib.hid hc
  subst hc
  by_cases h2 : r.k = 2
  · have HE : Hid (rlV (qR LL q) = .tuple #[.string r.b, .int .i64 0]) := by show _ = _; rw [HQ.out]; exact rl_ok rfl h2
    have hd : (r.k != 2) = false := by simpa using h2
    clear h2
    go_enter Tryz.func23, Tryz.ntmps23
    go_wp2_with fail
    refine (HA _ hb0).mono ?_
    rintro e w1 ⟨rfl, hb1⟩
    have c1 := hb0.trans (hb1.mono hb0.size)
    go_wp2_with fail
    refine (HF1 _ c1).mono ?_
    rintro e w2 ⟨rfl, hb2⟩
    have c2 := c1.trans (hb2.mono c1.size)
    go_wp2_with fail
    go_ret2
    exact ⟨by rw [HE.out]; rfl, c2.alloc c2.size _⟩
  · have HE : Hid (rlV (qR LL q) = .tuple #[.string ⟨#[]⟩, .int .i64 9]) := by show _ = _; rw [HQ.out]; exact rl_kind rfl h2
    have hd : (r.k != 2) = true := by simpa using h2
    clear h2
    go_enter Tryz.func23, Tryz.ntmps23
    go_wp2_with fail
    refine (HA _ hb0).mono ?_
    rintro e w1 ⟨rfl, hb1⟩
    have c1 := hb0.trans (hb1.mono hb0.size)
    go_wp2_with fail
    refine (HF1 _ c1).mono ?_
    rintro e w2 ⟨rfl, hb2⟩
    have c2 := c1.trans (hb2.mono c1.size)
    go_wp2_with fail
    go_ret2
    exact ⟨by rw [HE.out]; rfl, c2.alloc c2.size _⟩

end Go.Proofs.YtibekkfbpmloiaaGreatDoor.Recs

/- Queries: the code of a call, what a path leads to, LookUp, LayerOf, ReadLink, ReadFile, of the program. Conditions: the table of kinds, the two sentinels. -/
namespace Go.Proofs.YtibekkfbpmloiaaGreatDoor.Recs
set_option maxRecDepth 100000
open Go.RowKit Paths Errs

theorem st_root {LL : List (List R)} {q : ByteArray} (h : q.size = 0) : codeST LL q = codeS LL := by
  unfold codeST codeS
  by_cases h1 : 4096 < LL.length
  · rw [if_pos (.inl h1), if_pos h1]
  · rw [if_neg (by omega), if_neg h1]
theorem cq_empty {LL : List (List R)} {q : ByteArray} (h : q.size = 0) : codeQ LL q = codeS LL := by
  unfold codeQ
  rw [st_root h, if_pos h]
  split
  · rfl
  · rename_i hn; exact (by simpa using hn : codeS LL = 0).symm
set_option maxHeartbeats 1600000 in
theorem checkQuery_any (v : Value) (LL : List (List R)) (q : ByteArray) (x y : Addr) (w : World) (h : StkSl w v LL) (hl : LL.length ≤ 1048576) (hr : ∀ l ∈ LL, l.length ≤ 1048576 ∧ ∀ r ∈ l, r.p.size ≤ maxLen) (hqm : q.size ≤ maxLen) (hT : Three w x y) :
    Calls Tryz.prog 49 #[v, .string q] w fun e w' => e = .returned (.int .i64 (codeQ LL q)) ∧ Below w.heap.size w w' := by
  by_cases hq : q.size = 0
  · have HQ := Lib.hid (cq_empty (LL := LL) hq)
    have he := isEmpty_true hq
    have HARG : euFrom [(stkE LL).u] 0 = codeS LL := arg_s LL
    have HC := stackU_any v LL x y w h hl hr hT
    have HA := fun w1 hT1 => argU1_any ((stkE LL).u) x y w1 hT1
    rw [HARG] at HA
    obtain ⟨vA, vcap, rfl⟩ := h.form
    clear HARG hq h
    generalize codeS LL = C at *
    cases hc : stkE LL <;> (
      rw [hc] at HC HA
      unfold EN.u EU.val at HC HA
      try unfold errV at HC
      try unfold errV at HA
      try unfold recV at HC
      try unfold recV at HA
      clear hc
      go_enter Tryz.func49, Tryz.ntmps49
      go_wp2_with fail
      refine HC.mono ?_
      rintro e w1 ⟨rfl, hb1⟩
      have hT1 := hT.below hb1 (Nat.le_refl _)
      go_wp2_with fail
      refine (HA _ hT1).mono ?_
      rintro e w3 ⟨rfl, hb3⟩
      have c3 := hb1.trans (hb3.mono hb1.size)
      go_wp2_with fail
      go_ret
      exact ⟨by rw [HQ.out]; rfl, c3⟩)
  · have HQ := Lib.hid (cq_sp (LL := LL) hq)
    have he := isEmpty_false (show 0 < q.size by omega)
    have HC := checkSP_any v LL q x y w h hl hr hqm hT
    obtain ⟨vA, vcap, rfl⟩ := h.form
    generalize codeSP LL q = C at *
    clear hq h
    go_enter Tryz.func49, Tryz.ntmps49
    go_wp2_with fail
    refine HC.mono ?_
    rintro e w1 ⟨rfl, hb1⟩
    go_wp2_with fail
    go_ret
    exact ⟨by rw [HQ.out]; rfl, hb1⟩

set_option maxHeartbeats 1600000 in
theorem rootOf_any (A : Option Addr) (n c : Nat) (w : World) :
    Calls Tryz.prog 50 #[.slice A n c] w fun e w' => ∃ a b, e = .returned (plV (root3, 0) (entV a b)) ∧ Below w.heap.size w w' ∧ Holds w' (.slice A n c) (root3, 0) a b := by
  have hb0 : Below w.heap.size w (w.alloc (.cells #[.int .i64 0, .string ⟨#[]⟩, .string ⟨#[]⟩, .int .i64 0, .bool false, .int .i64 0, .nilFunc] 58)) := (Below.refl _ _).alloc (Nat.le_refl _) _
  have HZ : Hid (Plbox (w.alloc (.cells #[.int .i64 0, .string ⟨#[]⟩, .string ⟨#[]⟩, .int .i64 0, .bool false, .int .i64 0, .nilFunc] 58)) w.heap.size (zR, 0) .nilFunc) := zplace_new w
  have hz0 : w.heap.size < (w.alloc (.cells #[.int .i64 0, .string ⟨#[]⟩, .string ⟨#[]⟩, .int .i64 0, .bool false, .int .i64 0, .nilFunc] 58)).heap.size := by simp
  have HP := fun W => placeOf_any A n c (root3, 0) W
  have hpv : pv (root3, 0) = .agg #[.int .i64 3, .string ⟨#[]⟩, .string ⟨#[]⟩, .int .i64 0, .bool false, .int .i64 0] := rfl
  rw [hpv] at HP
  clear hpv
  go_enter Tryz.func50, Tryz.ntmps50
  go_wp2_with fail
  refine (HP _).mono ?_
  rintro e w1 ⟨rfl, hb1, hH⟩
  have c1 := hb0.trans (hb1.mono hb0.size)
  have HR := Lib.hid (HZ.out.below hb1 hz0)
  obtain ⟨z0, z1, z2, z3, z4, z5, z6⟩ := HR.out.cells
  have f0 := HR.out.frozen 0
  have f1 := HR.out.frozen 1
  have f2 := HR.out.frozen 2
  have f3 := HR.out.frozen 3
  have f4 := HR.out.frozen 4
  have f5 := HR.out.frozen 5
  have f6 := HR.out.frozen 6
  have HHo := Lib.hid hH
  simp only [World.size_alloc] at *
  clear hH
  have hpl : plV (root3, 0) (entV (w.heap.size + 1 + 1) (w.heap.size + 1)) = .agg #[.int .i64 3, .string ⟨#[]⟩, .string ⟨#[]⟩, .int .i64 0, .bool false, .int .i64 0, .func (.func 89) #[] #[.pointer (some ⟨w.heap.size + 1 + 1, 0, none⟩), .pointer (some ⟨w.heap.size + 1, 0, none⟩)]] := rfl
  rw [hpl]
  clear hpl
  go_wp2_with fail
  have HF := HR.out.set root3 0 (entV (w.heap.size + 1 + 1) (w.heap.size + 1))
  have HB2 := setPl_below (r := root3) (n := 0) (f := entV (w.heap.size + 1 + 1) (w.heap.size + 1)) c1 (Nat.le_refl w.heap.size)
  have HH2 := HHo.out.setPl (r := root3) (n := 0) (f := entV (w.heap.size + 1 + 1) (w.heap.size + 1)) (B := w.heap.size) (by omega) (by omega)
  generalize hWF : setPl w1 w.heap.size root3 0 (entV (w.heap.size + 1 + 1) (w.heap.size + 1)) = WF at *
  obtain ⟨q0, q1, q2, q3, q4, q5, q6⟩ := HF.cells
  have hWG : ((((((w1.setCell ⟨w.heap.size, 0, none⟩ (.int .i64 3)).setCell ⟨w.heap.size, 1, none⟩ (.string ⟨#[]⟩)).setCell ⟨w.heap.size, 2, none⟩ (.string ⟨#[]⟩)).setCell ⟨w.heap.size, 3, none⟩ (.int .i64 0)).setCell ⟨w.heap.size, 4, none⟩ (.bool false)).setCell ⟨w.heap.size, 5, none⟩ (.int .i64 0)).setCell ⟨w.heap.size, 6, none⟩ (.func (.func 89) #[] #[.pointer (some ⟨w.heap.size + 1 + 1, 0, none⟩), .pointer (some ⟨w.heap.size + 1, 0, none⟩)]) = WF := hWF
  rw [hWG]
  clear hWG hWF
  exact bodyPost_ret (v := plV (root3, 0) (entV (w.heap.size + 1 + 1) (w.heap.size + 1))) (by simp [results, Tryz.results50, go_sem, plV, entV, q0, q1, q2, q3, q4, q5, q6]) rfl ⟨_, _, rfl, HB2, HH2⟩

set_option maxHeartbeats 3200000 in
theorem findPlace_any (v : Value) (LL : List (List R)) (q : ByteArray) (x y : Addr) (w : World) (h : StkSl w v LL) (hl : LL.length ≤ 1048576) (hr : ∀ l ∈ LL, l.length ≤ 1048576 ∧ ∀ r ∈ l, r.p.size ≤ maxLen) (hqm : q.size ≤ maxLen) (hT : Three w x y) :
    Calls Tryz.prog 33 #[v, .string q] w fun e w' => Below w.heap.size w w' ∧ ∃ o, e = .returned (.tuple #[plV (qR LL q).1 (fnV o), .int .i64 (qR LL q).2]) := by
  have hb0 : Below w.heap.size w (w.alloc (.cells #[.int .i64 0, .string ⟨#[]⟩, .string ⟨#[]⟩, .int .i64 0, .bool false, .int .i64 0, .nilFunc] 58)) := (Below.refl _ _).alloc (Nat.le_refl _) _
  have HZ : Hid (Plbox (w.alloc (.cells #[.int .i64 0, .string ⟨#[]⟩, .string ⟨#[]⟩, .int .i64 0, .bool false, .int .i64 0, .nilFunc] 58)) w.heap.size (zR, 0) .nilFunc) := zplace_new w
  have hz0 : w.heap.size < (w.alloc (.cells #[.int .i64 0, .string ⟨#[]⟩, .string ⟨#[]⟩, .int .i64 0, .bool false, .int .i64 0, .nilFunc] 58)).heap.size := by simp
  have HCQ := checkQuery_any v LL q x y _ (h.below hb0) hl hr hqm (hT.below hb0 (Nat.le_refl _))
  by_cases h0 : codeQ LL q = 0
  case neg =>
    have HE := Lib.hid (qR_bad (LL := LL) (q := q) rfl h0)
    have hd : (codeQ LL q != 0) = true := by simpa using h0
    obtain ⟨vA, vcap, rfl⟩ := h.form
    generalize codeQ LL q = C at *
    clear h0 h
    go_enter Tryz.func33, Tryz.ntmps33
    go_wp2_with fail
    refine HCQ.mono ?_
    rintro e w1 ⟨rfl, hb1⟩
    have c1 := hb0.trans (hb1.mono hb0.size)
    have HR := HZ.out.below hb1 hz0
    obtain ⟨z0, z1, z2, z3, z4, z5, z6⟩ := HR.cells
    have f0 := HR.frozen 0
    have f1 := HR.frozen 1
    have f2 := HR.frozen 2
    have f3 := HR.frozen 3
    have f4 := HR.frozen 4
    have f5 := HR.frozen 5
    have f6 := HR.frozen 6
    clear HR
    go_wp2_with fail
    refine bodyPost_ret (v := .tuple #[.agg #[.int .i64 0, .string ⟨#[]⟩, .string ⟨#[]⟩, .int .i64 0, .bool false, .int .i64 0, .nilFunc], .int .i64 C]) (by simp [results, Tryz.results33, go_sem, z0, z1, z2, z3, z4, z5, z6]) rfl ⟨?_, none, by rw [HE.out]; rfl⟩
    repeat (refine Below.setCell ?_ (by simp) _)
    exact c1
  obtain ⟨hso, hpq⟩ := cq_ok h0
  have hst := stack_of hso
  have HE := Lib.hid (qR_ok h0)
  have HFO := fun a b W hb hH => follow_any v LL q a b W (h.below hb) hst.1 hst.2 hH hpq
  rw [h0] at HCQ
  obtain ⟨vA, vcap, rfl⟩ := h.form
  clear h0 hso hpq hst h
  go_enter Tryz.func33, Tryz.ntmps33
  go_wp2_with fail
  refine HCQ.mono ?_
  rintro e w1 ⟨rfl, hb1⟩
  have c1 := hb0.trans (hb1.mono hb0.size)
  have HR1 := Lib.hid (HZ.out.below hb1 hz0)
  have s1 := Nat.lt_of_lt_of_le hz0 hb1.size
  go_wp2_with fail
  refine (rootOf_any vA LL.length vcap _).mono ?_
  rintro e w2 ⟨a, b, rfl, hb2, hH2⟩
  have c2 := c1.trans (hb2.mono c1.size)
  have HR2 := Lib.hid (HR1.out.below hb2 s1)
  have s2 := Nat.lt_of_lt_of_le s1 hb2.size
  have HF := HFO a b w2 c2 hH2
  have hpl : plV (root3, 0) (entV a b) = .agg #[.int .i64 3, .string ⟨#[]⟩, .string ⟨#[]⟩, .int .i64 0, .bool false, .int .i64 0, .func (.func 89) #[] #[.pointer (some ⟨a, 0, none⟩), .pointer (some ⟨b, 0, none⟩)]] := rfl
  rw [hpl] at HF ⊢
  clear hpl HFO hH2
  go_wp2_with fail
  refine HF.mono ?_
  rintro e w3 ⟨hb3, o, rfl⟩
  have c3 := c2.trans (hb3.mono c2.size)
  have HR3 := Lib.hid (HR2.out.below hb3 s2)
  obtain ⟨z0, z1, z2, z3, z4, z5, z6⟩ := HR3.out.cells
  have f0 := HR3.out.frozen 0
  have f1 := HR3.out.frozen 1
  have f2 := HR3.out.frozen 2
  have f3 := HR3.out.frozen 3
  have f4 := HR3.out.frozen 4
  have f5 := HR3.out.frozen 5
  have f6 := HR3.out.frozen 6
  generalize findQ LL q = F at *
  obtain ⟨⟨r, n⟩, c⟩ := F
  have HFI := HR3.out.set r n (fnV o)
  have HB7 := setPl_below (r := r) (n := n) (f := fnV o) c3 (Nat.le_refl w.heap.size)
  clear HR1 HR2 HR3
  unfold plV
  dsimp only
  cases o with
  | none =>
    unfold fnV
    go_wp2_with fail
    generalize hWF : setPl w3 w.heap.size r n (fnV none) = WF at *
    obtain ⟨q0, q1, q2, q3, q4, q5, q6⟩ := HFI.cells
    unfold setPl fnV at hWF
    rw [hWF]
    clear hWF
    exact bodyPost_ret (v := .tuple #[plV (r, n) (fnV none), .int .i64 c]) (by simp [results, Tryz.results33, go_sem, plV, fnV, q0, q1, q2, q3, q4, q5, q6]) rfl ⟨HB7, none, by rw [HE.out]⟩
  | some ab =>
    obtain ⟨a', b'⟩ := ab
    unfold fnV entV
    go_wp2_with fail
    generalize hWF : setPl w3 w.heap.size r n (fnV (some (a', b'))) = WF at *
    obtain ⟨q0, q1, q2, q3, q4, q5, q6⟩ := HFI.cells
    unfold setPl fnV entV at hWF
    rw [hWF]
    clear hWF
    exact bodyPost_ret (v := .tuple #[plV (r, n) (fnV (some (a', b'))), .int .i64 c]) (by simp [results, Tryz.results33, go_sem, plV, fnV, entV, q0, q1, q2, q3, q4, q5, q6]) rfl ⟨HB7, some (a', b'), by rw [HE.out]⟩

set_option maxHeartbeats 3200000 in
theorem LookUp_impl (v : Value) (LL : List (List R)) (q : ByteArray) (x y : Addr) (w : World) (h : StkSl w v LL) (hl : LL.length ≤ 1048576) (hr : ∀ l ∈ LL, l.length ≤ 1048576 ∧ ∀ r ∈ l, r.p.size ≤ maxLen) (hqm : q.size ≤ maxLen) (hT : Three w x y) :
    Calls Tryz.prog 12 #[v, .string q] w fun e w' => e = .returned (luV (qR LL q)) ∧ Below w.heap.size w w' := by
  have hb0 : Below w.heap.size w (w.alloc (.cells #[.int .i64 0, .string ByteArray.empty, .string ByteArray.empty, .int .i64 0] 25)) := (Below.refl _ _).alloc (Nat.le_refl _) _
  have HF := findPlace_any v LL q x y _ (h.below hb0) hl hr hqm (hT.below hb0 (Nat.le_refl _))
  obtain ⟨vA, vcap, rfl⟩ := h.form
  clear h
  generalize hF : qR LL q = F at *
  obtain ⟨⟨r, n⟩, c⟩ := F
  have HE := Lib.hid hF
  clear hF
  unfold plV at HF
  dsimp only at HF
  go_enter Tryz.func12, Tryz.ntmps12
  go_wp2_with fail
  refine HF.mono ?_
  rintro e w1 ⟨hb1, o, rfl⟩
  have c1 := hb0.trans (hb1.mono hb0.size)
  rcases o with _ | ⟨a, b⟩ <;> (
    unfold fnV
    try unfold entV
    have hz1 : w.heap.size < w1.heap.size := by have := hb1.size; simp at this; omega
    have HN := fun W => nodeOfRecord_any r W
    unfold R.val at HN
    go_wp2_with fail
    refine (HN _).mono ?_
    rintro e w2 ⟨rfl, hb2⟩
    have b2 := (hb1.alloc hb1.size _).trans (hb2.mono (hb1.alloc hb1.size _).size)
    have c2 := hb0.trans (b2.mono hb0.size)
    have hc2 := fun o => (bcell b2).1 w.heap.size o (by simp)
    have hf2 := fun o => (bcell b2).2 w.heap.size o (by simp)
    unfold R.nod
    go_wp2_with fail
    refine bodyPost_ret (v := luV ((r, n), c)) (by simp [results, Tryz.results12, go_sem, luV, R.nod, hc2]) rfl ⟨rfl, ?_⟩
    repeat (refine Below.setCell ?_ (by simp) _)
    exact c2)

set_option maxHeartbeats 3200000 in
theorem LayerOf_impl (v : Value) (LL : List (List R)) (q : ByteArray) (x y : Addr) (w : World) (h : StkSl w v LL) (hl : LL.length ≤ 1048576) (hr : ∀ l ∈ LL, l.length ≤ 1048576 ∧ ∀ r ∈ l, r.p.size ≤ maxLen) (hqm : q.size ≤ maxLen) (hT : Three w x y) :
    Calls Tryz.prog 28 #[v, .string q] w fun e w' => e = .returned (loV (qR LL q)) ∧ Below w.heap.size w w' := by
  have hb0 : Below w.heap.size w w := Below.refl _ _
  have HF := findPlace_any v LL q x y _ (h.below hb0) hl hr hqm (hT.below hb0 (Nat.le_refl _))
  obtain ⟨vA, vcap, rfl⟩ := h.form
  clear h
  generalize hF : qR LL q = F at *
  obtain ⟨⟨r, n⟩, c⟩ := F
  have HE := Lib.hid hF
  clear hF
  unfold plV at HF
  dsimp only at HF
  go_enter Tryz.func28, Tryz.ntmps28
  go_wp2_with fail
  refine HF.mono ?_
  rintro e w1 ⟨hb1, o, rfl⟩
  have c1 := hb0.trans (hb1.mono hb0.size)
  rcases o with _ | ⟨a, b⟩ <;> (
    unfold fnV
    try unfold entV
    go_wp2_with fail
    go_ret2
    exact ⟨rfl, c1.alloc c1.size _⟩)

set_option maxHeartbeats 3200000 in
theorem ReadLink_impl (v : Value) (LL : List (List R)) (q : ByteArray) (x y : Addr) (w : World) (h : StkSl w v LL) (hl : LL.length ≤ 1048576) (hr : ∀ l ∈ LL, l.length ≤ 1048576 ∧ ∀ r ∈ l, r.p.size ≤ maxLen) (hqm : q.size ≤ maxLen) (hT : Three w x y) :
    Calls Tryz.prog 24 #[v, .string q] w fun e w' => e = .returned (rlV (qR LL q)) ∧ Below w.heap.size w w' := by
  have hb0 : Below w.heap.size w w := Below.refl _ _
  have HF := findPlace_any v LL q x y _ (h.below hb0) hl hr hqm (hT.below hb0 (Nat.le_refl _))
  obtain ⟨vA, vcap, rfl⟩ := h.form
  clear h
  generalize hF : qR LL q = F at *
  obtain ⟨⟨r, n⟩, c⟩ := F
  have HE := Lib.hid hF
  clear hF
  unfold plV at HF
  dsimp only at HF
  by_cases hc : c = 0
  case neg =>
    have HG : Hid (rlV ((r, n), c) = .tuple #[.string ⟨#[]⟩, .int .i64 c]) := rl_bad rfl hc
    have hd : (c != 0) = true := by simpa using hc
    clear hc
    go_enter Tryz.func24, Tryz.ntmps24
    go_wp2_with fail
    refine HF.mono ?_
    rintro e w1 ⟨hb1, o, rfl⟩
    have c1 := hb0.trans (hb1.mono hb0.size)
    rcases o with _ | ⟨a, b⟩ <;> (
      unfold fnV
      try unfold entV
      go_wp2_with fail
      go_ret2
      exact ⟨by rw [HG.out]; rfl, c1.alloc c1.size _⟩)
  subst hc
  by_cases h2 : r.k = 2
  · have HG : Hid (rlV ((r, n), 0) = .tuple #[.string r.b, .int .i64 0]) := rl_ok rfl h2
    have hd : (r.k != 2) = false := by simpa using h2
    clear h2
    go_enter Tryz.func24, Tryz.ntmps24
    go_wp2_with fail
    refine HF.mono ?_
    rintro e w1 ⟨hb1, o, rfl⟩
    have c1 := hb0.trans (hb1.mono hb0.size)
    rcases o with _ | ⟨a, b⟩ <;> (
      unfold fnV
      try unfold entV
      go_wp2_with fail
      go_ret2
      exact ⟨by rw [HG.out]; rfl, c1.alloc c1.size _⟩)
  · have HG : Hid (rlV ((r, n), 0) = .tuple #[.string ⟨#[]⟩, .int .i64 9]) := rl_kind rfl h2
    have hd : (r.k != 2) = true := by simpa using h2
    clear h2
    go_enter Tryz.func24, Tryz.ntmps24
    go_wp2_with fail
    refine HF.mono ?_
    rintro e w1 ⟨hb1, o, rfl⟩
    have c1 := hb0.trans (hb1.mono hb0.size)
    rcases o with _ | ⟨a, b⟩ <;> (
      unfold fnV
      try unfold entV
      go_wp2_with fail
      go_ret2
      exact ⟨by rw [HG.out]; rfl, c1.alloc c1.size _⟩)

end Go.Proofs.YtibekkfbpmloiaaGreatDoor.Recs
