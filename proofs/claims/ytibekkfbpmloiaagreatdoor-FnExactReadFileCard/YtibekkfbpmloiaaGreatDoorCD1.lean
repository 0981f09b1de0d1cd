/- Parts of several texts of mine in one file (each begins with its own remark). -/
import Derived.Test.YtibekkfbpmloiaaGreatDoorCA10
import Derived.Test.YtibekkfbpmloiaaGreatDoorCA11
import Derived.Test.YtibekkfbpmloiaaGreatDoorCA12
import Derived.Test.YtibekkfbpmloiaaGreatDoorCA13
import Derived.Test.YtibekkfbpmloiaaGreatDoorCA14
import Derived.Test.YtibekkfbpmloiaaGreatDoorCA15
import Derived.Test.YtibekkfbpmloiaaGreatDoorCA17
import Derived.Test.YtibekkfbpmloiaaGreatDoorCA18
import Derived.Test.YtibekkfbpmloiaaGreatDoorCA19
import Derived.Test.YtibekkfbpmloiaaGreatDoorCA2
import Derived.Test.YtibekkfbpmloiaaGreatDoorCA3
import Derived.Test.YtibekkfbpmloiaaGreatDoorCA4
import Derived.Test.YtibekkfbpmloiaaGreatDoorCA5
import Derived.Test.YtibekkfbpmloiaaGreatDoorCA6
import Derived.Test.YtibekkfbpmloiaaGreatDoorCA7
import Derived.Test.YtibekkfbpmloiaaGreatDoorCA8
import Derived.Test.YtibekkfbpmloiaaGreatDoorChecked
import Derived.Test.YtibekkfbpmloiaaGreatDoorShelf
import Derived.Test.YtibekkfbpmloiaaGreatDoorProg
import Derived.Test.YtibekkfbpmloiaaGreatDoorRows
import Derived.Deep.Slices
import Derived.OpenShut
import Derived.ShutString
import Derived.ChangeArms
import Derived.WideShapes
import Derived.Lib.LaidTab
import Derived.BigQuiet
import Derived.Deep.QuietTactic
import Derived.Deep.RegionHeld3
import Derived.StillTailTactics
import Derived.Deep.Draws
import Derived.Deep.LoopGhost
import Derived.WalkKit
import Derived.WalkSpells
import Derived.WalkSmall
import Derived.Lib.OthersKept
import Derived.Lib.Hide
import Derived.Lib.Strings
import Derived.Lib.Join
import Derived.Laws.OwnMore
import Derived.BigRegion
import Derived.Laws.BytesArg
import Derived.WalkLawsBesides
import Derived.RangeFuncNested
import Derived.RangeFuncBound
import Derived.RangeFuncCalls
import Derived.RangeFuncLeaves
import Derived.RangeFuncBox
import Derived.Shelf.Abstract
import Derived.Shelf.RegionOpen
import Derived.OwnWalkIn
import Derived.TacticsInMore
import Derived.LoopNIn
import Derived.LoopIn
import Derived.Stop.LaidErr
import Derived.LaidEql
import Derived.Stop.Asserts
import Derived.Below
import Derived.Stop.LaidTwo
import Derived.ChangeVars
import Derived.Deep.DeepHandedRow
import Derived.Deep.RegionWith
import Derived.OneCell
import Derived.Lib.SliceRun
import Derived.Lib.Overlaps
import Derived.Lib.AppendZerosOnto
import Derived.Laws.NewBlocks
import Derived.Laws.IdiomCopy
import Derived.Deep.RegionLaw
import Derived.Laws.EntriesVeiled
/- Queries: LookUp, LayerOf, ReadLink, ReadFile, of the model. -/
namespace Go.Proofs.YtibekkfbpmloiaaGreatDoor.Recs
set_option maxRecDepth 100000
open Go.RowKit Paths

/-- So many bytes from a place on. -/
def cutB (b : ByteArray) (off n : Int) : ByteArray := ⟨((b.data.toList.drop off.toNat).take n.toNat).toArray⟩
def rfC (F : (R × Nat) × Int) (off n : Int) : Int := if F.2 ≠ 0 then F.2 else if F.1.1.k = 3 then 14 else if F.1.1.k = 2 then 9 else if off < 0 ∨ n < 0 then 4 else 0
def rfV (F : (R × Nat) × Int) (off n : Int) : Value := .tuple #[.string (if rfC F off n = 0 then cutB F.1.1.b off n else ⟨#[]⟩), .int .i64 (rfC F off n)]
theorem rf_of {F : (R × Nat) × Int} {off n c : Int} (e : rfC F off n = c) (hc : c ≠ 0) : rfV F off n = .tuple #[.string ⟨#[]⟩, .int .i64 c] := by unfold rfV; rw [e, if_neg hc]
theorem rf_bad {F : (R × Nat) × Int} {c : Int} (off n : Int) (h : F.2 = c) (hc : c ≠ 0) : rfV F off n = .tuple #[.string ⟨#[]⟩, .int .i64 c] :=
  rf_of (by unfold rfC; rw [h, if_pos hc]) hc
theorem rf_dir {F : (R × Nat) × Int} (off n : Int) (h : F.2 = 0) (hk : F.1.1.k = 3) : rfV F off n = .tuple #[.string ⟨#[]⟩, .int .i64 14] :=
  rf_of (by unfold rfC; rw [if_neg (by simpa using h), if_pos hk]) (by decide)
theorem rf_link {F : (R × Nat) × Int} (off n : Int) (h : F.2 = 0) (hk : F.1.1.k = 2) : rfV F off n = .tuple #[.string ⟨#[]⟩, .int .i64 9] :=
  rf_of (by unfold rfC; rw [if_neg (by simpa using h), if_neg (by rw [hk]; decide), if_pos hk]) (by decide)
theorem rf_range {F : (R × Nat) × Int} {off n : Int} (h : F.2 = 0) (h3 : F.1.1.k ≠ 3) (h2 : F.1.1.k ≠ 2) (ho : off < 0 ∨ n < 0) : rfV F off n = .tuple #[.string ⟨#[]⟩, .int .i64 4] :=
  rf_of (by unfold rfC; rw [if_neg (by simpa using h), if_neg h3, if_neg h2, if_pos ho]) (by decide)
theorem rf_ok {F : (R × Nat) × Int} {off n : Int} (h : F.2 = 0) (h3 : F.1.1.k ≠ 3) (h2 : F.1.1.k ≠ 2) (ho : ¬ (off < 0 ∨ n < 0)) : rfV F off n = .tuple #[.string (cutB F.1.1.b off n), .int .i64 0] := by
  have e : rfC F off n = 0 := by unfold rfC; rw [if_neg (by simpa using h), if_neg h3, if_neg h2, if_neg ho]
  unfold rfV; rw [e]; rfl
theorem cutB_end {b : ByteArray} {off n : Int} (h : (b.size : Int) ≤ off) : cutB b off n = ⟨#[]⟩ := by
  unfold cutB
  rw [List.drop_eq_nil_of_le (by rw [← Lib.size_eq]; omega)]
  simp
theorem cutB_mid {b : ByteArray} {f k : Nat} {off n : Int} (hf : (f : Int) = off) (hn : 0 ≤ n) (hk : (k : Int) = off + min n ((b.size : Int) - off)) (hlt : off < (b.size : Int)) : b.extract f k = cutB b off n := by
  rw [Lib.extract_eq]
  unfold cutB
  subst hf
  have e : b.data.toList.length = b.size := (Lib.size_eq b).symm
  congr 2
  rw [Int.toNat_natCast]
  by_cases h : n ≤ (b.size : Int) - f
  · rw [Int.min_eq_left h] at hk
    congr 1
    omega
  · rw [Int.min_eq_right (by omega)] at hk
    rw [List.take_of_length_le (by rw [List.length_drop, e]; omega), List.take_of_length_le (by rw [List.length_drop, e]; omega)]

set_option maxHeartbeats 1600000 in
theorem ReadFile_spec (v : Value) (LL : List (List R)) (q : ByteArray) (off n : Int) (w : World) (h : StkSl w v LL) (hl : LL.length ≤ 1048576) (hll : ∀ l ∈ LL, l.length ≤ 1048576) :
    Calls Tryz.prog 21 #[v, .string q, .int .i64 off, .int .i64 n] w fun e w' => e = .returned (rfV (qR LL q) off n) ∧ Below w.heap.size w w' := by
  have hb0 : Below w.heap.size w w := Below.refl _ _
  have HA := fun W hb => l10Ask_any v LL q W (h.below hb) hl hll
  have HF := fun W hb hc => l10Find_any v LL q W (h.below hb) hc
  obtain ⟨vA, vcap, rfl⟩ := h.form
  by_cases h : 4096 < LL.length
  · have hd : decide ((4096 : Int) < (LL.length : Int)) = true := decide_eq_true (by omega)
    have HE := Lib.hid (rf_bad off n (congrArg Prod.snd (qR_bad (cq_bad (st_long (LL := LL) (q := q) (.inl h)) (by decide)) (by decide))) (by decide))
    clear h
    go_enter Tryz.func21, Tryz.ntmps21
    go_wp2_with fail
    go_ret2
    exact ⟨by rw [HE.out]; rfl, hb0⟩
  have hd0 : decide ((4096 : Int) < (LL.length : Int)) = false := decide_eq_false (by omega)
  have hn0 := Lib.hid h
  clear h
  by_cases h : 65536 < q.size
  · have hd : decide ((65536 : Int) < (q.size : Int)) = true := decide_eq_true (by omega)
    have HE := Lib.hid (rf_bad off n (congrArg Prod.snd (qR_bad (cq_bad (st_long (LL := LL) (q := q) (.inr h)) (by decide)) (by decide))) (by decide))
    clear h
    go_enter Tryz.func21, Tryz.ntmps21
    go_wp2_with fail
    go_ret2
    exact ⟨by rw [HE.out]; rfl, hb0⟩
  have hd1 : decide ((65536 : Int) < (q.size : Int)) = false := decide_eq_false (by omega)
  have hn1 := Lib.hid h
  clear h
  by_cases h0 : codeQ LL q = 0
  case neg =>
    have HE := Lib.hid (rf_bad off n (congrArg Prod.snd (qR_bad (LL := LL) (q := q) rfl h0)) h0)
    have hd : (codeQ LL q != 0) = true := by simpa using h0
    clear HF
    generalize codeQ LL q = C at *
    have HC := Lib.hid h0
    clear h0
    go_enter Tryz.func21, Tryz.ntmps21
    go_wp2_with fail
    refine (HA _ hb0).mono ?_
    rintro e w1 ⟨rfl, hb1⟩
    have c1 := hb0.trans (hb1.mono hb0.size)
    go_wp2_with fail
    go_ret2
    exact ⟨by rw [HE.out]; rfl, c1⟩
  have HQ := Lib.hid (qR_ok h0)
  have hsz := find_size h0
  have HF1 := fun W hb => HF W hb h0
  rw [h0] at HA
  unfold resQ R.nod at HF1
  clear HF h0
  generalize findQ LL q = F at *
  obtain ⟨⟨r, m⟩, c⟩ := F
  dsimp only at HF1 hsz
  by_cases hc : c = 0
  case neg =>
    have HE : Hid (rfV (qR LL q) off n = .tuple #[.string ⟨#[]⟩, .int .i64 c]) := by show _ = _; rw [HQ.out]; exact rf_bad off n rfl hc
    have hd : (c != 0) = true := by simpa using hc
    clear hc
    go_enter Tryz.func21, Tryz.ntmps21
    go_wp2_with fail
    refine (HA _ hb0).mono ?_
    rintro e w1 ⟨rfl, hb1⟩
    have c1 := hb0.trans (hb1.mono hb0.size)
    go_wp2_with fail
    refine (HF1 _ c1).mono ?_
    rintro e w2 ⟨rfl, hb2⟩
    have c2 := c1.trans (hb2.mono c1.size)
    go_wp2_with fail
    go_ret2
    exact ⟨by rw [HE.out]; rfl, c2.alloc c2.size _⟩
  subst hc
  by_cases h3 : r.k = 3
  · skip
    have HE : Hid (rfV (qR LL q) off n = .tuple #[.string ⟨#[]⟩, .int .i64 14]) := by show _ = _; rw [HQ.out]; exact rf_dir off n rfl h3
    have hd3 : (r.k == 3) = true := by simpa using h3
    clear h3
    go_enter Tryz.func21, Tryz.ntmps21
    go_wp2_with fail
    refine (HA _ hb0).mono ?_
    rintro e w1 ⟨rfl, hb1⟩
    have c1 := hb0.trans (hb1.mono hb0.size)
    go_wp2_with fail
    refine (HF1 _ c1).mono ?_
    rintro e w2 ⟨rfl, hb2⟩
    have c2 := c1.trans (hb2.mono c1.size)
    go_wp2_with fail
    go_ret2
    exact ⟨by rw [HE.out]; rfl, c2.alloc c2.size _⟩
  by_cases h2 : r.k = 2
  · skip
    have HE : Hid (rfV (qR LL q) off n = .tuple #[.string ⟨#[]⟩, .int .i64 9]) := by show _ = _; rw [HQ.out]; exact rf_link off n rfl h2
    have hd3 : (r.k == 3) = false := by simpa using h3
    have hd2 : (r.k == 2) = true := by simpa using h2
    clear h2 h3
    go_enter Tryz.func21, Tryz.ntmps21
    go_wp2_with fail
    refine (HA _ hb0).mono ?_
    rintro e w1 ⟨rfl, hb1⟩
    have c1 := hb0.trans (hb1.mono hb0.size)
    go_wp2_with fail
    refine (HF1 _ c1).mono ?_
    rintro e w2 ⟨rfl, hb2⟩
    have c2 := c1.trans (hb2.mono c1.size)
    go_wp2_with fail
    go_ret2
    exact ⟨by rw [HE.out]; rfl, c2.alloc c2.size _⟩
  by_cases ho : off < 0
  · skip
    have HE : Hid (rfV (qR LL q) off n = .tuple #[.string ⟨#[]⟩, .int .i64 4]) := by show _ = _; rw [HQ.out]; exact rf_range rfl h3 h2 (.inl ho)
    have hd3 : (r.k == 3) = false := by simpa using h3
    have hd2 : (r.k == 2) = false := by simpa using h2
    clear h2 h3
    have hdo : decide (off < 0) = true := decide_eq_true ho
    go_enter Tryz.func21, Tryz.ntmps21
    go_wp2_with fail
    refine (HA _ hb0).mono ?_
    rintro e w1 ⟨rfl, hb1⟩
    have c1 := hb0.trans (hb1.mono hb0.size)
    go_wp2_with fail
    refine (HF1 _ c1).mono ?_
    rintro e w2 ⟨rfl, hb2⟩
    have c2 := c1.trans (hb2.mono c1.size)
    go_wp2_with fail
    go_ret2
    exact ⟨by rw [HE.out]; rfl, c2.alloc c2.size _⟩
  have hdo : decide (off < 0) = false := decide_eq_false ho
  by_cases hn : n < 0
  · skip
    have HE : Hid (rfV (qR LL q) off n = .tuple #[.string ⟨#[]⟩, .int .i64 4]) := by show _ = _; rw [HQ.out]; exact rf_range rfl h3 h2 (.inr hn)
    have hd3 : (r.k == 3) = false := by simpa using h3
    have hd2 : (r.k == 2) = false := by simpa using h2
    clear h2 h3
    have hdn : decide (n < 0) = true := decide_eq_true hn
    go_enter Tryz.func21, Tryz.ntmps21
    go_wp2_with fail
    refine (HA _ hb0).mono ?_
    rintro e w1 ⟨rfl, hb1⟩
    have c1 := hb0.trans (hb1.mono hb0.size)
    go_wp2_with fail
    refine (HF1 _ c1).mono ?_
    rintro e w2 ⟨rfl, hb2⟩
    have c2 := c1.trans (hb2.mono c1.size)
    go_wp2_with fail
    go_ret2
    exact ⟨by rw [HE.out]; rfl, c2.alloc c2.size _⟩
  have hdn : decide (n < 0) = false := decide_eq_false hn
  by_cases hb : (r.b.size : Int) ≤ off
  · skip
    have HE : Hid (rfV (qR LL q) off n = .tuple #[.string ⟨#[]⟩, .int .i64 0]) := by show _ = _; rw [HQ.out]; exact (rf_ok rfl h3 h2 (by omega)).trans (by rw [cutB_end hb])
    have hd3 : (r.k == 3) = false := by simpa using h3
    have hd2 : (r.k == 2) = false := by simpa using h2
    clear h2 h3
    have hdb : decide ((r.b.size : Int) ≤ off) = true := decide_eq_true hb
    go_enter Tryz.func21, Tryz.ntmps21
    go_wp2_with fail
    refine (HA _ hb0).mono ?_
    rintro e w1 ⟨rfl, hb1⟩
    have c1 := hb0.trans (hb1.mono hb0.size)
    go_wp2_with fail
    refine (HF1 _ c1).mono ?_
    rintro e w2 ⟨rfl, hb2⟩
    have c2 := c1.trans (hb2.mono c1.size)
    go_wp2_with fail
    go_ret2
    exact ⟨by rw [HE.out]; rfl, c2.alloc c2.size _⟩
  have hdb : decide ((r.b.size : Int) ≤ off) = false := decide_eq_false hb
  obtain ⟨f, hf⟩ : ∃ f : Nat, off = (f : Int) := ⟨off.toNat, by omega⟩
  obtain ⟨k, hk⟩ : ∃ k : Nat, n = (k : Int) := ⟨n.toNat, by omega⟩
  have HE : Hid (rfV (qR LL q) off n = .tuple #[.string (cutB r.b off n), .int .i64 0]) := by show _ = _; rw [HQ.out]; exact rf_ok rfl h3 h2 (by omega)
  have hd3 : (r.k == 3) = false := by simpa using h3
  have hd2 : (r.k == 2) = false := by simpa using h2
  have HK := Lib.hid hk
  have HFF := Lib.hid hf
  have HCB := Lib.hid (fun j h1 h2 => cutB_mid (b := r.b) (f := f) (k := j) (off := off) (n := n) hf.symm (by omega) h1 h2)
  subst hf hk
  clear h3 h2
  have hw0 : wrap64 ((r.b.size : Int) - f) = (r.b.size : Int) - f := by unfold wrap64; omega
  have hw1 : wrap64 ((f : Int) + min (k : Int) ((r.b.size : Int) - f)) = (f : Int) + min (k : Int) ((r.b.size : Int) - f) := by unfold wrap64; omega
  have hj0 : (0 : Int) ≤ (f : Int) + min (k : Int) ((r.b.size : Int) - f) := by omega
  have hj1 : (f : Int) + min (k : Int) ((r.b.size : Int) - f) ≤ (r.b.size : Int) := by omega
  have hj2 : (f : Int) ≤ (f : Int) + min (k : Int) ((r.b.size : Int) - f) := by omega
  have HEC : Hid (r.b.extract f ((f : Int) + min (k : Int) ((r.b.size : Int) - f)).toNat = cutB r.b (f : Int) (k : Int)) := HCB.out _ (by omega) (by omega)
  clear HCB
  go_enter Tryz.func21, Tryz.ntmps21
  go_wp2_with fail
  refine (HA _ hb0).mono ?_
  rintro e w1 ⟨rfl, hb1⟩
  have c1 := hb0.trans (hb1.mono hb0.size)
  go_wp2_with fail
  refine (HF1 _ c1).mono ?_
  rintro e w2 ⟨rfl, hb2⟩
  have c2 := c1.trans (hb2.mono c1.size)
  go_wp2_with fail
  go_ret2
  exact ⟨by rw [HE.out, ← HEC.out]; rfl, c2.alloc c2.size _⟩
end Go.Proofs.YtibekkfbpmloiaaGreatDoor.Recs

/- Queries: the code of a call, what a path leads to, LookUp, LayerOf, ReadLink, ReadFile, of the program. Conditions: the table of kinds, the two sentinels. -/
namespace Go.Proofs.YtibekkfbpmloiaaGreatDoor.Recs
set_option maxRecDepth 100000
open Go.RowKit Paths Errs

theorem cut_two (b : ByteArray) {off n : Int} (h0 : 0 ≤ off) (hn : 0 ≤ n) : (b.extract (min off (b.size : Int)).toNat b.size).extract 0 (min n ((b.size - (min off (b.size : Int)).toNat : Nat) : Int)).toNat = cutB b off n := by
  apply bytes_ext
  rw [Lib.extract_data, Lib.extract_data]
  have e : b.data.toList.length = b.size := (Lib.size_eq b).symm
  show _ = (b.data.toList.drop off.toNat).take n.toNat
  generalize b.data.toList = L at *
  generalize b.size = m at *
  rw [List.drop_zero, Nat.sub_zero]
  by_cases h : off ≤ (m : Int)
  · rw [Int.min_eq_left h, List.take_of_length_le (i := m - off.toNat) (by rw [List.length_drop]; omega)]
    by_cases hk : n ≤ ((m - off.toNat : Nat) : Int)
    · rw [Int.min_eq_left hk]
    · rw [Int.min_eq_right (by omega), Int.toNat_natCast, List.take_of_length_le (by rw [List.length_drop]; omega), List.take_of_length_le (by rw [List.length_drop]; omega)]
  · rw [List.drop_eq_nil_of_le (i := off.toNat) (by omega), Int.min_eq_right (by omega), Int.toNat_natCast, List.drop_eq_nil_of_le (by omega)]
    simp
theorem qR_size (LL : List (List R)) (q : ByteArray) (h : (qR LL q).2 = 0) : (qR LL q).1.1.b.size ≤ 20 := by
  unfold qR at h ⊢
  split at h
  · rename_i hn; exact absurd h hn
  · rename_i hn
    rw [if_neg hn]
    exact find_size (by simpa using hn)
set_option maxHeartbeats 3200000 in
theorem ReadFile_impl (v : Value) (LL : List (List R)) (q : ByteArray) (off n : Int) (x y : Addr) (w : World) (h : StkSl w v LL) (hl : LL.length ≤ 1048576) (hr : ∀ l ∈ LL, l.length ≤ 1048576 ∧ ∀ r ∈ l, r.p.size ≤ maxLen) (hqm : q.size ≤ maxLen) (hT : Three w x y) :
    Calls Tryz.prog 22 #[v, .string q, .int .i64 off, .int .i64 n] w fun e w' => e = .returned (rfV (qR LL q) off n) ∧ Below w.heap.size w w' := by
  have hb0 : Below w.heap.size w w := Below.refl _ _
  have HF := findPlace_any v LL q x y _ (h.below hb0) hl hr hqm (hT.below hb0 (Nat.le_refl _))
  have hszq := qR_size LL q
  obtain ⟨vA, vcap, rfl⟩ := h.form
  clear h
  generalize hF : qR LL q = F at *
  obtain ⟨⟨r, nn⟩, c⟩ := F
  have HE := Lib.hid hF
  clear hF
  unfold plV at HF
  dsimp only at HF
  have HSZ : Hid (c = 0 → r.b.size ≤ 20) := hszq
  clear hszq
  by_cases hc : c = 0
  case neg =>
    have HG : Hid (rfV ((r, nn), c) off n = .tuple #[.string ⟨#[]⟩, .int .i64 c]) := rf_bad off n rfl hc
    have hd : (c != 0) = true := by simpa using hc
    clear hc
    go_enter Tryz.func22, Tryz.ntmps22
    go_wp2_with fail
    refine HF.mono ?_
    rintro e w1 ⟨hb1, o, rfl⟩
    have c1 := hb0.trans (hb1.mono hb0.size)
    rcases o with _ | ⟨a, b⟩ <;> (
      unfold fnV
      try unfold entV
      go_wp2_with fail
      go_ret2
      exact ⟨by rw [HG.out]; rfl, c1.alloc c1.size _⟩)
  have hsz := HSZ.out hc
  subst hc
  by_cases h3 : r.k = 3
  · skip
    have HG : Hid (rfV ((r, nn), 0) off n = .tuple #[.string ⟨#[]⟩, .int .i64 14]) := rf_dir off n rfl h3
    have hd3 : (r.k == 3) = true := by simpa using h3
    clear h3
    go_enter Tryz.func22, Tryz.ntmps22
    go_wp2_with fail
    refine HF.mono ?_
    rintro e w1 ⟨hb1, o, rfl⟩
    have c1 := hb0.trans (hb1.mono hb0.size)
    rcases o with _ | ⟨a, b⟩ <;> (
      unfold fnV
      try unfold entV
      go_wp2_with fail
      go_ret2
      exact ⟨by rw [HG.out]; rfl, c1.alloc c1.size _⟩)
  by_cases h2 : r.k = 2
  · skip
    have HG : Hid (rfV ((r, nn), 0) off n = .tuple #[.string ⟨#[]⟩, .int .i64 9]) := rf_link off n rfl h2
    have hd3 : (r.k == 3) = false := by simpa using h3
    have hd2 : (r.k == 2) = true := by simpa using h2
    clear h2 h3
    go_enter Tryz.func22, Tryz.ntmps22
    go_wp2_with fail
    refine HF.mono ?_
    rintro e w1 ⟨hb1, o, rfl⟩
    have c1 := hb0.trans (hb1.mono hb0.size)
    rcases o with _ | ⟨a, b⟩ <;> (
      unfold fnV
      try unfold entV
      go_wp2_with fail
      go_ret2
      exact ⟨by rw [HG.out]; rfl, c1.alloc c1.size _⟩)
  by_cases ho : off < 0
  · skip
    have HG : Hid (rfV ((r, nn), 0) off n = .tuple #[.string ⟨#[]⟩, .int .i64 4]) := rf_range rfl h3 h2 (.inl ho)
    have hd3 : (r.k == 3) = false := by simpa using h3
    have hd2 : (r.k == 2) = false := by simpa using h2
    clear h2 h3
    have hdo : decide (off < 0) = true := decide_eq_true ho
    go_enter Tryz.func22, Tryz.ntmps22
    go_wp2_with fail
    refine HF.mono ?_
    rintro e w1 ⟨hb1, o, rfl⟩
    have c1 := hb0.trans (hb1.mono hb0.size)
    rcases o with _ | ⟨a, b⟩ <;> (
      unfold fnV
      try unfold entV
      go_wp2_with fail
      go_ret2
      exact ⟨by rw [HG.out]; rfl, c1.alloc c1.size _⟩)
  have hdo : decide (off < 0) = false := decide_eq_false ho
  by_cases hn : n < 0
  · skip
    have HG : Hid (rfV ((r, nn), 0) off n = .tuple #[.string ⟨#[]⟩, .int .i64 4]) := rf_range rfl h3 h2 (.inr hn)
    have hd3 : (r.k == 3) = false := by simpa using h3
    have hd2 : (r.k == 2) = false := by simpa using h2
    clear h2 h3
    have hdn : decide (n < 0) = true := decide_eq_true hn
    go_enter Tryz.func22, Tryz.ntmps22
    go_wp2_with fail
    refine HF.mono ?_
    rintro e w1 ⟨hb1, o, rfl⟩
    have c1 := hb0.trans (hb1.mono hb0.size)
    rcases o with _ | ⟨a, b⟩ <;> (
      unfold fnV
      try unfold entV
      go_wp2_with fail
      go_ret2
      exact ⟨by rw [HG.out]; rfl, c1.alloc c1.size _⟩)
  have hdn : decide (n < 0) = false := decide_eq_false hn
  have HG : Hid (rfV ((r, nn), 0) off n = .tuple #[.string (cutB r.b off n), .int .i64 0]) := rf_ok rfl h3 h2 (by omega)
  have hd3 : (r.k == 3) = false := by simpa using h3
  have hd2 : (r.k == 2) = false := by simpa using h2
  clear h2 h3
  go_enter Tryz.func22, Tryz.ntmps22
  go_wp2_with fail
  refine HF.mono ?_
  rintro e w1 ⟨hb1, o, rfl⟩
  have c1 := hb0.trans (hb1.mono hb0.size)
  rcases o with _ | ⟨a, b⟩ <;> (
    unfold fnV
    try unfold entV
    go_wp2_with fail
    go_ret2
    exact ⟨by rw [HG.out, ← cut_two r.b (show 0 ≤ off by omega) (show 0 ≤ n by omega)]; rfl, c1.alloc c1.size _⟩)
end Go.Proofs.YtibekkfbpmloiaaGreatDoor.Recs

/- Queries: what the four functions answer, written out for the laws. -/
namespace Go.Proofs.YtibekkfbpmloiaaGreatDoor.Recs
set_option maxRecDepth 100000
open Go.RowKit Paths Errs

def rfS (F : (R × Nat) × Int) (off n : Int) : ByteArray := if rfC F off n = 0 then cutB F.1.1.b off n else ⟨#[]⟩
section
variable (v : Value) (LL : List (List R)) (q : ByteArray)
theorem ReadFile_s (off n : Int) (w : World) (h : StkSl w v LL) (hl : LL.length ≤ 1048576) (hll : ∀ l ∈ LL, l.length ≤ 1048576) :
    Calls Tryz.prog 21 #[v, .string q, .int .i64 off, .int .i64 n] w fun e w' => e = .returned (.tuple #[.string (rfS (qR LL q) off n), .int .i64 (rfC (qR LL q) off n)]) ∧ Below w.heap.size w w' := ReadFile_spec v LL q off n w h hl hll
theorem ReadFile_i (off n : Int) (x y : Addr) (w : World) (h : StkSl w v LL) (hl : LL.length ≤ 1048576) (hr : ∀ l ∈ LL, l.length ≤ 1048576 ∧ ∀ r ∈ l, r.p.size ≤ maxLen) (hqm : q.size ≤ maxLen) (hT : Three w x y) :
    Calls Tryz.prog 22 #[v, .string q, .int .i64 off, .int .i64 n] w fun e w' => e = .returned (.tuple #[.string (rfS (qR LL q) off n), .int .i64 (rfC (qR LL q) off n)]) ∧ Below w.heap.size w w' := ReadFile_impl v LL q off n x y w h hl hr hqm hT
end
end Go.Proofs.YtibekkfbpmloiaaGreatDoor.Recs
