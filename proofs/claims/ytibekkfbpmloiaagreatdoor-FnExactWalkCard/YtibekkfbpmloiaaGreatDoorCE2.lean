/- Parts of several texts of mine in one file (each begins with its own remark). -/
import Derived.Test.YtibekkfbpmloiaaGreatDoorCA1
import Derived.Test.YtibekkfbpmloiaaGreatDoorCA10
import Derived.Test.YtibekkfbpmloiaaGreatDoorCA11
import Derived.Test.YtibekkfbpmloiaaGreatDoorCA12
import Derived.Test.YtibekkfbpmloiaaGreatDoorCA13
import Derived.Test.YtibekkfbpmloiaaGreatDoorCA14
import Derived.Test.YtibekkfbpmloiaaGreatDoorCA17
import Derived.Test.YtibekkfbpmloiaaGreatDoorCA2
import Derived.Test.YtibekkfbpmloiaaGreatDoorCA3
import Derived.Test.YtibekkfbpmloiaaGreatDoorCA4
import Derived.Test.YtibekkfbpmloiaaGreatDoorCA5
import Derived.Test.YtibekkfbpmloiaaGreatDoorCA8
import Derived.Test.YtibekkfbpmloiaaGreatDoorCB10
import Derived.Test.YtibekkfbpmloiaaGreatDoorCB3
import Derived.Test.YtibekkfbpmloiaaGreatDoorCB5
import Derived.Test.YtibekkfbpmloiaaGreatDoorCB8
import Derived.Test.YtibekkfbpmloiaaGreatDoorCB9
import Derived.Test.YtibekkfbpmloiaaGreatDoorCE1
import Derived.Test.YtibekkfbpmloiaaGreatDoorChecked
import Derived.Test.YtibekkfbpmloiaaGreatDoorShelf
import Derived.Test.YtibekkfbpmloiaaGreatDoorProg
import Derived.Test.YtibekkfbpmloiaaGreatDoorRows
import Derived.Deep.Slices
import Derived.OpenShut
import Derived.ShutString
import Derived.ChangeArms
import Derived.WideShapes
import Derived.Lib.LaidTab
import Derived.BigQuiet
import Derived.Deep.QuietTactic
import Derived.Deep.RegionHeld3
import Derived.StillTailTactics
import Derived.Deep.Draws
import Derived.Deep.LoopGhost
import Derived.WalkKit
import Derived.WalkSpells
import Derived.WalkSmall
import Derived.Lib.OthersKept
import Derived.Lib.Hide
import Derived.Lib.Strings
import Derived.Lib.Join
import Derived.Laws.OwnMore
import Derived.BigRegion
import Derived.Laws.BytesArg
import Derived.WalkLawsBesides
import Derived.RangeFuncNested
import Derived.RangeFuncBound
import Derived.RangeFuncCalls
import Derived.RangeFuncLeaves
import Derived.RangeFuncBox
import Derived.Shelf.Abstract
import Derived.Shelf.RegionOpen
import Derived.OwnWalkIn
import Derived.TacticsInMore
import Derived.LoopNIn
import Derived.LoopIn
import Derived.Stop.LaidErr
import Derived.LaidEql
import Derived.Stop.Asserts
import Derived.Below
import Derived.Stop.LaidTwo
import Derived.ChangeVars
import Derived.Deep.DeepHandedRow
import Derived.Deep.RegionWith
import Derived.OneCell
import Derived.Lib.SliceRun
import Derived.Lib.Overlaps
import Derived.Lib.AppendZerosOnto
import Derived.Laws.NewBlocks
import Derived.Laws.IdiomCopy
import Derived.Deep.RegionLaw
import Derived.Deep.AppendLies
import Derived.Laws.EntriesVeiled
import Derived.Laws.AppendOwn
/- Queries: Walk, ReadDir, of the model. -/
namespace Go.Proofs.YtibekkfbpmloiaaGreatDoor.Recs
set_option maxRecDepth 100000
open Go.RowKit Paths

theorem WalkL_len (LL : List (List R)) (q : ByteArray) : (WalkL LL q).length ≤ 1048576 := by
  unfold WalkL
  split
  · rename_i h
    have := walkT_80 (wk_code h)
    rw [bts_len]; omega
  · exact Nat.zero_le _
set_option maxHeartbeats 1600000 in
theorem Walk_spec (v : Value) (LL : List (List R)) (q : ByteArray) (w : World) (h : StkSl w v LL) (hl : LL.length ≤ 1048576) (hll : ∀ l ∈ LL, l.length ≤ 1048576) :
    Calls Tryz.prog 25 #[v, .string q] w fun e w' => ∃ z, e = .returned (.tuple #[z, .int .i64 (wkC (qR LL q))]) ∧ Below w.heap.size w w' ∧ w'.ownsRow w.heap.size 9 1 z (WalkL LL q).length ((WalkL LL q).map strV) := by
  have HA := fun W hb => l10Ask_any v LL q W (h.below hb) hl hll
  have HF := fun W hb hc => l10Find_any v LL q W (h.below hb) hc
  have HI := fun W (hb : Below w.heap.size w W) h5 hok (hq : q.size = 0 ∨ pathB q.data.toList = true) => l10Walk_any v LL h5 hok 5 q hq (by omega) W (h.below hb)
  have HBAD : Hid (∀ c : Int, wkC (qR LL q) = c → c ≠ 0 → WalkL LL q = []) := fun c h1 h2 => if_neg (by rw [h1]; exact h2)
  have hb0 : Below w.heap.size w w := Below.refl _ _
  obtain ⟨vA, vcap, rfl⟩ := h.form
  by_cases h1 : 4096 < LL.length
  · have hd : decide ((4096 : Int) < (LL.length : Int)) = true := decide_eq_true (by omega)
    have HE : Hid (wkC (qR LL q) = 2) := wk_bad (congrArg Prod.snd (qR_bad (cq_bad (st_long (LL := LL) (q := q) (.inl h1)) (by decide)) (by decide))) (by decide)
    have HN := Lib.hid (HBAD.out _ HE.out (by decide))
    clear h1
    go_enter Tryz.func25, Tryz.ntmps25
    go_wp2_with fail
    go_ret2
    exact ⟨_, by rw [HE.out]; rfl, (hb0).alloc (hb0).size _, by rw [HN.out]; exact row_lit (hb0)⟩
  have hd4096 : decide ((4096 : Int) < (LL.length : Int)) = false := decide_eq_false (by omega)
  clear h1
  by_cases h1 : 65536 < q.size
  · have hd : decide ((65536 : Int) < (q.size : Int)) = true := decide_eq_true (by omega)
    have HE : Hid (wkC (qR LL q) = 2) := wk_bad (congrArg Prod.snd (qR_bad (cq_bad (st_long (LL := LL) (q := q) (.inr h1)) (by decide)) (by decide))) (by decide)
    have HN := Lib.hid (HBAD.out _ HE.out (by decide))
    clear h1
    go_enter Tryz.func25, Tryz.ntmps25
    go_wp2_with fail
    go_ret2
    exact ⟨_, by rw [HE.out]; rfl, (hb0).alloc (hb0).size _, by rw [HN.out]; exact row_lit (hb0)⟩
  have hd65536 : decide ((65536 : Int) < (q.size : Int)) = false := decide_eq_false (by omega)
  clear h1
  by_cases h0 : codeQ LL q = 0
  case neg =>
    have HE : Hid (wkC (qR LL q) = codeQ LL q) := wk_bad (congrArg Prod.snd (qR_bad (LL := LL) (q := q) rfl h0)) h0
    have HN := Lib.hid (HBAD.out _ HE.out h0)
    have hd : (codeQ LL q != 0) = true := by simpa using h0
    clear HF HI HBAD
    generalize codeQ LL q = C at *
    clear h0
    go_enter Tryz.func25, Tryz.ntmps25
    go_wp2_with fail
    refine (HA _ hb0).mono ?_
    rintro e w1 ⟨rfl, hb1⟩
    go_wp2_with fail
    go_ret2
    exact ⟨_, by rw [HE.out]; rfl, (hb1).alloc (hb1).size _, by rw [HN.out]; exact row_lit (hb1)⟩
  obtain ⟨ho, hq⟩ := cq_ok h0
  have hst := stack_of ho
  have HQ := Lib.hid (qR_ok h0)
  have HF1 := fun W hb => HF W hb h0
  have HI1 := fun W hb => HI W hb hst.1 hst.2 hq
  rw [h0] at HA
  unfold resQ R.nod at HF1
  clear HF HI h0 ho hq hst
  generalize findQ LL q = F at *
  obtain ⟨⟨r, m⟩, c⟩ := F
  dsimp only at HF1
  by_cases hc : c = 0
  case neg =>
    have HE : Hid (wkC (qR LL q) = c) := wk_bad (by rw [HQ.out]) hc
    have HN := Lib.hid (HBAD.out _ HE.out hc)
    have hd : (c != 0) = true := by simpa using hc
    clear hc HI1 HBAD
    go_enter Tryz.func25, Tryz.ntmps25
    go_wp2_with fail
    refine (HA _ hb0).mono ?_
    rintro e w1 ⟨rfl, hb1⟩
    go_wp2_with fail
    refine (HF1 _ hb1).mono ?_
    rintro e w2 ⟨rfl, hb2⟩
    have c2 := hb1.trans (hb2.mono hb1.size)
    have c3 := c2.alloc c2.size (.cells #[.int .i64 r.k, .string r.p, .string r.b, .int .i64 r.m] 25)
    go_wp2_with fail
    go_ret2
    exact ⟨_, by rw [HE.out]; rfl, c3.alloc c3.size _, by rw [HN.out]; have := row_lit c3; rw [World.size_alloc] at this; exact this⟩
  subst hc
  by_cases hk : r.k = 3
  · have HE : Hid (wkC (qR LL q) = 0) := wk_dir (by rw [HQ.out]) (by rw [HQ.out]; exact hk)
    have HN : Hid (WalkL LL q = bts (walkT LL q)) := if_pos HE.out
    have hd : (r.k != 3) = false := by simpa using hk
    clear hk HBAD
    go_enter Tryz.func25, Tryz.ntmps25
    go_wp2_with fail
    refine (HA _ hb0).mono ?_
    rintro e w1 ⟨rfl, hb1⟩
    go_wp2_with fail
    refine (HF1 _ hb1).mono ?_
    rintro e w2 ⟨rfl, hb2⟩
    have c2 := hb1.trans (hb2.mono hb1.size)
    have c3 := c2.alloc c2.size (.cells #[.int .i64 r.k, .string r.p, .string r.b, .int .i64 r.m] 25)
    go_wp2_with fail
    refine (HI1 _ c3).mono ?_
    rintro e w4 ⟨z, rfl, hb4, hz, -⟩
    have HZ := Lib.hid hz
    obtain ⟨zA, zc, hze⟩ := own_form hz
    subst hze
    clear hz
    go_wp2_with fail
    go_ret2
    exact ⟨_, by rw [HE.out]; rfl, c3.trans (hb4.mono c3.size), by rw [HN.out]; exact own_low HZ.out c3.size⟩
  · have HE : Hid (wkC (qR LL q) = 13) := wk_file (by rw [HQ.out]) (by rw [HQ.out]; exact hk)
    have HN := Lib.hid (HBAD.out _ HE.out (by decide))
    have hd : (r.k != 3) = true := by simpa using hk
    clear hk HI1 HBAD
    go_enter Tryz.func25, Tryz.ntmps25
    go_wp2_with fail
    refine (HA _ hb0).mono ?_
    rintro e w1 ⟨rfl, hb1⟩
    go_wp2_with fail
    refine (HF1 _ hb1).mono ?_
    rintro e w2 ⟨rfl, hb2⟩
    have c2 := hb1.trans (hb2.mono hb1.size)
    have c3 := c2.alloc c2.size (.cells #[.int .i64 r.k, .string r.p, .string r.b, .int .i64 r.m] 25)
    go_wp2_with fail
    go_ret2
    exact ⟨_, by rw [HE.out]; rfl, c3.alloc c3.size _, by rw [HN.out]; have := row_lit c3; rw [World.size_alloc] at this; exact this⟩

end Go.Proofs.YtibekkfbpmloiaaGreatDoor.Recs
