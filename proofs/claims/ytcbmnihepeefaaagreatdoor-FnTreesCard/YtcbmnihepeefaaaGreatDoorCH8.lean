/- Parts of several texts of mine in one file (each begins with its own remark). -/
import Derived.Test.YtcbmnihepeefaaaGreatDoorCA2
import Derived.Test.YtcbmnihepeefaaaGreatDoorCA3
import Derived.Test.YtcbmnihepeefaaaGreatDoorCA4
import Derived.Test.YtcbmnihepeefaaaGreatDoorChecked
import Derived.Test.YtcbmnihepeefaaaGreatDoorShelf
import Derived.Test.YtcbmnihepeefaaaGreatDoorProg
import Derived.StillTailTactics
import Derived.Laws.OwnMore
import Derived.BigQuiet
import Derived.BigRegion
import Derived.Deep.QuietTactic
import Derived.Deep.RegionHeld3
import Derived.Deep.Slices
import Derived.OpenShut
import Derived.ShutString
import Derived.ChangeArms
import Derived.WideShapes
import Derived.Lib.LaidTab
import Derived.Deep.Draws
import Derived.Deep.LoopGhost
import Derived.WalkKit
import Derived.WalkSpells
import Derived.WalkSmall
import Derived.Lib.OthersKept
import Derived.Lib.Hide
import Derived.Lib.Strings
import Derived.Lib.Join
import Derived.Laws.BytesArg
import Derived.Stop.LaidErr
import Derived.WalkLawsBesides
import Derived.LaidEql
import Derived.Stop.Asserts
import Derived.Below
import Derived.Stop.LaidTwo
/- For laws that look at trees: the laws' own comparison of lists of nodes, and their search. -/
namespace Go.Proofs.YtcbmnihepeefaaaGreatDoor.Recs
set_option maxRecDepth 100000
open Go.RowKit Paths

set_option maxHeartbeats 400000 in
theorem find_any (v : Value) (l : List R) (q : ByteArray) (w : World) (h : NodSl w v l) (hl : l.length ≤ 1048576) :
    Calls Tryz.prog 26 #[v, .string q] w fun e w' => e = .returned (.int .i64 (atL l q)) ∧ w = w' := by
  obtain ⟨_, A, cap, rfl, hcap, h⟩ := h
  have H := Lib.hid h
  clear h
  go_enter Tryz.func26, Tryz.ntmps26
  go_wp2
  go_loop [5] (fun i => ∃ k : Nat, k ≤ l.length ∧ i = .int .i64 k ∧ Hid (atL l q = atFrom (l.drop k) k q)) (fun i => l.length - (intOf i).toNat)
  case atStart => exact ⟨0, by omega, rfl, rfl⟩
  case round =>
    obtain ⟨k, hk, rfl, HK⟩ := hrel
    by_cases hlt : k < l.length
    · obtain ⟨b, off, rfl, hb, hcell⟩ := H.out (by omega)
      obtain ⟨_, hc1, _⟩ := hcell k l[k] (by simp [hlt])
      have HS := Lib.hid (HK.out.trans (atFrom_step hlt q))
      clear hcell HK
      have hi1 : (k : Int) < (l.length : Int) := by omega
      have hi0 : (0 : Int) ≤ (k : Int) := by omega
      rcases Bool.eq_false_or_eq_true (l[k].p.toList == q.toList) with he | he
      · have HE : Hid (atL l q = k) := by show _ = _; rw [HS.out, if_pos (str_eq_of he)]
        go_wp2
        go_ret
        exact ⟨ret_int HE.out.symm, rfl⟩
      · have HE : Hid (atL l q = atFrom (l.drop (k + 1)) (k + 1) q) := by show _ = _; rw [HS.out, if_neg (fun e => by rw [e] at he; simp at he)]
        go_wp2
        exact ⟨⟨k + 1, by omega, by go_num, HE⟩, by simp [intOf]; omega⟩
    · have HE := Lib.hid (HK.out.trans (atFrom_end (by omega) q))
      go_wp2
      go_ret
      exact ⟨ret_int HE.out.symm, rfl⟩

end Go.Proofs.YtcbmnihepeefaaaGreatDoor.Recs
