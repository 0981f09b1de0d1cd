/- Parts of several texts of mine in one file (each begins with its own remark). -/
import Derived.Test.YtcbmnihepeefaaaGreatDoorCA10
import Derived.Test.YtcbmnihepeefaaaGreatDoorCA2
import Derived.Test.YtcbmnihepeefaaaGreatDoorCA3
import Derived.Test.YtcbmnihepeefaaaGreatDoorCA4
import Derived.Test.YtcbmnihepeefaaaGreatDoorCA5
import Derived.Test.YtcbmnihepeefaaaGreatDoorCA6
import Derived.Test.YtcbmnihepeefaaaGreatDoorCA7
import Derived.Test.YtcbmnihepeefaaaGreatDoorCA8
import Derived.Test.YtcbmnihepeefaaaGreatDoorCA9
import Derived.Test.YtcbmnihepeefaaaGreatDoorCB1
import Derived.Test.YtcbmnihepeefaaaGreatDoorCB10
import Derived.Test.YtcbmnihepeefaaaGreatDoorCB11
import Derived.Test.YtcbmnihepeefaaaGreatDoorCB2
import Derived.Test.YtcbmnihepeefaaaGreatDoorCB3
import Derived.Test.YtcbmnihepeefaaaGreatDoorCB5
import Derived.Test.YtcbmnihepeefaaaGreatDoorCB6
import Derived.Test.YtcbmnihepeefaaaGreatDoorCB9
import Derived.Test.YtcbmnihepeefaaaGreatDoorCH2
import Derived.Test.YtcbmnihepeefaaaGreatDoorCH3
import Derived.Test.YtcbmnihepeefaaaGreatDoorChecked
import Derived.Test.YtcbmnihepeefaaaGreatDoorShelf
import Derived.Test.YtcbmnihepeefaaaGreatDoorProg
import Derived.Test.YtcbmnihepeefaaaGreatDoorRows
import Derived.Deep.RegionWith
import Derived.StillTailTactics
import Derived.Laws.OwnMore
import Derived.BigQuiet
import Derived.BigRegion
import Derived.Deep.QuietTactic
import Derived.Deep.RegionHeld3
import Derived.Deep.Slices
import Derived.OpenShut
import Derived.ShutString
import Derived.ChangeArms
import Derived.WideShapes
import Derived.Lib.LaidTab
import Derived.Deep.Draws
import Derived.Deep.LoopGhost
import Derived.WalkKit
import Derived.WalkSpells
import Derived.WalkSmall
import Derived.Lib.OthersKept
import Derived.Lib.Hide
import Derived.Lib.Strings
import Derived.Lib.Join
import Derived.Laws.BytesArg
import Derived.Stop.LaidErr
import Derived.WalkLawsBesides
import Derived.LaidEql
import Derived.Stop.Asserts
import Derived.Below
import Derived.Stop.LaidTwo
import Derived.OneCell
import Derived.Lib.SliceRun
import Derived.Lib.Overlaps
import Derived.Lib.AppendZerosOnto
import Derived.Laws.NewBlocks
import Derived.Laws.IdiomCopy
import Derived.Deep.RegionLaw
import Derived.ChangeVars
import Derived.Deep.DeepHandedRow
import Derived.Deep.AppendLies
import Derived.Laws.EntriesVeiled
/- Trees: AddNode, of the program and of its model. Conditions (of the program's): the table of kinds, the two sentinels. -/
namespace Go.Proofs.YtcbmnihepeefaaaGreatDoor.Recs
set_option maxRecDepth 100000
open Go.RowKit Paths Errs

def addD (l : List R) (n : R) : Int := if placeC l n.p ≠ 0 then placeC l n.p else if l.length = 24 then 7 else 0
def addC (l : List R) (n : R) : Int := if codeTN l n ≠ 0 then codeTN l n else addD l n
def addR (l : List R) (n : R) : List R := if codeTN l n ≠ 0 then [] else if addD l n = 0 then putL l n else l
def AddPost (l : List R) (n : R) (w : World) (e : Ending) (w' : World) : Prop :=
  ∃ x, e = .returned (.tuple #[x, .int .i64 (addC l n)]) ∧ Below w.heap.size w w' ∧ RowN w' w.heap.size x (addR l n).length (addR l n)
theorem codeTN_zero {l : List R} {n : R} (h : codeTN l n = 0) : Tree l ∧ n.k ≠ 4 ∧ n.fault = 0 := by
  unfold codeTN at h
  split at h
  · omega
  · split at h
    · rename_i h2
      rw [Bool.and_eq_true] at h2
      refine ⟨tree_of h2.1, ?_⟩
      have := h2.2
      unfold nodeK at this
      simpa using this
    · omega
theorem add_err {l : List R} {n : R} {c : Int} (h : codeTN l n = c) (hc : c ≠ 0) {w w' : World} {x : Value} (hb : Below w.heap.size w w') (ho : w'.ownsRow w.heap.size 29 4 x 0 []) : AddPost l n w (.returned (.tuple #[x, .int .i64 c])) w' := by
  have e1 : addC l n = c := by unfold addC; rw [h, if_pos hc]
  have e2 : addR l n = [] := by unfold addR; rw [h, if_pos hc]
  refine ⟨x, by rw [e1], hb, ?_⟩
  rw [e2]
  exact ⟨rfl, ho, fun r hr => by cases hr⟩
theorem add_stay {l : List R} {n : R} {c : Int} (h : codeTN l n = 0) (hr : addD l n = c) (hc : c ≠ 0) (hlo : ∀ r ∈ l, r.o = false) {w w' : World} {base : Nat} {x : Value} (hb : Below w.heap.size w w') (ho : w'.ownsRow base 29 4 x l.length (flatN l)) (hle : w.heap.size ≤ base) : AddPost l n w (.returned (.tuple #[x, .int .i64 c])) w' := by
  have e1 : addC l n = c := by unfold addC; rw [if_neg (by simpa using h), hr]
  have e2 : addR l n = l := by unfold addR; rw [if_neg (by simpa using h), if_neg (by rw [hr]; exact hc)]
  refine ⟨x, by rw [e1], hb, ?_⟩
  rw [e2]
  exact ⟨rfl, own_down ho hle, hlo⟩
theorem add_stay_at {l : List R} {n : R} {c : Int} (h : codeTN l n = 0) (hr : addD l n = c) (hc : c ≠ 0) (hlo : ∀ r ∈ l, r.o = false) {w w' : World} {x : Value} (hb : Below w.heap.size w w') (ho : w'.ownsRow w.heap.size 29 4 x l.length (flatN l)) : AddPost l n w (.returned (.tuple #[x, .int .i64 c])) w' := add_stay h hr hc hlo hb ho (Nat.le_refl _)
theorem add_done {l : List R} {n : R} (h : codeTN l n = 0) (hr : addD l n = 0) {w w' : World} {base : Nat} {x : Value} (hb : Below w.heap.size w w') (ho : RowN w' base x (putL l n).length (putL l n)) (hle : w.heap.size ≤ base) : AddPost l n w (.returned (.tuple #[x, .int .i64 0])) w' := by
  have e1 : addC l n = 0 := by unfold addC; rw [if_neg (by simpa using h), hr]
  have e2 : addR l n = putL l n := by unfold addR; rw [if_neg (by simpa using h), if_pos hr]
  refine ⟨x, by rw [e1], hb, ?_⟩
  rw [e2]
  exact ⟨ho.1, own_down ho.2.1 hle, ho.2.2⟩
theorem nodeE_not {n : R} : nodeE n ≠ .long := by unfold nodeE; split <;> simp
theorem addD_place {l : List R} {n : R} {c : Int} (h : placeC l n.p = c) (hc : c ≠ 0) : addD l n = c := by unfold addD; rw [h, if_pos hc]
theorem addD_full {l : List R} {n : R} (h : placeC l n.p = 0) (hl : l.length = 24) : addD l n = 7 := by unfold addD; rw [if_neg (by simpa using h), if_pos hl]
theorem addD_put {l : List R} {n : R} (h : placeC l n.p = 0) (hl : l.length ≠ 24) : addD l n = 0 := by unfold addD; rw [if_neg (by simpa using h), if_neg hl]

/-- As AddPost, and the list is not nil. -/
def AddPostS (l : List R) (n : R) (w : World) (e : Ending) (w' : World) : Prop := AddPost l n w e w' ∧ ∀ y c, e = .returned (.tuple #[y, c]) → y ≠ .slice none 0 0
theorem nv {l : List R} {n : R} {w w' : World} {x c : Value} (h : AddPost l n w (.returned (.tuple #[x, c])) w') (hx : x ≠ .slice none 0 0) : AddPostS l n w (.returned (.tuple #[x, c])) w' := ⟨h, fun y d e => by cases e; exact hx⟩
set_option maxHeartbeats 6400000 in
theorem addNode_specS (v : Value) (l : List R) (n : R) (hno : n.o = false) (base : Nat) (w : World) (hrow : RowN w base v l.length l) (hv : v ≠ .slice none 0 0) (hl : l.length ≤ 1048576) :
    Calls Tryz.prog 14 #[v, n.nod] w (AddPostS l n w) := by
  obtain ⟨i0, hi, hI0, hI1, hI2⟩ := info_parts nodInfo
  have hb0 : Below w.heap.size w (w.alloc (.cells #[.int .i64 n.k, .string n.p, .string n.b, .int .i64 n.m] 29)) := (Below.refl _ _).alloc (Nat.le_refl _) _
  have hIt : Item (w.alloc (.cells #[.int .i64 n.k, .string n.p, .string n.b, .int .i64 n.m] 29)) w.heap.size n := Item.new w n
  have hrow1 := hrow.below hb0
  have HC := l04OK_any v l _ hrow1.sl hl
  have HLO := Lib.hid hrow.2.2
  have hvv := Lib.hid hv
  obtain ⟨g, cap, rfl, hcap, hcm, hgb, hgl⟩ := notnil hrow hv
  unfold R.nod
  clear hv
  by_cases h4 : 4096 < l.length
  · have HE := Lib.hid (show codeTN l n = 2 by unfold codeTN; rw [if_pos h4])
    have hd : decide ((4096 : Int) < (l.length : Int)) = true := by simp; omega
    have hE : ((w.alloc (.cells #[.int .i64 n.k, .string n.p, .string n.b, .int .i64 n.m] 29)).alloc (.cells #[] 29)).ownsRow w.heap.size 29 4 (.slice (some ⟨w.heap.size + 1, 0, none⟩) 0 0) 0 [] := by
      have := World.ownsRow_lit (w.alloc (.cells #[.int .i64 n.k, .string n.p, .string n.b, .int .i64 n.m] 29)) (e := 29) (size := 4) (base := w.heap.size) #[] 0 hb0.size (Nat.zero_le _) rfl
      rw [World.size_alloc] at this
      exact this
    have cE : Below w.heap.size w ((w.alloc (.cells #[.int .i64 n.k, .string n.p, .string n.b, .int .i64 n.m] 29)).alloc (.cells #[] 29)) := hb0.alloc hb0.size _
    go_enter Tryz.func14, Tryz.ntmps14
    go_wp2_with fail
    go_ret2
    exact nv (add_err HE.out (by decide) cE hE) (fun e => by cases e)
  have hd4 : decide ((4096 : Int) < (l.length : Int)) = false := by simp; omega
  have HL : Hid (codeTN l n = if treeOK l && nodeK n then 0 else 1) := by show _ = _; unfold codeTN; rw [if_neg h4]
  obtain ⟨m0, m1, m2, m3⟩ := hIt.nod
  go_enter Tryz.func14, Tryz.ntmps14
  go_wp2_with fail
  refine HC.mono ?_
  rintro e w2 ⟨rfl, hb2⟩
  have c2 := hb0.trans (hb2.mono hb0.size)
  have IT2 := hIt.below hb2
  clear m0 m1 m2 m3
  obtain ⟨m0, m1, m2, m3⟩ := IT2.nod
  cases hk : treeOK l with
  | false =>
    have HE : Hid (codeTN l n = 1) := by show _ = _; rw [HL.out, hk]; rfl
    have hE : (w2.alloc (.cells #[] 29)).ownsRow w.heap.size 29 4 (.slice (some ⟨w2.heap.size, 0, none⟩) 0 0) 0 [] := World.ownsRow_lit w2 #[] 0 c2.size (Nat.zero_le _) rfl
    have cE : Below w.heap.size w (w2.alloc (.cells #[] 29)) := c2.alloc c2.size _
    go_wp2_with fail
    go_ret2
    exact nv (add_err HE.out (by decide) cE hE) (fun e => by cases e)
  | true =>
    have HTR := Lib.hid (tree_of hk)
    have hlen := HTR.out.len
    by_cases hn4 : n.k = 4
    · have HE : Hid (codeTN l n = 1) := by show _ = _; rw [HL.out, hk]; unfold nodeK; simp [hn4]
      have hd : (n.k == 4) = true := by simpa using hn4
      clear hn4
      have hE : (w2.alloc (.cells #[] 29)).ownsRow w.heap.size 29 4 (.slice (some ⟨w2.heap.size, 0, none⟩) 0 0) 0 [] := World.ownsRow_lit w2 #[] 0 c2.size (Nat.zero_le _) rfl
      have cE : Below w.heap.size w (w2.alloc (.cells #[] 29)) := c2.alloc c2.size _
      go_wp2_with fail
      go_ret2
      exact nv (add_err HE.out (by decide) cE hE) (fun e => by cases e)
    have hdk : (n.k == 4) = false := by simpa using hn4
    have HREC := l04Record_any n hno w2
    unfold R.nod R.val at HREC
    rw [hno] at HREC
    have HFI : Hid (n.fault = faultI n.k n.p.data.toList n.b.size n.m false) := by show _ = _; unfold R.fault; rw [hno]
    have H4 := Lib.hid hn4
    clear hn4
    go_wp2_with fail
    refine HREC.mono ?_
    rintro e w3 ⟨rfl, hb3⟩
    have c3 := c2.trans (hb3.mono c2.size)
    have IT3 := IT2.below hb3
    go_wp2_with fail
    refine (l02OK_any n.k n.m n.p n.b false w3).mono ?_
    rintro e w4 ⟨rfl, hb4⟩
    have c4 := c3.trans (hb4.mono c3.size)
    have IT4 := IT3.below hb4
    clear m0 m1 m2 m3
    obtain ⟨m0, m1, m2, m3⟩ := IT4.nod
    rcases Bool.eq_false_or_eq_true (faultI n.k n.p.data.toList n.b.size n.m false == 0) with hf | hf
    case inr =>
      have hf0 : n.fault ≠ 0 := by rw [HFI.out]; simpa using hf
      have HE : Hid (codeTN l n = 1) := by show _ = _; rw [HL.out, hk]; unfold nodeK; simp [hf0]
      rw [hf]
      clear hf hf0
      have hE : (w4.alloc (.cells #[] 29)).ownsRow w.heap.size 29 4 (.slice (some ⟨w4.heap.size, 0, none⟩) 0 0) 0 [] := World.ownsRow_lit w4 #[] 0 c4.size (Nat.zero_le _) rfl
      have cE : Below w.heap.size w (w4.alloc (.cells #[] 29)) := c4.alloc c4.size _
      go_wp2_with fail
      go_ret2
      exact nv (add_err HE.out (by decide) cE hE) (fun e => by cases e)
    have HF0 : Hid (n.fault = 0) := by show _ = _; rw [HFI.out]; simpa using hf
    have HC0 : Hid (codeTN l n = 0) := by show _ = _; rw [HL.out, hk]; unfold nodeK; simp [H4.out, HF0.out]
    have hp := (fault_path HF0.out).1
    have hps : n.p.size ≤ 35 := by rw [Lib.size_eq]; exact pathB_len hp
    have HFN := l04Find_any _ l n.p w4 (hrow.below c4).sl hl HTR.out.is hp
    unfold foundV R.nod at HFN
    rw [hf]
    clear hf
    generalize hF : findT l n.p = F at *
    go_wp2_with fail
    refine HFN.mono ?_
    rintro e w5 ⟨rfl, hb5⟩
    have c5 := c4.trans (hb5.mono c4.size)
    have IT5 := IT4.below hb5
    have hb6 : Below w5.heap.size w5 (w5.alloc (.cells #[.int .i64 F.1.k, .string F.1.p, .string F.1.b, .int .i64 F.1.m] 29)) := (Below.refl _ _).alloc (Nat.le_refl _) _
    have c6 := c5.trans (hb6.mono c5.size)
    have IT6 := IT5.below hb6
    clear m0 m1 m2 m3
    obtain ⟨m0, m1, m2, m3⟩ := IT6.nod
    have hr6 := hrow.below c6
    have hPAR := fun w' => l01Parent_any n.p w' (by unfold maxLen; omega)
    unfold strV at hPAR
    have hsz6 : (w5.alloc (.cells #[.int .i64 F.1.k, .string F.1.p, .string F.1.b, .int .i64 F.1.m] 29)).heap.size = w5.heap.size + 1 := by simp
    go_wp2_with fail
    generalize w5.alloc (.cells #[.int .i64 F.1.k, .string F.1.p, .string F.1.b, .int .i64 F.1.m] 29) = W6 at *
    refine (hPAR _).mono ?_
    rintro e w7 ⟨rfl, rfl⟩
    have HPC : Hid (placeC l n.p = if F.2 = 0 then 18 else if F.2 = 13 then 13 else if parO n.p = ByteArray.empty ∨ (recAt l (parO n.p)).isSome = true then 0 else 12) := by show _ = _; unfold placeC; rw [hF]
    have HCD : Hid (F.2 = 0 ∨ F.2 = 13 ∨ F.2 = 5) := by have := findT_codes l n.p; rw [hF] at this; exact this
    clear hb6 hsz6 IT5 IT4 IT3 IT2
    by_cases h0 : F.2 = 0
    · have HE : Hid (addD l n = 18) := addD_place (by rw [HPC.out, if_pos h0]) (by decide)
      have hd : (F.2 == 0) = true := by simpa using h0
      clear h0
      have hE : (W6.alloc (.cells #[] 29)).ownsRow w.heap.size 29 4 (.slice (some ⟨W6.heap.size, 0, none⟩) 0 0) 0 [] := World.ownsRow_lit W6 #[] 0 c6.size (Nat.zero_le _) rfl
      have cE : Below w.heap.size w (W6.alloc (.cells #[] 29)) := c6.alloc c6.size _
      have hsrc := src_cells (hr6.below ((Below.refl W6.heap.size W6).alloc (Nat.le_refl _) (.cells #[] 29))) 0 l (.inl rfl)
      have hfl := flatN_len l
      have hone := flatN_one l
      have hbz := cE.size
      rw [Nat.zero_mul] at hsrc
      go_wp2_with (first
        | (at_builtin; refine wpList_append_own _ rfl _ _ 23 rfl w.heap.size 29 i0 (.agg #[.int .i64 0, .string ByteArray.empty, .string ByteArray.empty, .int .i64 0]) 4 48 Tryz.underlying23 hi hI0 hI1 hI2 rfl (by decide) _ _ _ rfl hE ⟨g, 0, none⟩ l.length cap (flatN l) rfl hfl hsrc hone (by unfold maxLen; omega) (by omega) hbz ?_; intro v' w9 hown' hgrow9 hnil9; rw [Nat.zero_add, List.nil_append] at hown'; have HPO := Lib.hid (nv (add_stay_at HC0.out HE.out (by decide) HLO.out (cE.grown hgrow9 hbz (fun j hj => (hE.lt j hj).1)) hown') (fun e => by have := (hnil9.1 e).1; cases this)); obtain ⟨vA, vc, rfl⟩ := own_form hown'; clear hown' hgrow9 hnil9))
      go_ret2
      exact HPO.out
    by_cases h13 : F.2 = 13
    · have HE : Hid (addD l n = 13) := addD_place (by rw [HPC.out, if_neg h0, if_pos h13]) (by decide)
      have hd : (F.2 == 0) = false := by simpa using h0
      have hd2 : (F.2 == 13) = true := by simpa using h13
      clear h0 h13
      have hE : (W6.alloc (.cells #[] 29)).ownsRow w.heap.size 29 4 (.slice (some ⟨W6.heap.size, 0, none⟩) 0 0) 0 [] := World.ownsRow_lit W6 #[] 0 c6.size (Nat.zero_le _) rfl
      have cE : Below w.heap.size w (W6.alloc (.cells #[] 29)) := c6.alloc c6.size _
      have hsrc := src_cells (hr6.below ((Below.refl W6.heap.size W6).alloc (Nat.le_refl _) (.cells #[] 29))) 0 l (.inl rfl)
      have hfl := flatN_len l
      have hone := flatN_one l
      have hbz := cE.size
      rw [Nat.zero_mul] at hsrc
      go_wp2_with (first
        | (at_builtin; refine wpList_append_own _ rfl _ _ 23 rfl w.heap.size 29 i0 (.agg #[.int .i64 0, .string ByteArray.empty, .string ByteArray.empty, .int .i64 0]) 4 48 Tryz.underlying23 hi hI0 hI1 hI2 rfl (by decide) _ _ _ rfl hE ⟨g, 0, none⟩ l.length cap (flatN l) rfl hfl hsrc hone (by unfold maxLen; omega) (by omega) hbz ?_; intro v' w9 hown' hgrow9 hnil9; rw [Nat.zero_add, List.nil_append] at hown'; have HPO := Lib.hid (nv (add_stay_at HC0.out HE.out (by decide) HLO.out (cE.grown hgrow9 hbz (fun j hj => (hE.lt j hj).1)) hown') (fun e => by have := (hnil9.1 e).1; cases this)); obtain ⟨vA, vc, rfl⟩ := own_form hown'; clear hown' hgrow9 hnil9))
      go_ret2
      exact HPO.out
    have hF5 : F.2 = 5 := by rcases HCD.out with h | h | h; exact absurd h h0; exact absurd h h13; exact h
    have HPC2 : Hid (placeC l n.p = if parO n.p = ByteArray.empty ∨ (recAt l (parO n.p)).isSome = true then 0 else 12) := by show _ = _; rw [HPC.out, if_neg h0, if_neg h13]
    have hnew : recAt l n.p = none := by
      cases hr : recAt l n.p with
      | none => rfl
      | some r =>
        have := findT_zero.2 (show (recAt l n.p).isSome = true by rw [hr]; rfl)
        rw [hF] at this
        exact absurd this h0
    have hblk : blocked l n.p = false := by
      have := blocked_code hnew
      rw [hF, hF5] at this
      cases hb : blocked l n.p with
      | false => rfl
      | true => rw [hb] at this; simp at this
    have HPUT := l04Put_any (.slice (some ⟨g, 0, none⟩) l.length cap) l n base W6 hr6 hvv.out HTR.out.sorted (fun r hm => by rw [Lib.size_eq]; exact pathB_len (HTR.out.is.path r hm)) hps hno (by omega)
    unfold R.nod at HPUT
    have HAT := l04At_any (.slice (some ⟨g, 0, none⟩) l.length cap) l (parO n.p) W6 hr6.sl hl
    unfold parO at HAT
    have hd : (F.2 == 0) = false := by rw [hF5]; rfl
    have hd2 : (F.2 == 13) = false := by rw [hF5]; rfl
    have HNW := Lib.hid hnew
    have HBK := Lib.hid hblk
    clear h0 h13 hnew hblk hF5
    by_cases hpar : parentL n.p.data.toList = []
    · have hpe : (parentL n.p.data.toList).isEmpty = true := by rw [hpar]; rfl
      have HP0 : Hid (placeC l n.p = 0) := by show _ = _; rw [HPC2.out, if_pos (.inl (parO_empty.2 hpar))]
      by_cases h24 : l.length = 24
      · have HE := Lib.hid (addD_full HP0.out h24)
        have hd24 : ((l.length : Int) == 24) = true := by simp; omega
        clear h24
        have hE : (W6.alloc (.cells #[] 29)).ownsRow w.heap.size 29 4 (.slice (some ⟨W6.heap.size, 0, none⟩) 0 0) 0 [] := World.ownsRow_lit W6 #[] 0 c6.size (Nat.zero_le _) rfl
        have cE : Below w.heap.size w (W6.alloc (.cells #[] 29)) := c6.alloc c6.size _
        have hsrc := src_cells (hr6.below ((Below.refl W6.heap.size W6).alloc (Nat.le_refl _) (.cells #[] 29))) 0 l (.inl rfl)
        have hfl := flatN_len l
        have hone := flatN_one l
        have hbz := cE.size
        rw [Nat.zero_mul] at hsrc
        go_wp2_with (first
          | (at_builtin; refine wpList_append_own _ rfl _ _ 23 rfl w.heap.size 29 i0 (.agg #[.int .i64 0, .string ByteArray.empty, .string ByteArray.empty, .int .i64 0]) 4 48 Tryz.underlying23 hi hI0 hI1 hI2 rfl (by decide) _ _ _ rfl hE ⟨g, 0, none⟩ l.length cap (flatN l) rfl hfl hsrc hone (by unfold maxLen; omega) (by omega) hbz ?_; intro v' w9 hown' hgrow9 hnil9; rw [Nat.zero_add, List.nil_append] at hown'; have HPO := Lib.hid (nv (add_stay_at HC0.out HE.out (by decide) HLO.out (cE.grown hgrow9 hbz (fun j hj => (hE.lt j hj).1)) hown') (fun e => by have := (hnil9.1 e).1; cases this)); obtain ⟨vA, vc, rfl⟩ := own_form hown'; clear hown' hgrow9 hnil9))
        go_ret2
        exact HPO.out
      · have HE := Lib.hid (addD_put HP0.out h24)
        have hd24 : ((l.length : Int) == 24) = false := by simp; omega
        clear h24
        go_wp2_with fail
        refine HPUT.mono ?_
        rintro e w9 ⟨x9, rfl, hb9, hr9, hx9⟩
        have HR := Lib.hid hr9
        have HX9 := Lib.hid hx9
        obtain ⟨xA, xc, rfl⟩ := own_form hr9.2.1
        clear hr9 hx9
        go_wp2_with fail
        go_ret2
        exact nv (add_done HC0.out HE.out (c6.trans (hb9.mono c6.size)) HR.out c6.size) HX9.out
    · have hpe : (parentL n.p.data.toList).isEmpty = false := by simpa using hpar
      rcases atL_recAt l (parO n.p) with ⟨ha, hn2⟩ | ⟨j, hj, ha, hn2⟩
      · have HE : Hid (addD l n = 12) := addD_place (by rw [HPC2.out, if_neg]; rintro (h | h); exact hpar (parO_empty.1 h); rw [hn2] at h; cases h) (by decide)
        have ha' : atL l ⟨(parentL n.p.data.toList).toArray⟩ = -1 := ha
        rw [ha'] at HAT
        clear ha ha' hn2
        go_wp2_with fail
        refine HAT.mono ?_
        rintro e w8 ⟨rfl, rfl⟩
        have hE : (W6.alloc (.cells #[] 29)).ownsRow w.heap.size 29 4 (.slice (some ⟨W6.heap.size, 0, none⟩) 0 0) 0 [] := World.ownsRow_lit W6 #[] 0 c6.size (Nat.zero_le _) rfl
        have cE : Below w.heap.size w (W6.alloc (.cells #[] 29)) := c6.alloc c6.size _
        have hsrc := src_cells (hr6.below ((Below.refl W6.heap.size W6).alloc (Nat.le_refl _) (.cells #[] 29))) 0 l (.inl rfl)
        have hfl := flatN_len l
        have hone := flatN_one l
        have hbz := cE.size
        rw [Nat.zero_mul] at hsrc
        go_wp2_with (first
          | (at_builtin; refine wpList_append_own _ rfl _ _ 23 rfl w.heap.size 29 i0 (.agg #[.int .i64 0, .string ByteArray.empty, .string ByteArray.empty, .int .i64 0]) 4 48 Tryz.underlying23 hi hI0 hI1 hI2 rfl (by decide) _ _ _ rfl hE ⟨g, 0, none⟩ l.length cap (flatN l) rfl hfl hsrc hone (by unfold maxLen; omega) (by omega) hbz ?_; intro v' w9 hown' hgrow9 hnil9; rw [Nat.zero_add, List.nil_append] at hown'; have HPO := Lib.hid (nv (add_stay_at HC0.out HE.out (by decide) HLO.out (cE.grown hgrow9 hbz (fun j hj => (hE.lt j hj).1)) hown') (fun e => by have := (hnil9.1 e).1; cases this)); obtain ⟨vA, vc, rfl⟩ := own_form hown'; clear hown' hgrow9 hnil9))
        go_ret2
        exact HPO.out
      · have HP0 : Hid (placeC l n.p = 0) := by show _ = _; rw [HPC2.out, if_pos (.inr (by rw [hn2]; rfl))]
        have hj3 : l[j].k = 3 := by
          by_cases h3 : l[j].k = 3
          · exact h3
          · have : blocked l n.p = true := blocked_iff.2 ⟨parO n.p, by rw [ups_step hp, if_neg hpar]; exact List.mem_cons_self .., l[j], hn2, h3⟩
            rw [HBK.out] at this; cases this
        have ha' : atL l ⟨(parentL n.p.data.toList).toArray⟩ = (j : Int) := ha
        rw [ha'] at HAT
        obtain ⟨f0, _, _, _⟩ := hr6.cells hj
        rw [hj3] at f0
        have j1 : (0 : Int) ≤ (j : Int) := by omega
        have j2 : (j : Int) < (l.length : Int) := by omega
        have j3 : decide ((j : Int) < 0) = false := by simp
        clear ha ha' hn2 hj3
        go_wp2_with fail
        refine HAT.mono ?_
        rintro e w8 ⟨rfl, rfl⟩
        go_wp2_with fail
        refine HAT.mono ?_
        rintro e w8 ⟨rfl, rfl⟩
        by_cases h24 : l.length = 24
        · have HE := Lib.hid (addD_full HP0.out h24)
          have hd24 : ((l.length : Int) == 24) = true := by simp; omega
          clear h24
          have hE : (W6.alloc (.cells #[] 29)).ownsRow w.heap.size 29 4 (.slice (some ⟨W6.heap.size, 0, none⟩) 0 0) 0 [] := World.ownsRow_lit W6 #[] 0 c6.size (Nat.zero_le _) rfl
          have cE : Below w.heap.size w (W6.alloc (.cells #[] 29)) := c6.alloc c6.size _
          have hsrc := src_cells (hr6.below ((Below.refl W6.heap.size W6).alloc (Nat.le_refl _) (.cells #[] 29))) 0 l (.inl rfl)
          have hfl := flatN_len l
          have hone := flatN_one l
          have hbz := cE.size
          rw [Nat.zero_mul] at hsrc
          go_wp2_with (first
            | (at_builtin; refine wpList_append_own _ rfl _ _ 23 rfl w.heap.size 29 i0 (.agg #[.int .i64 0, .string ByteArray.empty, .string ByteArray.empty, .int .i64 0]) 4 48 Tryz.underlying23 hi hI0 hI1 hI2 rfl (by decide) _ _ _ rfl hE ⟨g, 0, none⟩ l.length cap (flatN l) rfl hfl hsrc hone (by unfold maxLen; omega) (by omega) hbz ?_; intro v' w9 hown' hgrow9 hnil9; rw [Nat.zero_add, List.nil_append] at hown'; have HPO := Lib.hid (nv (add_stay_at HC0.out HE.out (by decide) HLO.out (cE.grown hgrow9 hbz (fun j hj => (hE.lt j hj).1)) hown') (fun e => by have := (hnil9.1 e).1; cases this)); obtain ⟨vA, vc, rfl⟩ := own_form hown'; clear hown' hgrow9 hnil9))
          go_ret2
          exact HPO.out
        · have HE := Lib.hid (addD_put HP0.out h24)
          have hd24 : ((l.length : Int) == 24) = false := by simp; omega
          clear h24
          go_wp2_with fail
          refine HPUT.mono ?_
          rintro e w9 ⟨x9, rfl, hb9, hr9, hx9⟩
          have HR := Lib.hid hr9
          have HX9 := Lib.hid hx9
          obtain ⟨xA, xc, rfl⟩ := own_form hr9.2.1
          clear hr9 hx9
          go_wp2_with fail
          go_ret2
          exact nv (add_done HC0.out HE.out (c6.trans (hb9.mono c6.size)) HR.out c6.size) HX9.out
set_option maxHeartbeats 6400000 in
theorem addNode_impl (v : Value) (l : List R) (n : R) (hno : n.o = false) (x y : Addr) (w : World) (h : NodSl w v l) (hl : l.length ≤ 1048576) (hr : ∀ r ∈ l, r.p.size ≤ maxLen) (hnp : n.p.size ≤ maxLen) (hT : Three w x y) :
    Calls Tryz.prog 13 #[v, n.nod] w (AddPost l n w) := by
  have hb0 : Below w.heap.size w (w.alloc (.cells #[.int .i64 n.k, .string n.p, .string n.b, .int .i64 n.m] 29)) := (Below.refl _ _).alloc (Nat.le_refl _) _
  have hIt : Item (w.alloc (.cells #[.int .i64 n.k, .string n.p, .string n.b, .int .i64 n.m] 29)) w.heap.size n := Item.new w n
  have HG := growTree_any v l x y _ (h.below hb0) hl hr (hT.below hb0 (Nat.le_refl _))
  obtain ⟨ho, sA, cap, rfl, hcap, h⟩ := h
  clear h
  unfold R.nod
  go_enter Tryz.func13, Tryz.ntmps13
  go_wp2_with fail
  refine HG.mono ?_
  rintro e w1 ⟨hb1, HK⟩
  have c1 := hb0.trans (hb1.mono hb0.size)
  have hT1 := hT.below c1 (Nat.le_refl _)
  have IT1 := hIt.below hb1
  obtain ⟨m0, m1, m2, m3⟩ := IT1.nod
  have HXA := checkNode_any n hno hnp x y w1 hT1
  rw [nodeE_val n x y] at HXA
  unfold R.nod at HXA
  rcases HK with ⟨hk, rfl⟩ | ⟨hk, A, S, rfl, hTr⟩
  · cases hg : growK l with
    | fine => exact absurd hg hk
    | long =>
      cases ht : nodeE n with
      | fine =>
        have HE : Hid (codeTN l n = 2) := by show _ = _; rw [← arg_tn, hg, ht]; rfl
        unfold EN.val
        unfold errV
        rw [ht] at HXA
        unfold EN.val at HXA
        unfold errV at HXA
        go_wp2_with fail
        refine HXA.mono ?_
        rintro e w2 ⟨rfl, hb2⟩
        have c2 := c1.trans (hb2.mono c1.size)
        have IT2 := IT1.below hb2
        have HA := argN2_any .long .fine x y w2 (hT.below c2 (Nat.le_refl _))
        unfold EN.val at HA
        unfold errV at HA
        clear m0 m1 m2 m3
        go_wp2_with fail
        refine HA.mono ?_
        rintro e w3 ⟨rfl, hb3⟩
        have c3 := c2.trans (hb3.mono c2.size)
        have IT3 := IT2.below hb3
        have hcode : enFrom [.long, .fine] 0 = 2 := rfl
        rw [hcode]
        go_wp2_with fail
        go_ret2
        exact add_err HE.out (by decide) c3 (World.ownsRow_nil _ _ _ _)
      | inv =>
        have HE : Hid (codeTN l n = 2) := by show _ = _; rw [← arg_tn, hg, ht]; rfl
        unfold EN.val
        unfold errV
        rw [ht] at HXA
        unfold EN.val at HXA
        unfold errV at HXA
        go_wp2_with fail
        refine HXA.mono ?_
        rintro e w2 ⟨rfl, hb2⟩
        have c2 := c1.trans (hb2.mono c1.size)
        have IT2 := IT1.below hb2
        have HA := argN2_any .long .inv x y w2 (hT.below c2 (Nat.le_refl _))
        unfold EN.val at HA
        unfold errV at HA
        clear m0 m1 m2 m3
        go_wp2_with fail
        refine HA.mono ?_
        rintro e w3 ⟨rfl, hb3⟩
        have c3 := c2.trans (hb3.mono c2.size)
        have IT3 := IT2.below hb3
        have hcode : enFrom [.long, .inv] 0 = 2 := rfl
        rw [hcode]
        go_wp2_with fail
        go_ret2
        exact add_err HE.out (by decide) c3 (World.ownsRow_nil _ _ _ _)
      | long => exact absurd ht nodeE_not
    | inv =>
      cases ht : nodeE n with
      | fine =>
        have HE : Hid (codeTN l n = 1) := by show _ = _; rw [← arg_tn, hg, ht]; rfl
        unfold EN.val
        unfold errV
        rw [ht] at HXA
        unfold EN.val at HXA
        unfold errV at HXA
        go_wp2_with fail
        refine HXA.mono ?_
        rintro e w2 ⟨rfl, hb2⟩
        have c2 := c1.trans (hb2.mono c1.size)
        have IT2 := IT1.below hb2
        have HA := argN2_any .inv .fine x y w2 (hT.below c2 (Nat.le_refl _))
        unfold EN.val at HA
        unfold errV at HA
        clear m0 m1 m2 m3
        go_wp2_with fail
        refine HA.mono ?_
        rintro e w3 ⟨rfl, hb3⟩
        have c3 := c2.trans (hb3.mono c2.size)
        have IT3 := IT2.below hb3
        have hcode : enFrom [.inv, .fine] 0 = 1 := rfl
        rw [hcode]
        go_wp2_with fail
        go_ret2
        exact add_err HE.out (by decide) c3 (World.ownsRow_nil _ _ _ _)
      | inv =>
        have HE : Hid (codeTN l n = 1) := by show _ = _; rw [← arg_tn, hg, ht]; rfl
        unfold EN.val
        unfold errV
        rw [ht] at HXA
        unfold EN.val at HXA
        unfold errV at HXA
        go_wp2_with fail
        refine HXA.mono ?_
        rintro e w2 ⟨rfl, hb2⟩
        have c2 := c1.trans (hb2.mono c1.size)
        have IT2 := IT1.below hb2
        have HA := argN2_any .inv .inv x y w2 (hT.below c2 (Nat.le_refl _))
        unfold EN.val at HA
        unfold errV at HA
        clear m0 m1 m2 m3
        go_wp2_with fail
        refine HA.mono ?_
        rintro e w3 ⟨rfl, hb3⟩
        have c3 := c2.trans (hb3.mono c2.size)
        have IT3 := IT2.below hb3
        have hcode : enFrom [.inv, .inv] 0 = 1 := rfl
        rw [hcode]
        go_wp2_with fail
        go_ret2
        exact add_err HE.out (by decide) c3 (World.ownsRow_nil _ _ _ _)
      | long => exact absurd ht nodeE_not
  · have hg := hk
    unfold ptr
    cases ht : nodeE n with
    | inv =>
      have HE : Hid (codeTN l n = 1) := by show _ = _; rw [← arg_tn, hg, ht]; rfl
      rw [ht] at HXA
      unfold EN.val at HXA
      unfold errV at HXA
      go_wp2_with fail
      refine HXA.mono ?_
      rintro e w2 ⟨rfl, hb2⟩
      have c2 := c1.trans (hb2.mono c1.size)
      have IT2 := IT1.below hb2
      have HA := argN2_any .fine .inv x y w2 (hT.below c2 (Nat.le_refl _))
      unfold EN.val at HA
      unfold errV at HA
      clear m0 m1 m2 m3
      go_wp2_with fail
      refine HA.mono ?_
      rintro e w3 ⟨rfl, hb3⟩
      have c3 := c2.trans (hb3.mono c2.size)
      have IT3 := IT2.below hb3
      have hcode : enFrom [.fine, .inv] 0 = 1 := rfl
      rw [hcode]
      go_wp2_with fail
      go_ret2
      exact add_err HE.out (by decide) c3 (World.ownsRow_nil _ _ _ _)
    | long => exact absurd ht nodeE_not
    | fine =>
      have HC0 := Lib.hid (show codeTN l n = 0 by rw [← arg_tn, hg, ht]; rfl)
      rw [ht] at HXA
      unfold EN.val at HXA
      unfold errV at HXA
      go_wp2_with fail
      refine HXA.mono ?_
      rintro e w2 ⟨rfl, hb2⟩
      have c2 := c1.trans (hb2.mono c1.size)
      have IT2 := IT1.below hb2
      have HA := argN2_any .fine .fine x y w2 (hT.below c2 (Nat.le_refl _))
      unfold EN.val at HA
      unfold errV at HA
      clear m0 m1 m2 m3
      go_wp2_with fail
      refine HA.mono ?_
      rintro e w3 ⟨rfl, hb3⟩
      have c3 := c2.trans (hb3.mono c2.size)
      have IT3 := IT2.below hb3
      have hcode : enFrom [.fine, .fine] 0 = 0 := rfl
      rw [hcode]
      have hTr3 := (hTr.below hb2).below hb3
      obtain ⟨htree, hk4, hf0⟩ := codeTN_zero HC0.out
      have hl24 := htree.len
      have hp := (fault_path hf0).1
      have HTR := Lib.hid htree
      have H4 := Lib.hid hk4
      have HF0 := Lib.hid hf0
      obtain ⟨m0, m1, m2, m3⟩ := IT3.nod
      have HPL := placeFor_any hTr3 htree.is (by omega) n.p hnp hp
      unfold ptr placeV at HPL
      clear htree hk4 hf0
      by_cases hpc : placeC l n.p = 0
      · obtain ⟨xr, hxm, hxp⟩ := (place_home hp hpc).1
        have hnew := (place_ok hpc).1
        rw [hpc, if_pos rfl] at HPL
        by_cases h24 : l.length = 24
        · have HE := Lib.hid (addD_full hpc h24)
          have hd : ((l.length : Int) == 24) = true := by simp; omega
          clear hpc h24
          go_wp2_with fail
          refine HPL.mono ?_
          rintro e w4 ⟨rfl, hb4⟩
          have c4 := c3.trans (hb4.mono c3.size)
          have HN := nodes_any (hTr3.below hb4) HTR.out.is (by omega) ho
          unfold ptr at HN
          go_wp2_with fail
          refine HN.mono ?_
          rintro e w5 ⟨x5, rfl, hb5, hr5⟩
          have HR := Lib.hid hr5
          obtain ⟨xA, xc, rfl⟩ := own_form hr5.2.1
          clear hr5
          go_wp2_with fail
          go_ret2
          exact add_stay HC0.out HE.out (by decide) ho (c4.trans (hb5.mono c4.size)) HR.out.2.1 c4.size
        · have HE := Lib.hid (addD_put hpc h24)
          have hd : ((l.length : Int) == 24) = false := by simp; omega
          have hput := put_tree HTR.out H4.out HF0.out hnew (place_home hp hpc).2 (by omega)
          have HPT := Lib.hid hput
          clear hpc h24 hput
          go_wp2_with fail
          refine HPL.mono ?_
          rintro e w4 ⟨rfl, hb4⟩
          have c4 := c3.trans (hb4.mono c3.size)
          have IT4 := IT3.below hb4
          clear m0 m1 m2 m3
          obtain ⟨m0, m1, m2, m3⟩ := IT4.nod
          have HAT := attach_any (hTr3.below hb4) HTR.out.is (by omega) hp hnp hxm hxp hnew
          rw [hxp] at HAT
          unfold ptr R.nod at HAT
          go_wp2_with fail
          refine HAT.mono ?_
          rintro e w5 ⟨⟨v5, rfl⟩, A', S', hTr5, hb5, hA5⟩
          have c5 := c4.trans (hb5.mono hb0.size)
          have HN := nodes_any hTr5 HPT.out.is (Nat.le_trans HPT.out.len (by decide)) (fun r hm => by
            rcases mem_put.1 hm with rfl | ⟨h1, _⟩
            · exact hno
            · exact ho r h1)
          rw [hA5] at HN
          unfold ptr at HN
          go_wp2_with fail
          refine HN.mono ?_
          rintro e w6 ⟨x6, rfl, hb6, hr6⟩
          have HR := Lib.hid hr6
          obtain ⟨xA, xc, rfl⟩ := own_form hr6.2.1
          clear hr6
          go_wp2_with fail
          go_ret2
          exact add_done HC0.out HE.out (c5.trans (hb6.mono c5.size)) HR.out c5.size
      · have HE := Lib.hid (addD_place (n := n) rfl hpc)
        have H0 := Lib.hid hpc
        have hd : (placeC l n.p == 0) = false := by simpa using hpc
        rw [if_neg hpc] at HPL
        generalize placeC l n.p = c at *
        clear hpc
        go_wp2_with fail
        refine HPL.mono ?_
        rintro e w4 ⟨rfl, hb4⟩
        have c4 := c3.trans (hb4.mono c3.size)
        have HN := nodes_any (hTr3.below hb4) HTR.out.is (by omega) ho
        unfold ptr at HN
        go_wp2_with fail
        refine HN.mono ?_
        rintro e w5 ⟨x5, rfl, hb5, hr5⟩
        have HR := Lib.hid hr5
        obtain ⟨xA, xc, rfl⟩ := own_form hr5.2.1
        clear hr5
        go_wp2_with fail
        go_ret2
        exact add_stay HC0.out HE.out H0.out ho (c4.trans (hb5.mono c4.size)) HR.out.2.1 c4.size
end Go.Proofs.YtcbmnihepeefaaaGreatDoor.Recs
