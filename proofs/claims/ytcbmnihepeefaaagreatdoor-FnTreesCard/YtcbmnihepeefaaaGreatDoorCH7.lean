/- Parts of several texts of mine in one file (each begins with its own remark). -/
import Derived.Test.YtcbmnihepeefaaaGreatDoorCA1
import Derived.Test.YtcbmnihepeefaaaGreatDoorCA10
import Derived.Test.YtcbmnihepeefaaaGreatDoorCA2
import Derived.Test.YtcbmnihepeefaaaGreatDoorCA3
import Derived.Test.YtcbmnihepeefaaaGreatDoorCA4
import Derived.Test.YtcbmnihepeefaaaGreatDoorCA5
import Derived.Test.YtcbmnihepeefaaaGreatDoorCA6
import Derived.Test.YtcbmnihepeefaaaGreatDoorCA7
import Derived.Test.YtcbmnihepeefaaaGreatDoorCA8
import Derived.Test.YtcbmnihepeefaaaGreatDoorCA9
import Derived.Test.YtcbmnihepeefaaaGreatDoorCB1
import Derived.Test.YtcbmnihepeefaaaGreatDoorCB11
import Derived.Test.YtcbmnihepeefaaaGreatDoorCB12
import Derived.Test.YtcbmnihepeefaaaGreatDoorCB5
import Derived.Test.YtcbmnihepeefaaaGreatDoorCB9
import Derived.Test.YtcbmnihepeefaaaGreatDoorCH1
import Derived.Test.YtcbmnihepeefaaaGreatDoorCH2
import Derived.Test.YtcbmnihepeefaaaGreatDoorCH3
import Derived.Test.YtcbmnihepeefaaaGreatDoorCH6
import Derived.Test.YtcbmnihepeefaaaGreatDoorChecked
import Derived.Test.YtcbmnihepeefaaaGreatDoorShelf
import Derived.Test.YtcbmnihepeefaaaGreatDoorProg
import Derived.Test.YtcbmnihepeefaaaGreatDoorRows
import Derived.Deep.RegionWith
import Derived.StillTailTactics
import Derived.Laws.OwnMore
import Derived.BigQuiet
import Derived.BigRegion
import Derived.Deep.QuietTactic
import Derived.Deep.RegionHeld3
import Derived.Deep.Slices
import Derived.OpenShut
import Derived.ShutString
import Derived.ChangeArms
import Derived.WideShapes
import Derived.Lib.LaidTab
import Derived.Deep.Draws
import Derived.Deep.LoopGhost
import Derived.WalkKit
import Derived.WalkSpells
import Derived.WalkSmall
import Derived.Lib.OthersKept
import Derived.Lib.Hide
import Derived.Lib.Strings
import Derived.Lib.Join
import Derived.Laws.BytesArg
import Derived.Stop.LaidErr
import Derived.WalkLawsBesides
import Derived.LaidEql
import Derived.Stop.Asserts
import Derived.Below
import Derived.Stop.LaidTwo
import Derived.OneCell
import Derived.Lib.SliceRun
import Derived.Lib.Overlaps
import Derived.Lib.AppendZerosOnto
import Derived.Laws.NewBlocks
import Derived.Laws.IdiomCopy
import Derived.Deep.RegionLaw
import Derived.ChangeVars
import Derived.Deep.DeepHandedRow
import Derived.Deep.AppendLies
import Derived.Laws.EntriesVeiled
/- Trees: RemoveNode, of the program and of its model. Conditions (of the program's): the table of kinds, the two sentinels. -/
namespace Go.Proofs.YtcbmnihepeefaaaGreatDoor.Recs
set_option maxRecDepth 100000
open Go.RowKit Paths Errs

def rmC (l : List R) (q : ByteArray) : Int := if codeTT l q ≠ 0 then codeTT l q else remC l q
def remR (l : List R) (q : ByteArray) : List R := if codeTT l q ≠ 0 then [] else if remC l q = 0 then withoutL l q true else l
def RmPost (l : List R) (q : ByteArray) (w : World) (e : Ending) (w' : World) : Prop :=
  ∃ x, e = .returned (.tuple #[x, .int .i64 (rmC l q)]) ∧ Below w.heap.size w w' ∧ RowN w' w.heap.size x (remR l q).length (remR l q)
theorem rem_len (l : List R) (q : ByteArray) (hl : l.length ≤ 1048576) : (remR l q).length ≤ 1048576 := by
  unfold remR
  split
  · simp
  · split
    · exact Nat.le_trans (without_len _ _ _) hl
    · exact hl
theorem rm_err {l : List R} {q : ByteArray} {c : Int} (h : codeTT l q = c) (hc : c ≠ 0) {w w' : World} {x : Value} (hb : Below w.heap.size w w') (ho : w'.ownsRow w.heap.size 29 4 x 0 []) : RmPost l q w (.returned (.tuple #[x, .int .i64 c])) w' := by
  have e1 : rmC l q = c := by unfold rmC; rw [h, if_pos hc]
  have e2 : remR l q = [] := by unfold remR; rw [h, if_pos hc]
  refine ⟨x, by rw [e1], hb, ?_⟩
  rw [e2]
  exact ⟨rfl, ho, fun r hr => by cases hr⟩
theorem rm_stay {l : List R} {q : ByteArray} {c : Int} (h : codeTT l q = 0) (hr : remC l q = c) (hc : c ≠ 0) (hlo : ∀ r ∈ l, r.o = false) {w w' : World} {base : Nat} {x : Value} (hb : Below w.heap.size w w') (ho : w'.ownsRow base 29 4 x l.length (flatN l)) (hle : w.heap.size ≤ base) : RmPost l q w (.returned (.tuple #[x, .int .i64 c])) w' := by
  have e1 : rmC l q = c := by unfold rmC; rw [if_neg (by simpa using h), hr]
  have e2 : remR l q = l := by unfold remR; rw [if_neg (by simpa using h), if_neg (by rw [hr]; exact hc)]
  refine ⟨x, by rw [e1], hb, ?_⟩
  rw [e2]
  exact ⟨rfl, own_down ho hle, hlo⟩
theorem rm_stay_at {l : List R} {q : ByteArray} {c : Int} (h : codeTT l q = 0) (hr : remC l q = c) (hc : c ≠ 0) (hlo : ∀ r ∈ l, r.o = false) {w w' : World} {x : Value} (hb : Below w.heap.size w w') (ho : w'.ownsRow w.heap.size 29 4 x l.length (flatN l)) : RmPost l q w (.returned (.tuple #[x, .int .i64 c])) w' := rm_stay h hr hc hlo hb ho (Nat.le_refl _)
theorem rm_done {l : List R} {q : ByteArray} (h : codeTT l q = 0) (hr : remC l q = 0) {w w' : World} {base : Nat} {x : Value} (hb : Below w.heap.size w w') (ho : RowN w' base x (withoutL l q true).length (withoutL l q true)) (hle : w.heap.size ≤ base) : RmPost l q w (.returned (.tuple #[x, .int .i64 0])) w' := by
  have e1 : rmC l q = 0 := by unfold rmC; rw [if_neg (by simpa using h), hr]
  have e2 : remR l q = withoutL l q true := by unfold remR; rw [if_neg (by simpa using h), if_pos hr]
  refine ⟨x, by rw [e1], hb, ?_⟩
  rw [e2]
  exact ⟨ho.1, own_down ho.2.1 hle, ho.2.2⟩
theorem remC_name {l : List R} {q : ByteArray} (h : pathB q.data.toList = false) : remC l q = 10 := by unfold remC; rw [h]; rfl
theorem remC_find {l : List R} {q : ByteArray} (h : pathB q.data.toList = true) : remC l q = (findT l q).2 := by unfold remC; rw [h, if_pos rfl]

set_option maxHeartbeats 3200000 in
theorem removeNode_spec (v : Value) (l : List R) (q : ByteArray) (base : Nat) (w : World) (hrow : RowN w base v l.length l) (hv : v ≠ .slice none 0 0) (hl : l.length ≤ 1048576) :
    Calls Tryz.prog 24 #[v, .string q] w (RmPost l q w) := by
  obtain ⟨i0, hi, hI0, hI1, hI2⟩ := info_parts nodInfo
  have hsl := hrow.sl
  have HC := l04Ask_any v l q w hsl hl
  obtain ⟨g, cap, rfl, hcap, hcm, hgb, hgl⟩ := notnil hrow hv
  have HLO := Lib.hid hrow.2.2
  clear hv
  by_cases h4 : 4096 < l.length
  · have HE := Lib.hid (show codeTT l q = 2 by unfold codeTT; rw [if_pos (.inl h4)])
    have hd : decide ((4096 : Int) < (l.length : Int)) = true := by simp; omega
    have c0 := Below.refl w.heap.size w
    go_enter Tryz.func24, Tryz.ntmps24
    have hE : (w.alloc (.cells #[] 29)).ownsRow w.heap.size 29 4 (.slice (some ⟨w.heap.size, 0, none⟩) 0 0) 0 [] := World.ownsRow_lit w #[] 0 c0.size (Nat.zero_le _) rfl
    have cE : Below w.heap.size w (w.alloc (.cells #[] 29)) := c0.alloc c0.size _
    go_wp2_with fail
    go_ret2
    exact rm_err HE.out (by decide) cE hE
  have hd4 : decide ((4096 : Int) < (l.length : Int)) = false := by simp; omega
  by_cases h5 : 65536 < q.size
  · have HE := Lib.hid (show codeTT l q = 2 by unfold codeTT; rw [if_pos (.inr h5)])
    have hd : decide ((65536 : Int) < (q.size : Int)) = true := by simp; omega
    have c0 := Below.refl w.heap.size w
    go_enter Tryz.func24, Tryz.ntmps24
    have hE : (w.alloc (.cells #[] 29)).ownsRow w.heap.size 29 4 (.slice (some ⟨w.heap.size, 0, none⟩) 0 0) 0 [] := World.ownsRow_lit w #[] 0 c0.size (Nat.zero_le _) rfl
    have cE : Below w.heap.size w (w.alloc (.cells #[] 29)) := c0.alloc c0.size _
    go_wp2_with fail
    go_ret2
    exact rm_err HE.out (by decide) cE hE
  have hd5 : decide ((65536 : Int) < (q.size : Int)) = false := by simp; omega
  go_enter Tryz.func24, Tryz.ntmps24
  go_wp2_with fail
  refine HC.mono ?_
  rintro e w1 ⟨rfl, hb1⟩
  by_cases h0 : codeTT l q = 0
  case neg =>
    have hd : (codeTT l q != 0) = true := by simpa using h0
    generalize hcc : codeTT l q = c at *
    have HE := Lib.hid hcc
    have H0 := Lib.hid h0
    clear h0 hcc
    have hE : (w1.alloc (.cells #[] 29)).ownsRow w.heap.size 29 4 (.slice (some ⟨w1.heap.size, 0, none⟩) 0 0) 0 [] := World.ownsRow_lit w1 #[] 0 hb1.size (Nat.zero_le _) rfl
    have cE : Below w.heap.size w (w1.alloc (.cells #[] 29)) := hb1.alloc hb1.size _
    go_wp2_with fail
    go_ret2
    exact rm_err HE.out H0.out cE hE
  have HT := Lib.hid (code_tree h0)
  have hlen := HT.out.len
  have H0 := Lib.hid h0
  have HP := l01OK_any q w1
  rw [h0]
  clear h0
  cases hp : pathB q.data.toList with
  | false =>
    have HE := Lib.hid (remC_name (l := l) hp)
    rw [hp] at HP
    go_wp2_with fail
    refine HP.mono ?_
    rintro e w2 ⟨rfl, hb2⟩
    have c2 := hb1.trans (hb2.mono hb1.size)
    have hr2 := hrow.below c2
    have hE : (w2.alloc (.cells #[] 29)).ownsRow w.heap.size 29 4 (.slice (some ⟨w2.heap.size, 0, none⟩) 0 0) 0 [] := World.ownsRow_lit w2 #[] 0 c2.size (Nat.zero_le _) rfl
    have cE : Below w.heap.size w (w2.alloc (.cells #[] 29)) := c2.alloc c2.size _
    have hsrc := src_cells (hr2.below ((Below.refl w2.heap.size w2).alloc (Nat.le_refl _) (.cells #[] 29))) 0 l (.inl rfl)
    have hfl := flatN_len l
    have hone := flatN_one l
    have hbz := cE.size
    rw [Nat.zero_mul] at hsrc
    go_wp2_with (first
      | (at_builtin; refine wpList_append_own _ rfl _ _ 23 rfl w.heap.size 29 i0 (.agg #[.int .i64 0, .string ByteArray.empty, .string ByteArray.empty, .int .i64 0]) 4 48 Tryz.underlying23 hi hI0 hI1 hI2 rfl (by decide) _ _ _ rfl hE ⟨g, 0, none⟩ l.length cap (flatN l) rfl hfl hsrc hone (by unfold maxLen; omega) (by omega) hbz ?_; intro v' w9 hown' hgrow9 hnil9; rw [Nat.zero_add, List.nil_append] at hown'; have HPO := Lib.hid (rm_stay_at H0.out HE.out (by decide) HLO.out (cE.grown hgrow9 hbz (fun j hj => (hE.lt j hj).1)) hown'); obtain ⟨vA, vc, rfl⟩ := own_form hown'; clear hown' hgrow9 hnil9))
    go_ret2
    exact HPO.out
  | true =>
    have HRC := Lib.hid (remC_find (l := l) hp)
    rw [hp] at HP
    go_wp2_with fail
    refine HP.mono ?_
    rintro e w2 ⟨rfl, hb2⟩
    have c2 := hb1.trans (hb2.mono hb1.size)
    have HFI := l04Find_any _ l q w2 (hsl.below c2) hl HT.out.is hp
    unfold foundV R.nod at HFI
    generalize hF : findT l q = F at *
    go_wp2_with fail
    refine HFI.mono ?_
    rintro e w3 ⟨rfl, hb3⟩
    have c3 := c2.trans (hb3.mono c2.size)
    have c4 : Below w.heap.size w (w3.alloc (.cells #[.int .i64 F.1.k, .string F.1.p, .string F.1.b, .int .i64 F.1.m] 29)) := c3.alloc c3.size _
    have hsz4 : (w3.alloc (.cells #[.int .i64 F.1.k, .string F.1.p, .string F.1.b, .int .i64 F.1.m] 29)).heap.size = w3.heap.size + 1 := by simp
    have hr4 := hrow.below c4
    by_cases h2 : F.2 = 0
    · have HE : Hid (remC l q = 0) := by show _ = _; rw [HRC.out, h2]
      have hd : (F.2 != 0) = false := by simpa using h2
      have HWI := l04Without_any _ l q true _ hr4.sl (by omega) HT.out.is.path hp
      clear h2
      go_wp2_with fail
      refine HWI.mono ?_
      rintro e w5 ⟨x, rfl, hb5, hr5, -⟩
      have HR := Lib.hid hr5
      obtain ⟨xA, xc, rfl⟩ := own_form hr5.2.1
      clear hr5
      go_wp2_with fail
      go_ret2
      exact rm_done H0.out HE.out (c4.trans (hb5.mono c4.size)) HR.out c4.size
    · have HE := HRC
      have H2 := Lib.hid h2
      have hd : (F.2 != 0) = true := by simpa using h2
      clear h2 hsz4
      have hE : ((w3.alloc (.cells #[.int .i64 F.1.k, .string F.1.p, .string F.1.b, .int .i64 F.1.m] 29)).alloc (.cells #[] 29)).ownsRow w.heap.size 29 4 (.slice (some ⟨w3.heap.size + 1, 0, none⟩) 0 0) 0 [] := by have := World.ownsRow_lit (w3.alloc (.cells #[.int .i64 F.1.k, .string F.1.p, .string F.1.b, .int .i64 F.1.m] 29)) (e := 29) (size := 4) (base := w.heap.size) #[] 0 c4.size (Nat.zero_le _) rfl; rw [World.size_alloc] at this; exact this
      have cE : Below w.heap.size w ((w3.alloc (.cells #[.int .i64 F.1.k, .string F.1.p, .string F.1.b, .int .i64 F.1.m] 29)).alloc (.cells #[] 29)) := c4.alloc c4.size _
      have hsrc := src_cells (hr4.below ((Below.refl (w3.alloc (.cells #[.int .i64 F.1.k, .string F.1.p, .string F.1.b, .int .i64 F.1.m] 29)).heap.size (w3.alloc (.cells #[.int .i64 F.1.k, .string F.1.p, .string F.1.b, .int .i64 F.1.m] 29))).alloc (Nat.le_refl _) (.cells #[] 29))) 0 l (.inl rfl)
      have hfl := flatN_len l
      have hone := flatN_one l
      have hbz := cE.size
      rw [Nat.zero_mul] at hsrc
      go_wp2_with (first
        | (at_builtin; refine wpList_append_own _ rfl _ _ 23 rfl w.heap.size 29 i0 (.agg #[.int .i64 0, .string ByteArray.empty, .string ByteArray.empty, .int .i64 0]) 4 48 Tryz.underlying23 hi hI0 hI1 hI2 rfl (by decide) _ _ _ rfl hE ⟨g, 0, none⟩ l.length cap (flatN l) rfl hfl hsrc hone (by unfold maxLen; omega) (by omega) hbz ?_; intro v' w9 hown' hgrow9 hnil9; rw [Nat.zero_add, List.nil_append] at hown'; have HPO := Lib.hid (rm_stay_at H0.out HE.out H2.out HLO.out (cE.grown hgrow9 hbz (fun j hj => (hE.lt j hj).1)) hown'); obtain ⟨vA, vc, rfl⟩ := own_form hown'; clear hown' hgrow9 hnil9))
      go_ret2
      exact HPO.out

set_option maxHeartbeats 3200000 in
theorem removeNode_impl (v : Value) (l : List R) (q : ByteArray) (x y : Addr) (w : World) (h : NodSl w v l) (hl : l.length ≤ 1048576) (hr : ∀ r ∈ l, r.p.size ≤ maxLen) (hqm : q.size ≤ maxLen) (hT : Three w x y) :
    Calls Tryz.prog 23 #[v, .string q] w (RmPost l q w) := by
  have HG := growTree_any v l x y w h hl hr hT
  obtain ⟨ho, sA, cap, rfl, hcap, h⟩ := h
  clear h
  go_enter Tryz.func23, Tryz.ntmps23
  go_wp2_with fail
  refine HG.mono ?_
  rintro e w1 ⟨hb1, HK⟩
  have hT1 := hT.below hb1 (Nat.le_refl _)
  have HXA := checkTextN_any q x y w1 hT1.long
  rcases HK with ⟨hk, rfl⟩ | ⟨hk, A, S, rfl, hTr⟩
  · cases hg : growK l with
    | fine => exact absurd hg hk
    | long =>
      cases ht : textN q with
      | fine =>
        unfold EN.val
        unfold errV
        have HA := argN2_any .long .fine x y w1 hT1
        have HX := HXA
        rw [ht] at HX
        have HE : Hid (codeTT l q = 2) := by show _ = _; rw [← arg_tt, hg, ht]; rfl
        clear HXA
        unfold EN.val at HX HA
        unfold errV at HX HA
        go_wp2_with fail
        refine HX.mono ?_
        rintro e w2 ⟨rfl, rfl⟩
        go_wp2_with fail
        refine HA.mono ?_
        rintro e w3 ⟨rfl, hb3⟩
        have c3 := hb1.trans (hb3.mono hb1.size)
        have hcode : enFrom [.long, .fine] 0 = 2 := rfl
        rw [hcode]
        go_wp2_with fail
        go_ret2
        exact rm_err HE.out (by decide) c3 (World.ownsRow_nil _ _ _ _)
      | long =>
        unfold EN.val
        unfold errV
        have HA := argN2_any .long .long x y w1 hT1
        have HX := HXA
        rw [ht] at HX
        have HE : Hid (codeTT l q = 2) := by show _ = _; rw [← arg_tt, hg, ht]; rfl
        clear HXA
        unfold EN.val at HX HA
        unfold errV at HX HA
        go_wp2_with fail
        refine HX.mono ?_
        rintro e w2 ⟨rfl, rfl⟩
        go_wp2_with fail
        refine HA.mono ?_
        rintro e w3 ⟨rfl, hb3⟩
        have c3 := hb1.trans (hb3.mono hb1.size)
        have hcode : enFrom [.long, .long] 0 = 2 := rfl
        rw [hcode]
        go_wp2_with fail
        go_ret2
        exact rm_err HE.out (by decide) c3 (World.ownsRow_nil _ _ _ _)
      | inv => exact absurd ht textN_not
    | inv =>
      cases ht : textN q with
      | fine =>
        unfold EN.val
        unfold errV
        have HA := argN2_any .inv .fine x y w1 hT1
        have HX := HXA
        rw [ht] at HX
        have HE : Hid (codeTT l q = 1) := by show _ = _; rw [← arg_tt, hg, ht]; rfl
        clear HXA
        unfold EN.val at HX HA
        unfold errV at HX HA
        go_wp2_with fail
        refine HX.mono ?_
        rintro e w2 ⟨rfl, rfl⟩
        go_wp2_with fail
        refine HA.mono ?_
        rintro e w3 ⟨rfl, hb3⟩
        have c3 := hb1.trans (hb3.mono hb1.size)
        have hcode : enFrom [.inv, .fine] 0 = 1 := rfl
        rw [hcode]
        go_wp2_with fail
        go_ret2
        exact rm_err HE.out (by decide) c3 (World.ownsRow_nil _ _ _ _)
      | long =>
        unfold EN.val
        unfold errV
        have HA := argN2_any .inv .long x y w1 hT1
        have HX := HXA
        rw [ht] at HX
        have HE : Hid (codeTT l q = 2) := by show _ = _; rw [← arg_tt, hg, ht]; rfl
        clear HXA
        unfold EN.val at HX HA
        unfold errV at HX HA
        go_wp2_with fail
        refine HX.mono ?_
        rintro e w2 ⟨rfl, rfl⟩
        go_wp2_with fail
        refine HA.mono ?_
        rintro e w3 ⟨rfl, hb3⟩
        have c3 := hb1.trans (hb3.mono hb1.size)
        have hcode : enFrom [.inv, .long] 0 = 2 := rfl
        rw [hcode]
        go_wp2_with fail
        go_ret2
        exact rm_err HE.out (by decide) c3 (World.ownsRow_nil _ _ _ _)
      | inv => exact absurd ht textN_not
  · have hg := hk
    unfold ptr
    cases ht : textN q with
    | long =>
      have HA := argN2_any .fine .long x y w1 hT1
      have HX := HXA
      rw [ht] at HX
      have HE : Hid (codeTT l q = 2) := by show _ = _; rw [← arg_tt, hg, ht]; rfl
      clear HXA
      unfold EN.val at HX HA
      unfold errV at HX HA
      go_wp2_with fail
      refine HX.mono ?_
      rintro e w2 ⟨rfl, rfl⟩
      go_wp2_with fail
      refine HA.mono ?_
      rintro e w3 ⟨rfl, hb3⟩
      have c3 := hb1.trans (hb3.mono hb1.size)
      have hcode : enFrom [.fine, .long] 0 = 2 := rfl
      rw [hcode]
      go_wp2_with fail
      go_ret2
      exact rm_err HE.out (by decide) c3 (World.ownsRow_nil _ _ _ _)
    | inv => exact absurd ht textN_not
    | fine =>
      have H0 := Lib.hid (show codeTT l q = 0 by rw [← arg_tt, hg, ht]; rfl)
      have HA := argN2_any .fine .fine x y w1 hT1
      have HX := HXA
      rw [ht] at HX
      clear HXA
      unfold EN.val at HX HA
      unfold errV at HX HA
      go_wp2_with fail
      refine HX.mono ?_
      rintro e w2 ⟨rfl, rfl⟩
      go_wp2_with fail
      refine HA.mono ?_
      rintro e w3 ⟨rfl, hb3⟩
      have c3 := hb1.trans (hb3.mono hb1.size)
      have hTr3 := hTr.below hb3
      have hcode : enFrom [.fine, .fine] 0 = 0 := rfl
      rw [hcode]
      have HTR := Lib.hid (code_tree H0.out)
      have hl24 := HTR.out.len
      have HRM := remove_any hTr3 HTR.out.is (by omega) q hqm
      unfold ptr at HRM
      go_wp2_with fail
      refine HRM.mono ?_
      rintro e w4 ⟨rfl, ⟨S', hTr4⟩, hb4⟩
      have c4 := c3.trans hb4
      by_cases h0 : remC l q = 0
      · rw [if_pos h0] at hTr4
        have htw := without_tree HTR.out q
        have HN := nodes_any hTr4 htw.is (Nat.le_trans htw.len (by decide)) (fun r hm => ho r (mem_without.1 hm).1)
        have HE := Lib.hid h0
        unfold ptr at HN
        rw [h0]
        clear h0
        go_wp2_with fail
        refine HN.mono ?_
        rintro e w5 ⟨x5, rfl, hb5, hr5⟩
        have HR := Lib.hid hr5
        obtain ⟨xA, xc, rfl⟩ := own_form hr5.2.1
        clear hr5
        go_wp2_with fail
        go_ret2
        exact rm_done H0.out HE.out (c4.trans (hb5.mono c4.size)) HR.out c4.size
      · rw [if_neg h0] at hTr4
        have HN := nodes_any hTr4 HTR.out.is (by omega) ho
        have HE := Lib.hid h0
        unfold ptr at HN
        generalize hrc : remC l q = c at *
        have HRC := Lib.hid hrc
        clear h0 hrc
        go_wp2_with fail
        refine HN.mono ?_
        rintro e w5 ⟨x5, rfl, hb5, hr5⟩
        have HR := Lib.hid hr5
        obtain ⟨xA, xc, rfl⟩ := own_form hr5.2.1
        clear hr5
        go_wp2_with fail
        go_ret2
        exact rm_stay H0.out HRC.out HE.out ho (c4.trans (hb5.mono c4.size)) HR.out.2.1 c4.size
end Go.Proofs.YtcbmnihepeefaaaGreatDoor.Recs

/- Layers: SameLayer, of the program and of its model. -/
namespace Go.Proofs.YtcbmnihepeefaaaGreatDoor.Recs
set_option maxRecDepth 100000
open Go.RowKit Paths Errs

def sameC (A B : List R) : Bool := okL A && (okL B && decide (A = B))

set_option maxHeartbeats 800000 in
theorem sameLayer_impl (v1 v2 : Value) (A B : List R) (x : Addr) (w : World) (h1 : RecSl w v1 A) (h2 : RecSl w v2 B) (hl1 : A.length ≤ 1048576) (hl2 : B.length ≤ 1048576)
    (hr1 : ∀ r ∈ A, r.p.size ≤ maxLen) (hr2 : ∀ r ∈ B, r.p.size ≤ maxLen) (ht : Tab w) (hx : w.cell? ⟨0, 0, none⟩ = some (errV x)) :
    Calls Tryz.prog 30 #[v1, v2] w fun e w' => e = .returned (.bool (sameC A B)) ∧ Below w.heap.size w w' := by
  have HA : Calls Tryz.prog 37 #[v1] w fun e w' => e = .returned (.bool (okL A)) ∧ Below w.heap.size w w' := layerOK_impl v1 A x w h1 hl1 hr1 ht hx
  have hxl := World.block_lt_of_cell? w _ hx
  have HB : ∀ w', Below w.heap.size w w' → Calls Tryz.prog 37 #[v2] w' fun e w'' => e = .returned (.bool (okL B)) ∧ Below w'.heap.size w' w'' := fun w' hb =>
    layerOK_impl v2 B x w' (h2.below hb) hl2 hr2 (ht.below hb (Nat.le_refl _)) ((hb.cell (p := ⟨0, 0, none⟩) hxl).trans hx)
  have HE : ∀ w', Below w.heap.size w w' → Calls Tryz.prog 118 #[v1, v2] w' fun e w'' => e = .returned (.bool (decide (A = B))) ∧ ∃ n, w'' = w'.drewN n := fun w' hb => equalR_any v1 v2 A B w' (h1.below hb) (h2.below hb) hl1
  have HBh := Lib.hid HB
  have HEh := Lib.hid HE
  clear HB HE
  rcases Bool.eq_false_or_eq_true (okL A) with ha | ha
  case inr =>
    have HF : Hid (sameC A B = false) := by show _ = _; unfold sameC; rw [ha]; rfl
    rw [ha] at HA
    go_enter Tryz.func30, Tryz.ntmps30
    go_wp2_with fail
    refine HA.mono ?_
    rintro e w1 ⟨rfl, hb1⟩
    go_wp2_with fail
    go_ret
    exact ⟨ret_bool HF.out.symm, hb1⟩
  rw [ha] at HA
  rcases Bool.eq_false_or_eq_true (okL B) with hb | hb
  case inr =>
    have HF : Hid (sameC A B = false) := by show _ = _; unfold sameC; rw [ha, hb]; rfl
    rw [hb] at HBh
    go_enter Tryz.func30, Tryz.ntmps30
    go_wp2_with fail
    refine HA.mono ?_
    rintro e w1 ⟨rfl, hb1⟩
    go_wp2_with fail
    refine (HBh.out _ hb1).mono ?_
    rintro e w2 ⟨rfl, hb2⟩
    go_wp2_with fail
    go_ret
    exact ⟨ret_bool HF.out.symm, hb1.trans (hb2.mono hb1.size)⟩
  have HF : Hid (sameC A B = decide (A = B)) := by show _ = _; unfold sameC; rw [ha, hb]; rfl
  rw [hb] at HBh
  go_enter Tryz.func30, Tryz.ntmps30
  go_wp2_with fail
  refine HA.mono ?_
  rintro e w1 ⟨rfl, hb1⟩
  go_wp2_with fail
  refine (HBh.out _ hb1).mono ?_
  rintro e w2 ⟨rfl, hb2⟩
  have c2 := hb1.trans (hb2.mono hb1.size)
  go_wp2_with fail
  refine (HEh.out _ c2).mono ?_
  rintro e w3 ⟨rfl, n3, rfl⟩
  go_wp2_with fail
  go_ret
  exact ⟨ret_bool HF.out.symm, below_drewN c2 n3⟩

end Go.Proofs.YtcbmnihepeefaaaGreatDoor.Recs

/- Trees: TreeOK and SameTree, of the program and of its model. Conditions (of the program's): the table of kinds, the two sentinels. -/
namespace Go.Proofs.YtcbmnihepeefaaaGreatDoor.Recs
set_option maxRecDepth 100000
open Go.RowKit Paths Errs

def sameT (A B : List R) : Bool := treeOK A && (treeOK B && decide (A = B))

set_option maxHeartbeats 1600000 in
theorem equalN_any (v1 v2 : Value) (A B : List R) (w : World) (h1 : NodSl w v1 A) (h2 : NodSl w v2 B) (hl : A.length ≤ 1048576) :
    Calls Tryz.prog 119 #[v1, v2] w fun e w' => e = .returned (.bool (decide (A = B))) ∧ ∃ n, w' = w.drewN n := by
  obtain ⟨ho1, a1, cap1, rfl, hcap1, h1⟩ := h1
  obtain ⟨ho2, a2, cap2, rfl, hcap2, h2⟩ := h2
  by_cases hL : A.length = B.length
  · have hne : ((A.length : Int) != (B.length : Int)) = false := by simp [hL]
    have HL := Lib.hid hL
    have H1 := Lib.hid h1
    have H2 := Lib.hid h2
    clear hL h1 h2
    go_enter Tryz.func119, Tryz.ntmps119
    go_wp2
    go_loopw [13] (fun i wr => ∃ k n : Nat, k ≤ A.length ∧ i = .int .i64 k ∧ wr = w.drewN n ∧ Hid (A.take k = B.take k)) (fun i _ => A.length - (intOf i).toNat)
    case atStart => exact ⟨0, 0, by omega, rfl, rfl, rfl⟩
    case round =>
      obtain ⟨k, n, hk, rfl, rfl, HK⟩ := hrel
      by_cases hlt : k < A.length
      · obtain ⟨b1, o1, rfl, hb1, hcell1⟩ := H1.out (by omega)
        have hL2 := HL.out
        have hlt2 : k < B.length := by omega
        obtain ⟨b2, o2, rfl, hb2, hcell2⟩ := H2.out (by omega)
        obtain ⟨c0, c1, c2, c3⟩ := hcell1 k A[k] (by simp [hlt])
        obtain ⟨d0, d1, d2, d3⟩ := hcell2 k B[k] (by simp [hlt2])
        clear hcell1 hcell2 hL2 H1 H2
        have hi1 : (k : Int) < (A.length : Int) := by omega
        have hi2 : (k : Int) < (B.length : Int) := by omega
        have hi0 : (0 : Int) ≤ (k : Int) := by omega
        have f4 : (A[k].o == B[k].o) = true := by rw [ho1 A[k] (List.getElem_mem hlt), ho2 B[k] (List.getElem_mem hlt2)]; rfl
        rcases four A[k] B[k] with f0 | ⟨f0, f1⟩ | ⟨f0, f1, f2⟩ | ⟨f0, f1, f2, f3⟩ | ⟨f0, f1, f2, f3⟩
        · have HF := ne_at hlt hlt2 (fun e => by rw [e] at f0; simp at f0)
          go_wp2
          go_quiet (fail)
          go_wp2
          go_ret
          exact ⟨ret_bool (by simp [HF.out]), n + nq, World.drewN_drewN _ _ _⟩
        · have HF := ne_at hlt hlt2 (fun e => by rw [e] at f1; simp at f1)
          go_wp2
          go_quiet (fail)
          go_wp2
          go_ret
          exact ⟨ret_bool (by simp [HF.out]), n + nq, World.drewN_drewN _ _ _⟩
        · have HF := ne_at hlt hlt2 (fun e => by rw [e] at f2; simp at f2)
          go_wp2
          go_quiet (fail)
          go_wp2
          go_ret
          exact ⟨ret_bool (by simp [HF.out]), n + nq, World.drewN_drewN _ _ _⟩
        · have HF := ne_at hlt hlt2 (fun e => by rw [e] at f3; simp at f3)
          go_wp2
          go_quiet (fail)
          go_wp2
          go_ret
          exact ⟨ret_bool (by simp [HF.out]), n + nq, World.drewN_drewN _ _ _⟩
        · have HT := Lib.hid (take_snoc_eq hlt hlt2 HK.out (rec_eq f0 f1 f2 f3 f4))
          go_wp2
          go_quiet (fail)
          go_wp2
          exact ⟨⟨k + 1, _, by omega, by go_num, rfl, HT⟩, by simp [intOf]; omega⟩
      · have HE : Hid (A = B) := by
          have hL2 := HL.out
          have := HK.out
          rw [List.take_of_length_le (by omega), List.take_of_length_le (by omega)] at this
          exact this
        go_wp2
        go_ret
        exact ⟨ret_bool (by simp [HE.out]), _, rfl⟩
  · have hne : ((A.length : Int) != (B.length : Int)) = true := by simp; omega
    have HE : Hid (¬ A = B) := fun e => hL (by rw [e])
    clear hL
    go_enter Tryz.func119, Tryz.ntmps119
    go_wp2
    go_ret
    exact ⟨ret_bool (by simp [HE.out]), 0, rfl⟩

set_option maxHeartbeats 800000 in
theorem sameTree_impl (v1 v2 : Value) (A B : List R) (x y : Addr) (w : World) (h1 : NodSl w v1 A) (h2 : NodSl w v2 B) (hl1 : A.length ≤ 1048576) (hl2 : B.length ≤ 1048576)
    (hr1 : ∀ r ∈ A, r.p.size ≤ maxLen) (hr2 : ∀ r ∈ B, r.p.size ≤ maxLen) (hT : Three w x y) :
    Calls Tryz.prog 31 #[v1, v2] w fun e w' => e = .returned (.bool (sameT A B)) ∧ Below w.heap.size w w' := by
  have HA := treeOK_impl v1 A x y w h1 hl1 hr1 hT
  have HB : ∀ w', Below w.heap.size w w' → Calls Tryz.prog 16 #[v2] w' fun e w'' => e = .returned (.bool (treeOK B)) ∧ Below w'.heap.size w' w'' := fun w' hb =>
    treeOK_impl v2 B x y w' (h2.below hb) hl2 hr2 (hT.below hb (Nat.le_refl _))
  have HE : ∀ w', Below w.heap.size w w' → Calls Tryz.prog 119 #[v1, v2] w' fun e w'' => e = .returned (.bool (decide (A = B))) ∧ ∃ n, w'' = w'.drewN n := fun w' hb => equalN_any v1 v2 A B w' (h1.below hb) (h2.below hb) hl1
  have HBh := Lib.hid HB
  have HEh := Lib.hid HE
  clear HB HE
  rcases Bool.eq_false_or_eq_true (treeOK A) with ha | ha
  case inr =>
    have HF : Hid (sameT A B = false) := by show _ = _; unfold sameT; rw [ha]; rfl
    rw [ha] at HA
    go_enter Tryz.func31, Tryz.ntmps31
    go_wp2_with fail
    refine HA.mono ?_
    rintro e w1 ⟨rfl, hb1⟩
    go_wp2_with fail
    go_ret
    exact ⟨ret_bool HF.out.symm, hb1⟩
  rw [ha] at HA
  rcases Bool.eq_false_or_eq_true (treeOK B) with hb | hb
  case inr =>
    have HF : Hid (sameT A B = false) := by show _ = _; unfold sameT; rw [ha, hb]; rfl
    rw [hb] at HBh
    go_enter Tryz.func31, Tryz.ntmps31
    go_wp2_with fail
    refine HA.mono ?_
    rintro e w1 ⟨rfl, hb1⟩
    go_wp2_with fail
    refine (HBh.out _ hb1).mono ?_
    rintro e w2 ⟨rfl, hb2⟩
    go_wp2_with fail
    go_ret
    exact ⟨ret_bool HF.out.symm, hb1.trans (hb2.mono hb1.size)⟩
  have HF : Hid (sameT A B = decide (A = B)) := by show _ = _; unfold sameT; rw [ha, hb]; rfl
  rw [hb] at HBh
  go_enter Tryz.func31, Tryz.ntmps31
  go_wp2_with fail
  refine HA.mono ?_
  rintro e w1 ⟨rfl, hb1⟩
  go_wp2_with fail
  refine (HBh.out _ hb1).mono ?_
  rintro e w2 ⟨rfl, hb2⟩
  have c2 := hb1.trans (hb2.mono hb1.size)
  go_wp2_with fail
  refine (HEh.out _ c2).mono ?_
  rintro e w3 ⟨rfl, n3, rfl⟩
  go_wp2_with fail
  go_ret
  exact ⟨ret_bool HF.out.symm, below_drewN c2 n3⟩

end Go.Proofs.YtcbmnihepeefaaaGreatDoor.Recs

/- Trees and applying, plain: a node added and taken out again; what a layer makes of nothing; what a tree shows of a layer and of the tree before. -/
namespace Go.Proofs.YtcbmnihepeefaaaGreatDoor.Recs
open Go.RowKit Paths

/-- Nothing of a tree lies below a path that the tree does not have. -/
theorem none_below {t : List R} (ht : IsTree t) {q : ByteArray} (h : recAt t q = none) {x : R} (hx : x ∈ t) : q ∉ ups x.p := fun hu => by
  obtain ⟨n, hn, hp, _⟩ := housed_ups ht.housed (ht.path x hx) x hx rfl q hu
  exact recAt_none h n hn hp
/-- What was added, taken out again. -/
theorem without_put {t : List R} (ht : IsTree t) {n : R} (h : recAt t n.p = none) : withoutL (putL t n) n.p true = t := by
  apply sorted_ext
  · exact without_sorted (put_sorted ht.sorted n) _ _
  · exact ht.sorted
  · intro x
    rw [mem_without, mem_put]
    constructor
    · rintro ⟨h1, h2, h3⟩
      rcases h1 with rfl | ⟨h4, _⟩
      · exact absurd rfl (h3 rfl)
      · exact h4
    · intro hx
      have hne := recAt_none h x hx
      exact ⟨.inr ⟨hx, hne⟩, none_below ht h hx, fun _ => hne⟩
theorem put_len {t : List R} (h : Sorted t) {n : R} (hn : recAt t n.p = none) : (putL t n).length = t.length + 1 := by
  have hpl : placeOf t n ≤ t.length := by unfold placeOf; exact (List.takeWhile_prefix _).sublist.length_le
  rw [put_new h hn, List.length_append, List.length_cons, List.length_take, List.length_drop]
  omega
theorem put_found {t : List R} (h : Sorted t) (n : R) : recAt (putL t n) n.p = some n := recAt_of (put_sorted h n) (mem_put.2 (.inl rfl))
theorem put_find {t : List R} (h : Sorted t) (n : R) : findT (putL t n) n.p = (n, 0) := by unfold findT; rw [put_found h n]
theorem nodeOf_self2 {r : R} (h : r.o = false) : nodeOf r = r := by
  cases r
  simp only [nodeOf] at h ⊢
  subst h
  rfl
/-- The nodes of a tree as a layer, applied to nothing: the tree. -/
theorem apply_none {t : List R} (ht : IsTree t) (hk : ∀ r ∈ t, r.k ≠ 4) (ho : ∀ r ∈ t, r.o = false) : applyL t [] = t := by
  have hn : IsTree ([] : List R) := ⟨List.Pairwise.nil, (fun r hr => by cases hr), (fun r hr => by cases hr)⟩
  apply sorted_ext
  · exact apply_sorted t List.Pairwise.nil
  · exact ht.sorted
  · intro x
    rw [mem_apply hn t ht.sorted ht.path]
    constructor
    · rintro (⟨r, hr, _, rfl⟩ | ⟨h1, _⟩)
      · rw [nodeOf_self2 (ho r hr)]; exact hr
      · cases h1
    · exact fun hx => .inl ⟨x, hx, hk x hx, (nodeOf_self2 (ho x hx)).symm⟩
/-- What is found of a list without a path and all below it. -/
theorem without_at {t : List R} (hs : Sorted t) {q : ByteArray} {x : R} (hx : x ∈ t) : (recAt (withoutL t q true) x.p).isSome = (!isUp q x.p && !decide (x.p = q)) := by
  by_cases h : q ∉ ups x.p ∧ x.p ≠ q
  · have hm : x ∈ withoutL t q true := mem_without.2 ⟨hx, h.1, fun _ => h.2⟩
    rw [recAt_of (without_sorted hs q true) hm, isUp_no.2 h.1, decide_eq_false h.2]
    rfl
  · have hno : recAt (withoutL t q true) x.p = none := by
      cases hr : recAt (withoutL t q true) x.p with
      | none => rfl
      | some r =>
        obtain ⟨hm, hp⟩ := recAt_mem hr
        obtain ⟨h1, h2, h3⟩ := mem_without.1 hm
        rw [hp] at h2 h3
        exact absurd ⟨h2, h3 rfl⟩ h
    rw [hno]
    cases hu : isUp q x.p with
    | true => rfl
    | false =>
      have : x.p = q := by
        by_cases he : x.p = q
        · exact he
        · exact absurd ⟨isUp_no.1 hu, he⟩ h
      rw [decide_eq_true this]
      rfl

section
variable {l t : List R}
end
end Go.Proofs.YtcbmnihepeefaaaGreatDoor.Recs
