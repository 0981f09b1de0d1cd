/- Parts of several texts of mine in one file (each begins with its own remark). -/
import Derived.Test.YtcbmnihepeefaaaGreatDoorCA1
import Derived.Test.YtcbmnihepeefaaaGreatDoorCA10
import Derived.Test.YtcbmnihepeefaaaGreatDoorCA2
import Derived.Test.YtcbmnihepeefaaaGreatDoorCA3
import Derived.Test.YtcbmnihepeefaaaGreatDoorCA4
import Derived.Test.YtcbmnihepeefaaaGreatDoorCA5
import Derived.Test.YtcbmnihepeefaaaGreatDoorCA6
import Derived.Test.YtcbmnihepeefaaaGreatDoorCA8
import Derived.Test.YtcbmnihepeefaaaGreatDoorCA9
import Derived.Test.YtcbmnihepeefaaaGreatDoorCB12
import Derived.Test.YtcbmnihepeefaaaGreatDoorCC2
import Derived.Test.YtcbmnihepeefaaaGreatDoorCD2
import Derived.Test.YtcbmnihepeefaaaGreatDoorCF1
import Derived.Test.YtcbmnihepeefaaaGreatDoorChecked
import Derived.Test.YtcbmnihepeefaaaGreatDoorShelf
import Derived.Test.YtcbmnihepeefaaaGreatDoorProg
import Derived.Test.YtcbmnihepeefaaaGreatDoorRows
import Derived.Stop.LaidErr
import Derived.StillTailTactics
import Derived.Laws.OwnMore
import Derived.BigQuiet
import Derived.BigRegion
import Derived.Deep.QuietTactic
import Derived.Deep.RegionHeld3
import Derived.Deep.Slices
import Derived.OpenShut
import Derived.ShutString
import Derived.ChangeArms
import Derived.WideShapes
import Derived.Lib.LaidTab
import Derived.Deep.Draws
import Derived.Deep.LoopGhost
import Derived.WalkKit
import Derived.WalkSpells
import Derived.WalkSmall
import Derived.Lib.OthersKept
import Derived.Lib.Hide
import Derived.Lib.Strings
import Derived.Lib.Join
import Derived.Laws.BytesArg
import Derived.WalkLawsBesides
import Derived.LaidEql
import Derived.Stop.Asserts
import Derived.Below
import Derived.Stop.LaidTwo
import Derived.ChangeVars
import Derived.Deep.DeepHandedRow
/- Layers: UnderOpaque, of the program and of its model. Conditions (of the program's): the table of kinds, the two sentinels. -/
namespace Go.Proofs.YtcbmnihepeefaaaGreatDoor.Recs
set_option maxRecDepth 100000
open Go.RowKit Paths Errs

theorem under_same {l : List R} (h : layerOK l = true) {q : ByteArray} (hq : pathB q.data.toList = true) : underI l q = underL l q := under_gen (layer_sorted h) (fun _ hm => layer_rec h hm) hq

def undF (l : List R) (q : ByteArray) : Bool × Int := if codeLT l q ≠ 0 then (false, codeLT l q) else if pathB q.data.toList then (underL l q, 0) else (false, 10)
def undV (l : List R) (q : ByteArray) : Value := .tuple #[.bool (undF l q).1, .int .i64 (undF l q).2]
theorem und_code {l : List R} {q : ByteArray} {c : Int} (hc : codeLT l q = c) (h : c ≠ 0) : undV l q = .tuple #[.bool false, .int .i64 c] := by
  unfold undV undF; rw [hc, if_pos h]
theorem und_name {l : List R} {q : ByteArray} (h : codeLT l q = 0) (hq : pathB q.data.toList = false) : undV l q = .tuple #[.bool false, .int .i64 10] := by
  unfold undV undF; rw [if_neg (by simpa using h), if_neg (by rw [hq]; decide)]
theorem und_path {l : List R} {q : ByteArray} (h : codeLT l q = 0) (hq : pathB q.data.toList = true) : undV l q = .tuple #[.bool (underL l q), .int .i64 0] := by
  unfold undV undF; rw [if_neg (by simpa using h), if_pos hq]
theorem code_ok {l : List R} {q : ByteArray} (h : codeLT l q = 0) : layerOK l = true := by
  unfold codeLT at h
  split at h
  · cases h
  · split at h
    · assumption
    · cases h

set_option maxHeartbeats 1600000 in
theorem underOpaque_impl (v : Value) (l : List R) (q : ByteArray) (x y : Addr) (w : World) (h : RecSl w v l) (hl : l.length ≤ 1048576) (hr : ∀ r ∈ l, r.p.size ≤ maxLen) (hqm : q.size ≤ maxLen) (hT : Three w x y) :
    Calls Tryz.prog 44 #[v, .string q] w fun e w' => e = .returned (undV l q) ∧ Below w.heap.size w w' := by
  have HC := checkLayer_any v l x _ h hl hr hT.tab hT.long
  rw [← checkK_val] at HC
  have hsl := h
  obtain ⟨A, cap, rfl, hcap, h⟩ := h
  cases hk : checkK l with
  | fine =>
    rw [hk] at HC
    unfold EK.val at HC
    cases ht : textK q with
    | fine =>
      have h0 : codeLT l q = 0 := by rw [← arg_lt, hk, ht]; rfl
      have hok := code_ok h0
      have H0 := Lib.hid h0
      clear h0
      go_enter Tryz.func44, Tryz.ntmps44
      go_wp2_with fail
      refine HC.mono ?_
      rintro e w1 ⟨rfl, hb1⟩
      have hT1 := hT.below hb1 (Nat.le_refl _)
      have HX := checkText_any q x w1 hT1.long
      rw [ht] at HX
      have HA := arg2_any .fine .fine x y w1 hT1
      unfold EK.val at HX HA
      unfold errV at HX HA
      unfold recV at HA
      go_wp2_with fail
      refine HX.mono ?_
      rintro e w2 ⟨rfl, rfl⟩
      go_wp2_with fail
      refine HA.mono ?_
      rintro e w3 ⟨rfl, hb3⟩
      have c3 := hb1.trans (hb3.mono hb1.size)
      have hcode : argFrom [.fine, .fine] 0 = 0 := rfl
      rw [hcode]
      go_wp2_with fail
      refine (pathOK_impl q _ hqm).mono ?_
      rintro e w4 ⟨rfl, hb4⟩
      have c4 := c3.trans (hb4.mono c3.size)
      rcases Bool.eq_false_or_eq_true (pathB q.data.toList) with hp | hp
      · have HE := Lib.hid (und_path H0.out hp)
        have HU := Lib.hid (under_same hok hp)
        rw [hp]
        go_wp2_with fail
        refine (underOpaque_any _ l q _ (hsl.below c4) hl hqm hr).mono ?_
        rintro e w5 ⟨rfl, hb5⟩
        rw [HU.out]
        go_wp2_with fail
        go_ret2
        exact ⟨ret_eq HE.out.symm, c4.trans (hb5.mono c4.size)⟩
      · have HE := Lib.hid (und_name H0.out hp)
        rw [hp]
        go_wp2_with fail
        go_ret2
        exact ⟨ret_eq HE.out.symm, c4⟩
    | long =>
      have HE := Lib.hid (und_code (l := l) (q := q) (c := 2) (by rw [← arg_lt, hk, ht]; rfl) (by decide))
      go_enter Tryz.func44, Tryz.ntmps44
      go_wp2_with fail
      refine HC.mono ?_
      rintro e w1 ⟨rfl, hb1⟩
      have hT1 := hT.below hb1 (Nat.le_refl _)
      have HX := checkText_any q x w1 hT1.long
      rw [ht] at HX
      have HA := arg2_any .fine .long x y w1 hT1
      unfold EK.val at HX HA
      unfold errV at HX HA
      unfold recV at HA
      go_wp2_with fail
      refine HX.mono ?_
      rintro e w2 ⟨rfl, rfl⟩
      go_wp2_with fail
      refine HA.mono ?_
      rintro e w3 ⟨rfl, hb3⟩
      have c3 := hb1.trans (hb3.mono hb1.size)
      have hcode : argFrom [.fine, .long] 0 = 2 := rfl
      rw [hcode]
      go_wp2_with fail
      go_ret2
      exact ⟨ret_eq HE.out.symm, c3⟩
    | bad i c => exact absurd ht text_not
  | long =>
    rw [hk] at HC
    unfold EK.val errV at HC
    cases ht : textK q with
    | fine =>
      have HE := Lib.hid (und_code (l := l) (q := q) (c := 2) (by rw [← arg_lt, hk, ht]; rfl) (by decide))
      go_enter Tryz.func44, Tryz.ntmps44
      go_wp2_with fail
      refine HC.mono ?_
      rintro e w1 ⟨rfl, hb1⟩
      have hT1 := hT.below hb1 (Nat.le_refl _)
      have HX := checkText_any q x w1 hT1.long
      rw [ht] at HX
      have HA := arg2_any .long .fine x y w1 hT1
      unfold EK.val at HX HA
      unfold errV at HX HA
      unfold recV at HA
      go_wp2_with fail
      refine HX.mono ?_
      rintro e w2 ⟨rfl, rfl⟩
      go_wp2_with fail
      refine HA.mono ?_
      rintro e w3 ⟨rfl, hb3⟩
      have c3 := hb1.trans (hb3.mono hb1.size)
      have hcode : argFrom [.long, .fine] 0 = 2 := rfl
      rw [hcode]
      go_wp2_with fail
      go_ret2
      exact ⟨ret_eq HE.out.symm, c3⟩
    | long =>
      have HE := Lib.hid (und_code (l := l) (q := q) (c := 2) (by rw [← arg_lt, hk, ht]; rfl) (by decide))
      go_enter Tryz.func44, Tryz.ntmps44
      go_wp2_with fail
      refine HC.mono ?_
      rintro e w1 ⟨rfl, hb1⟩
      have hT1 := hT.below hb1 (Nat.le_refl _)
      have HX := checkText_any q x w1 hT1.long
      rw [ht] at HX
      have HA := arg2_any .long .long x y w1 hT1
      unfold EK.val at HX HA
      unfold errV at HX HA
      unfold recV at HA
      go_wp2_with fail
      refine HX.mono ?_
      rintro e w2 ⟨rfl, rfl⟩
      go_wp2_with fail
      refine HA.mono ?_
      rintro e w3 ⟨rfl, hb3⟩
      have c3 := hb1.trans (hb3.mono hb1.size)
      have hcode : argFrom [.long, .long] 0 = 2 := rfl
      rw [hcode]
      go_wp2_with fail
      go_ret2
      exact ⟨ret_eq HE.out.symm, c3⟩
    | bad i c => exact absurd ht text_not
  | bad i c =>
    rw [hk] at HC
    unfold EK.val recV at HC
    cases ht : textK q with
    | fine =>
      have HE := Lib.hid (und_code (l := l) (q := q) (c := 1) (by rw [← arg_lt, hk, ht]; rfl) (by decide))
      go_enter Tryz.func44, Tryz.ntmps44
      go_wp2_with fail
      refine HC.mono ?_
      rintro e w1 ⟨rfl, hb1⟩
      have hT1 := hT.below hb1 (Nat.le_refl _)
      have HX := checkText_any q x w1 hT1.long
      rw [ht] at HX
      have HA := arg2_any (.bad i c) .fine x y w1 hT1
      unfold EK.val at HX HA
      unfold errV at HX HA
      unfold recV at HA
      go_wp2_with fail
      refine HX.mono ?_
      rintro e w2 ⟨rfl, rfl⟩
      go_wp2_with fail
      refine HA.mono ?_
      rintro e w3 ⟨rfl, hb3⟩
      have c3 := hb1.trans (hb3.mono hb1.size)
      have hcode : argFrom [(.bad i c), .fine] 0 = 1 := rfl
      rw [hcode]
      go_wp2_with fail
      go_ret2
      exact ⟨ret_eq HE.out.symm, c3⟩
    | long =>
      have HE := Lib.hid (und_code (l := l) (q := q) (c := 2) (by rw [← arg_lt, hk, ht]; rfl) (by decide))
      go_enter Tryz.func44, Tryz.ntmps44
      go_wp2_with fail
      refine HC.mono ?_
      rintro e w1 ⟨rfl, hb1⟩
      have hT1 := hT.below hb1 (Nat.le_refl _)
      have HX := checkText_any q x w1 hT1.long
      rw [ht] at HX
      have HA := arg2_any (.bad i c) .long x y w1 hT1
      unfold EK.val at HX HA
      unfold errV at HX HA
      unfold recV at HA
      go_wp2_with fail
      refine HX.mono ?_
      rintro e w2 ⟨rfl, rfl⟩
      go_wp2_with fail
      refine HA.mono ?_
      rintro e w3 ⟨rfl, hb3⟩
      have c3 := hb1.trans (hb3.mono hb1.size)
      have hcode : argFrom [(.bad i c), .long] 0 = 2 := rfl
      rw [hcode]
      go_wp2_with fail
      go_ret2
      exact ⟨ret_eq HE.out.symm, c3⟩
    | bad i c => exact absurd ht text_not

set_option maxHeartbeats 800000 in
theorem underOpaque_spec (v : Value) (l : List R) (q : ByteArray) (w : World) (h : RecSl w v l) (hl : l.length ≤ 1048576) :
    Calls Tryz.prog 45 #[v, .string q] w fun e w' => e = .returned (undV l q) ∧ Below w.heap.size w w' := by
  have HC := l03OK_any v l _ h hl
  have hsl := h
  obtain ⟨A, cap, rfl, hcap, h⟩ := h
  by_cases h4 : 4096 < l.length
  · have HE := Lib.hid (und_code (l := l) (q := q) (c := 2) (by unfold codeLT; rw [if_pos (.inl h4)]) (by decide))
    have hd : decide ((4096 : Int) < (l.length : Int)) = true := by simp; omega
    go_enter Tryz.func45, Tryz.ntmps45
    go_wp2_with fail
    go_ret2
    exact ⟨ret_eq HE.out.symm, Below.refl _ _⟩
  have hd4 : decide ((4096 : Int) < (l.length : Int)) = false := by simp; omega
  by_cases h5 : 65536 < q.size
  · have HE := Lib.hid (und_code (l := l) (q := q) (c := 2) (by unfold codeLT; rw [if_pos (.inr h5)]) (by decide))
    have hd : decide ((65536 : Int) < (q.size : Int)) = true := by simp; omega
    go_enter Tryz.func45, Tryz.ntmps45
    go_wp2_with fail
    go_ret2
    exact ⟨ret_eq HE.out.symm, Below.refl _ _⟩
  have hd5 : decide ((65536 : Int) < (q.size : Int)) = false := by simp; omega
  have HL : Hid (codeLT l q = if layerOK l then 0 else 1) := by show _ = _; unfold codeLT; rw [if_neg (by omega)]
  rcases Bool.eq_false_or_eq_true (layerOK l) with hk | hk
  case inr =>
    have HE := Lib.hid (und_code (l := l) (q := q) (c := 1) (by rw [HL.out, hk]; rfl) (by decide))
    rw [hk] at HC
    go_enter Tryz.func45, Tryz.ntmps45
    go_wp2_with fail
    refine HC.mono ?_
    rintro e w1 ⟨rfl, hb1⟩
    go_wp2_with fail
    go_ret2
    exact ⟨ret_eq HE.out.symm, hb1⟩
  have H0 : Hid (codeLT l q = 0) := by show _ = _; rw [HL.out, hk]; rfl
  rw [hk] at HC
  go_enter Tryz.func45, Tryz.ntmps45
  go_wp2_with fail
  refine HC.mono ?_
  rintro e w1 ⟨rfl, hb1⟩
  go_wp2_with fail
  refine (l01OK_any q _).mono ?_
  rintro e w2 ⟨rfl, hb2⟩
  have c2 := hb1.trans (hb2.mono hb1.size)
  rcases Bool.eq_false_or_eq_true (pathB q.data.toList) with hp | hp
  · have HE := Lib.hid (und_path H0.out hp)
    have HU := l03Under_any _ l q _ (hsl.below c2) hl hp
    rw [hp]
    go_wp2_with fail
    refine HU.mono ?_
    rintro e w3 ⟨rfl, rfl⟩
    go_wp2_with fail
    go_ret2
    exact ⟨ret_eq HE.out.symm, c2⟩
  · have HE := Lib.hid (und_name H0.out hp)
    rw [hp]
    go_wp2_with fail
    go_ret2
    exact ⟨ret_eq HE.out.symm, c2⟩
end Go.Proofs.YtcbmnihepeefaaaGreatDoor.Recs

/- What an upper layer cuts off: Cuts, of the program and of its model. Conditions (of the program's): the table of kinds, the two sentinels. -/
namespace Go.Proofs.YtcbmnihepeefaaaGreatDoor.Recs
set_option maxRecDepth 100000
open Go.RowKit Paths Errs

def cutF (l : List R) (q : ByteArray) : Bool × Int := if codeLT l q ≠ 0 then (false, codeLT l q) else if pathB q.data.toList then (cutsL l q, 0) else (false, 10)
def cutV (l : List R) (q : ByteArray) : Value := .tuple #[.bool (cutF l q).1, .int .i64 (cutF l q).2]
theorem cut_code {l : List R} {q : ByteArray} {c : Int} (hc : codeLT l q = c) (h : c ≠ 0) : cutV l q = .tuple #[.bool false, .int .i64 c] := by
  unfold cutV cutF; rw [hc, if_pos h]
theorem cut_name {l : List R} {q : ByteArray} (h : codeLT l q = 0) (hq : pathB q.data.toList = false) : cutV l q = .tuple #[.bool false, .int .i64 10] := by
  unfold cutV cutF; rw [if_neg (by simpa using h), if_neg (by rw [hq]; decide)]
theorem cut_path {l : List R} {q : ByteArray} (h : codeLT l q = 0) (hq : pathB q.data.toList = true) : cutV l q = .tuple #[.bool (cutsL l q), .int .i64 0] := by
  unfold cutV cutF; rw [if_neg (by simpa using h), if_pos hq]
set_option maxHeartbeats 1600000 in
theorem cuts_impl (v : Value) (l : List R) (q : ByteArray) (x y : Addr) (w : World) (h : RecSl w v l) (hl : l.length ≤ 1048576) (hr : ∀ r ∈ l, r.p.size ≤ maxLen) (hqm : q.size ≤ maxLen) (hT : Three w x y) :
    Calls Tryz.prog 46 #[v, .string q] w fun e w' => e = .returned (cutV l q) ∧ Below w.heap.size w w' := by
  have HC := checkLayer_any v l x _ h hl hr hT.tab hT.long
  rw [← checkK_val] at HC
  have hsl := h
  obtain ⟨A, cap, rfl, hcap, h⟩ := h
  cases hk : checkK l with
  | fine =>
    rw [hk] at HC
    unfold EK.val at HC
    cases ht : textK q with
    | fine =>
      have h0 : codeLT l q = 0 := by rw [← arg_lt, hk, ht]; rfl
      have hok := code_ok h0
      have H0 := Lib.hid h0
      clear h0
      go_enter Tryz.func46, Tryz.ntmps46
      go_wp2_with fail
      refine HC.mono ?_
      rintro e w1 ⟨rfl, hb1⟩
      have hT1 := hT.below hb1 (Nat.le_refl _)
      have HX := checkText_any q x w1 hT1.long
      rw [ht] at HX
      have HA := arg2_any .fine .fine x y w1 hT1
      unfold EK.val at HX HA
      unfold errV at HX HA
      unfold recV at HA
      go_wp2_with fail
      refine HX.mono ?_
      rintro e w2 ⟨rfl, rfl⟩
      go_wp2_with fail
      refine HA.mono ?_
      rintro e w3 ⟨rfl, hb3⟩
      have c3 := hb1.trans (hb3.mono hb1.size)
      have hcode : argFrom [.fine, .fine] 0 = 0 := rfl
      rw [hcode]
      go_wp2_with fail
      refine (pathOK_impl q _ hqm).mono ?_
      rintro e w4 ⟨rfl, hb4⟩
      have c4 := c3.trans (hb4.mono c3.size)
      rcases Bool.eq_false_or_eq_true (pathB q.data.toList) with hp | hp
      · have HE := Lib.hid (cut_path H0.out hp)
        have HU := Lib.hid (cuts_same (layer_sorted hok) (fun _ hm => layer_rec hok hm) hp)
        rw [hp]
        go_wp2_with fail
        refine (cutsOff_any _ l q _ (hsl.below c4) hl hqm hr).mono ?_
        rintro e w5 ⟨rfl, hb5⟩
        rw [HU.out]
        go_wp2_with fail
        go_ret2
        exact ⟨ret_eq HE.out.symm, c4.trans (hb5.mono c4.size)⟩
      · have HE := Lib.hid (cut_name H0.out hp)
        rw [hp]
        go_wp2_with fail
        go_ret2
        exact ⟨ret_eq HE.out.symm, c4⟩
    | long =>
      have HE := Lib.hid (cut_code (l := l) (q := q) (c := 2) (by rw [← arg_lt, hk, ht]; rfl) (by decide))
      go_enter Tryz.func46, Tryz.ntmps46
      go_wp2_with fail
      refine HC.mono ?_
      rintro e w1 ⟨rfl, hb1⟩
      have hT1 := hT.below hb1 (Nat.le_refl _)
      have HX := checkText_any q x w1 hT1.long
      rw [ht] at HX
      have HA := arg2_any .fine .long x y w1 hT1
      unfold EK.val at HX HA
      unfold errV at HX HA
      unfold recV at HA
      go_wp2_with fail
      refine HX.mono ?_
      rintro e w2 ⟨rfl, rfl⟩
      go_wp2_with fail
      refine HA.mono ?_
      rintro e w3 ⟨rfl, hb3⟩
      have c3 := hb1.trans (hb3.mono hb1.size)
      have hcode : argFrom [.fine, .long] 0 = 2 := rfl
      rw [hcode]
      go_wp2_with fail
      go_ret2
      exact ⟨ret_eq HE.out.symm, c3⟩
    | bad i c => exact absurd ht text_not
  | long =>
    rw [hk] at HC
    unfold EK.val errV at HC
    cases ht : textK q with
    | fine =>
      have HE := Lib.hid (cut_code (l := l) (q := q) (c := 2) (by rw [← arg_lt, hk, ht]; rfl) (by decide))
      go_enter Tryz.func46, Tryz.ntmps46
      go_wp2_with fail
      refine HC.mono ?_
      rintro e w1 ⟨rfl, hb1⟩
      have hT1 := hT.below hb1 (Nat.le_refl _)
      have HX := checkText_any q x w1 hT1.long
      rw [ht] at HX
      have HA := arg2_any .long .fine x y w1 hT1
      unfold EK.val at HX HA
      unfold errV at HX HA
      unfold recV at HA
      go_wp2_with fail
      refine HX.mono ?_
      rintro e w2 ⟨rfl, rfl⟩
      go_wp2_with fail
      refine HA.mono ?_
      rintro e w3 ⟨rfl, hb3⟩
      have c3 := hb1.trans (hb3.mono hb1.size)
      have hcode : argFrom [.long, .fine] 0 = 2 := rfl
      rw [hcode]
      go_wp2_with fail
      go_ret2
      exact ⟨ret_eq HE.out.symm, c3⟩
    | long =>
      have HE := Lib.hid (cut_code (l := l) (q := q) (c := 2) (by rw [← arg_lt, hk, ht]; rfl) (by decide))
      go_enter Tryz.func46, Tryz.ntmps46
      go_wp2_with fail
      refine HC.mono ?_
      rintro e w1 ⟨rfl, hb1⟩
      have hT1 := hT.below hb1 (Nat.le_refl _)
      have HX := checkText_any q x w1 hT1.long
      rw [ht] at HX
      have HA := arg2_any .long .long x y w1 hT1
      unfold EK.val at HX HA
      unfold errV at HX HA
      unfold recV at HA
      go_wp2_with fail
      refine HX.mono ?_
      rintro e w2 ⟨rfl, rfl⟩
      go_wp2_with fail
      refine HA.mono ?_
      rintro e w3 ⟨rfl, hb3⟩
      have c3 := hb1.trans (hb3.mono hb1.size)
      have hcode : argFrom [.long, .long] 0 = 2 := rfl
      rw [hcode]
      go_wp2_with fail
      go_ret2
      exact ⟨ret_eq HE.out.symm, c3⟩
    | bad i c => exact absurd ht text_not
  | bad i c =>
    rw [hk] at HC
    unfold EK.val recV at HC
    cases ht : textK q with
    | fine =>
      have HE := Lib.hid (cut_code (l := l) (q := q) (c := 1) (by rw [← arg_lt, hk, ht]; rfl) (by decide))
      go_enter Tryz.func46, Tryz.ntmps46
      go_wp2_with fail
      refine HC.mono ?_
      rintro e w1 ⟨rfl, hb1⟩
      have hT1 := hT.below hb1 (Nat.le_refl _)
      have HX := checkText_any q x w1 hT1.long
      rw [ht] at HX
      have HA := arg2_any (.bad i c) .fine x y w1 hT1
      unfold EK.val at HX HA
      unfold errV at HX HA
      unfold recV at HA
      go_wp2_with fail
      refine HX.mono ?_
      rintro e w2 ⟨rfl, rfl⟩
      go_wp2_with fail
      refine HA.mono ?_
      rintro e w3 ⟨rfl, hb3⟩
      have c3 := hb1.trans (hb3.mono hb1.size)
      have hcode : argFrom [(.bad i c), .fine] 0 = 1 := rfl
      rw [hcode]
      go_wp2_with fail
      go_ret2
      exact ⟨ret_eq HE.out.symm, c3⟩
    | long =>
      have HE := Lib.hid (cut_code (l := l) (q := q) (c := 2) (by rw [← arg_lt, hk, ht]; rfl) (by decide))
      go_enter Tryz.func46, Tryz.ntmps46
      go_wp2_with fail
      refine HC.mono ?_
      rintro e w1 ⟨rfl, hb1⟩
      have hT1 := hT.below hb1 (Nat.le_refl _)
      have HX := checkText_any q x w1 hT1.long
      rw [ht] at HX
      have HA := arg2_any (.bad i c) .long x y w1 hT1
      unfold EK.val at HX HA
      unfold errV at HX HA
      unfold recV at HA
      go_wp2_with fail
      refine HX.mono ?_
      rintro e w2 ⟨rfl, rfl⟩
      go_wp2_with fail
      refine HA.mono ?_
      rintro e w3 ⟨rfl, hb3⟩
      have c3 := hb1.trans (hb3.mono hb1.size)
      have hcode : argFrom [(.bad i c), .long] 0 = 2 := rfl
      rw [hcode]
      go_wp2_with fail
      go_ret2
      exact ⟨ret_eq HE.out.symm, c3⟩
    | bad i c => exact absurd ht text_not

set_option maxHeartbeats 800000 in
theorem cuts_spec (v : Value) (l : List R) (q : ByteArray) (w : World) (h : RecSl w v l) (hl : l.length ≤ 1048576) :
    Calls Tryz.prog 47 #[v, .string q] w fun e w' => e = .returned (cutV l q) ∧ Below w.heap.size w w' := by
  have HC := l03OK_any v l _ h hl
  have hsl := h
  obtain ⟨A, cap, rfl, hcap, h⟩ := h
  by_cases h4 : 4096 < l.length
  · have HE := Lib.hid (cut_code (l := l) (q := q) (c := 2) (by unfold codeLT; rw [if_pos (.inl h4)]) (by decide))
    have hd : decide ((4096 : Int) < (l.length : Int)) = true := by simp; omega
    go_enter Tryz.func47, Tryz.ntmps47
    go_wp2_with fail
    go_ret2
    exact ⟨ret_eq HE.out.symm, Below.refl _ _⟩
  have hd4 : decide ((4096 : Int) < (l.length : Int)) = false := by simp; omega
  by_cases h5 : 65536 < q.size
  · have HE := Lib.hid (cut_code (l := l) (q := q) (c := 2) (by unfold codeLT; rw [if_pos (.inr h5)]) (by decide))
    have hd : decide ((65536 : Int) < (q.size : Int)) = true := by simp; omega
    go_enter Tryz.func47, Tryz.ntmps47
    go_wp2_with fail
    go_ret2
    exact ⟨ret_eq HE.out.symm, Below.refl _ _⟩
  have hd5 : decide ((65536 : Int) < (q.size : Int)) = false := by simp; omega
  have HL : Hid (codeLT l q = if layerOK l then 0 else 1) := by show _ = _; unfold codeLT; rw [if_neg (by omega)]
  rcases Bool.eq_false_or_eq_true (layerOK l) with hk | hk
  case inr =>
    have HE := Lib.hid (cut_code (l := l) (q := q) (c := 1) (by rw [HL.out, hk]; rfl) (by decide))
    rw [hk] at HC
    go_enter Tryz.func47, Tryz.ntmps47
    go_wp2_with fail
    refine HC.mono ?_
    rintro e w1 ⟨rfl, hb1⟩
    go_wp2_with fail
    go_ret2
    exact ⟨ret_eq HE.out.symm, hb1⟩
  have H0 : Hid (codeLT l q = 0) := by show _ = _; rw [HL.out, hk]; rfl
  rw [hk] at HC
  go_enter Tryz.func47, Tryz.ntmps47
  go_wp2_with fail
  refine HC.mono ?_
  rintro e w1 ⟨rfl, hb1⟩
  go_wp2_with fail
  refine (l01OK_any q _).mono ?_
  rintro e w2 ⟨rfl, hb2⟩
  have c2 := hb1.trans (hb2.mono hb1.size)
  rcases Bool.eq_false_or_eq_true (pathB q.data.toList) with hp | hp
  · have HE := Lib.hid (cut_path H0.out hp)
    have HU := l06Cuts_any _ l q _ (hsl.below c2) hl hp
    rw [hp]
    go_wp2_with fail
    refine HU.mono ?_
    rintro e w3 ⟨rfl, hb3⟩
    go_wp2_with fail
    go_ret2
    exact ⟨ret_eq HE.out.symm, c2.trans (hb3.mono c2.size)⟩
  · have HE := Lib.hid (cut_name H0.out hp)
    rw [hp]
    go_wp2_with fail
    go_ret2
    exact ⟨ret_eq HE.out.symm, c2⟩
end Go.Proofs.YtcbmnihepeefaaaGreatDoor.Recs

/- Layers: Canonical and IsCanonical, of the program and of its model. Conditions (of the program's): the table of kinds, the two sentinels. -/
namespace Go.Proofs.YtcbmnihepeefaaaGreatDoor.Recs
set_option maxRecDepth 100000
open Go.RowKit Paths Errs

set_option maxHeartbeats 1600000 in
theorem isCanonical_spec (v : Value) (l : List R) (w : World) (h : RecSl w v l) (hl : l.length ≤ 1048576) :
    Calls Tryz.prog 39 #[v] w fun e w' => e = .returned (.bool (isCan l)) ∧ Below w.heap.size w w' := by
  have HC := l03OK_any v l _ h hl
  have hsl := h
  obtain ⟨A, cap, rfl, hcap, h⟩ := h
  by_cases h4 : 4096 < l.length
  · have HO : Hid (isCan l = false) := by show _ = _; unfold isCan okL; rw [decide_eq_false (by omega)]; rfl
    have hd : decide ((4096 : Int) < (l.length : Int)) = true := by simp; omega
    go_enter Tryz.func39, Tryz.ntmps39
    go_wp2_with fail
    go_ret
    exact ⟨ret_bool HO.out.symm, Below.refl _ _⟩
  have hd4 : decide ((4096 : Int) < (l.length : Int)) = false := by simp; omega
  have HK : Hid (okL l = layerOK l) := by show _ = _; unfold okL; rw [decide_eq_true (by omega)]; rfl
  rcases Bool.eq_false_or_eq_true (layerOK l) with hk | hk
  case inr =>
    have HO : Hid (isCan l = false) := by show _ = _; unfold isCan; rw [HK.out, hk]; rfl
    rw [hk] at HC
    go_enter Tryz.func39, Tryz.ntmps39
    go_wp2_with fail
    refine HC.mono ?_
    rintro e w1 ⟨rfl, hb1⟩
    go_wp2_with fail
    go_ret
    exact ⟨ret_bool HO.out.symm, hb1⟩
  have HO : Hid (isCan l = decide (l = canonL l)) := by
    show _ = _
    unfold isCan
    rw [HK.out, hk, Bool.true_and, decide_eq_decide]
    exact eq_comm
  rw [hk] at HC
  go_enter Tryz.func39, Tryz.ntmps39
  go_wp2_with fail
  refine HC.mono ?_
  rintro e w1 ⟨rfl, hb1⟩
  go_wp2_with fail
  refine (l03Canon_any _ l _ (hsl.below hb1) hk).mono ?_
  rintro e w2 ⟨f, rfl, hb2, hr2⟩
  have c2 := hb1.trans (hb2.mono hb1.size)
  go_wp2_with fail
  refine (l03Same_any _ f l (canonL l) _ (hsl.below c2) hr2.sl hl).mono ?_
  rintro e w3 ⟨rfl, n3, rfl⟩
  go_wp2_with fail
  go_ret
  exact ⟨ret_bool HO.out.symm, below_drewN c2 n3⟩
end Go.Proofs.YtcbmnihepeefaaaGreatDoor.Recs
