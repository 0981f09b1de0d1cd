/- Parts of several texts of mine in one file (each begins with its own remark). -/
import Derived.Test.YtcbmnihepeefaaaGreatDoorCA1
import Derived.Test.YtcbmnihepeefaaaGreatDoorCA10
import Derived.Test.YtcbmnihepeefaaaGreatDoorCA2
import Derived.Test.YtcbmnihepeefaaaGreatDoorCA3
import Derived.Test.YtcbmnihepeefaaaGreatDoorCA4
import Derived.Test.YtcbmnihepeefaaaGreatDoorCA5
import Derived.Test.YtcbmnihepeefaaaGreatDoorCA6
import Derived.Test.YtcbmnihepeefaaaGreatDoorCA7
import Derived.Test.YtcbmnihepeefaaaGreatDoorCA8
import Derived.Test.YtcbmnihepeefaaaGreatDoorCA9
import Derived.Test.YtcbmnihepeefaaaGreatDoorCB1
import Derived.Test.YtcbmnihepeefaaaGreatDoorCB11
import Derived.Test.YtcbmnihepeefaaaGreatDoorCB3
import Derived.Test.YtcbmnihepeefaaaGreatDoorCB9
import Derived.Test.YtcbmnihepeefaaaGreatDoorCH1
import Derived.Test.YtcbmnihepeefaaaGreatDoorCH2
import Derived.Test.YtcbmnihepeefaaaGreatDoorCH3
import Derived.Test.YtcbmnihepeefaaaGreatDoorCH4
import Derived.Test.YtcbmnihepeefaaaGreatDoorChecked
import Derived.Test.YtcbmnihepeefaaaGreatDoorShelf
import Derived.Test.YtcbmnihepeefaaaGreatDoorProg
import Derived.Test.YtcbmnihepeefaaaGreatDoorRows
import Derived.Deep.RegionWith
import Derived.StillTailTactics
import Derived.Laws.OwnMore
import Derived.BigQuiet
import Derived.BigRegion
import Derived.Deep.QuietTactic
import Derived.Deep.RegionHeld3
import Derived.Deep.Slices
import Derived.OpenShut
import Derived.ShutString
import Derived.ChangeArms
import Derived.WideShapes
import Derived.Lib.LaidTab
import Derived.Deep.Draws
import Derived.Deep.LoopGhost
import Derived.WalkKit
import Derived.WalkSpells
import Derived.WalkSmall
import Derived.Lib.OthersKept
import Derived.Lib.Hide
import Derived.Lib.Strings
import Derived.Lib.Join
import Derived.Laws.BytesArg
import Derived.Stop.LaidErr
import Derived.WalkLawsBesides
import Derived.LaidEql
import Derived.Stop.Asserts
import Derived.Below
import Derived.Stop.LaidTwo
import Derived.OneCell
import Derived.Lib.SliceRun
import Derived.Lib.Overlaps
import Derived.Lib.AppendZerosOnto
import Derived.Laws.NewBlocks
import Derived.Laws.IdiomCopy
import Derived.Deep.RegionLaw
import Derived.ChangeVars
import Derived.Deep.DeepHandedRow
import Derived.Deep.AppendLies
import Derived.Laws.EntriesVeiled
/- Trees: ListDir, of the program and of its model. Conditions (of the program's): the table of kinds, the two sentinels. -/
namespace Go.Proofs.YtcbmnihepeefaaaGreatDoor.Recs
set_option maxRecDepth 100000
open Go.RowKit Paths Errs

def partsL (K : List R) : List (List UInt8) := K.map fun c => (lastB c.p).data.toList
theorem partsL_snoc (K : List R) (c : R) : partsL (K ++ [c]) = partsL K ++ [(lastB c.p).data.toList] := by simp [partsL]
theorem partsL_len (K : List R) : (partsL K).length = K.length := by simp [partsL]
theorem kids_step {l : List R} {k : Nat} (hk : k < l.length) (q : ByteArray) : kids (l.take (k + 1)) q = if parO l[k].p = q then kids (l.take k) q ++ [l[k]] else kids (l.take k) q := by
  unfold kids
  rw [List.take_add_one, List.getElem?_eq_getElem hk, List.filter_append]
  by_cases h : parO l[k].p = q <;> simp [h]
theorem own_snoc {w : World} {base : Nat} {v : Value} {M : List (List UInt8)} {p : ByteArray} (h : w.ownsRow base 9 1 v (M.length + 1) (M.map strV ++ [.string (lastB p)])) : w.ownsRow base 9 1 v (M ++ [(lastB p).data.toList]).length ((M ++ [(lastB p).data.toList]).map strV) := by
  rw [List.length_append, List.map_append]
  exact h
set_option maxHeartbeats 1600000 in
theorem l04List_any (v : Value) (l : List R) (q : ByteArray) (w : World) (h : NodSl w v l) (hl : l.length ≤ 1000) (ht : IsTree l) :
    Calls Tryz.prog 106 #[v, .string q] w fun e w' => ∃ x, e = .returned x ∧ Below w.heap.size w w' ∧ w'.ownsRow w.heap.size 9 1 x (partsL (kids l q)).length ((partsL (kids l q)).map strV) := by
  obtain ⟨i0, hi, hz0, hz1, hz2⟩ := info_parts strInfo
  obtain ⟨ho, sA, cap, rfl, hcap, h⟩ := h
  have H := Lib.hid h
  have HTr := Lib.hid ht
  clear h ht
  have hb0 : Below w.heap.size w (w.alloc (.cells #[] 9)) := (Below.refl _ _).alloc (Nat.le_refl _) _
  have hown0 : (w.alloc (.cells #[] 9)).ownsRow w.heap.size 9 1 (.slice (some ⟨w.heap.size, 0, none⟩) 0 0) 0 [] := World.ownsRow_lit w #[] 0 (Nat.le_refl _) (Nat.zero_le _) rfl
  go_enter Tryz.func106, Tryz.ntmps106
  go_wp2
  go_loopw [5, 6] (fun f i wr => ∃ (k : Nat) (M : List (List UInt8)), k ≤ l.length ∧ i = .int .i64 k ∧ Hid (M = partsL (kids (l.take k) q)) ∧ wr.ownsRow w.heap.size 9 1 f M.length (M.map strV) ∧ Below w.heap.size w wr) (fun _ i _ => l.length - (intOf i).toNat)
  case atStart => exact ⟨0, [], by omega, rfl, rfl, hown0, hb0⟩
  case round =>
    obtain ⟨k, M, hk, rfl, HM, hown, hbw⟩ := hrel
    by_cases hlt : k < l.length
    · obtain ⟨b, off, rfl, hb, hcell⟩ := H.out (by omega)
      obtain ⟨_, c1, _, _⟩ := (hcell k l[k] (by simp [hlt])).below hbw hb
      clear hcell
      have hi1 : (k : Int) < (l.length : Int) := by omega
      have hi0 : (0 : Int) ≤ (k : Int) := by omega
      have hp := HTr.out.path _ (List.getElem_mem hlt)
      have hs : l[k].p.size ≤ 35 := by rw [Lib.size_eq]; exact pathB_len hp
      have HPA := l01Parent_any l[k].p wr (by unfold maxLen; omega)
      have HST := Lib.hid (kids_step hlt q)
      have hMl : M.length ≤ 1000 := by
        rw [HM.out, partsL_len]
        exact Nat.le_trans (List.length_filter_le _ _) (by rw [List.length_take]; omega)
      obtain ⟨fA, fcap, rfl⟩ := own_form hown
      unfold strV at HPA
      by_cases hpq : parO l[k].p = q
      · have HN : Hid (M ++ [(lastB l[k].p).data.toList] = partsL (kids (l.take (k + 1)) q)) := by show _ = _; rw [HST.out, if_pos hpq, partsL_snoc, ← HM.out]
        have heq : (parentL l[k].p.data.toList == q.toList) = true := by
          rw [Lib.toList_data, ← hpq, parO_data]; simp
        clear hpq
        go_wp2_with fail
        refine HPA.mono ?_
        rintro e w2 ⟨rfl, rfl⟩
        go_wp2_with fail
        refine (l00Cut_any l[k].p 47 47 rfl _ (by omega)).mono ?_
        rintro e w3 ⟨v3, rfl, hb3, hown3⟩
        have hv3 := part_sl hown3
        obtain ⟨pA, pc, rfl, hpc, hpv⟩ := hv3
        have hcp := cutAt_pos 47 l[k].p.data.toList
        have h4 := (pathB_parts hp).1
        obtain ⟨g, rfl, hg, hpcell⟩ := hpv hcp
        have cl := cut_last hpcell
        have e3 := hbw.trans (hb3.mono hbw.size)
        have hown3' := own_below hown hb3
        have hsz3 := e3.size
        clear hpcell hpv hown3
        generalize (cutAt 47 l[k].p.data.toList).length = L at *
        have hw1 : IntKind.i64.wrap ((L : Int) - 1) = ((L - 1 : Nat) : Int) := by rw [IntKind.wrap_i64]; omega
        have hw2 : (L : Int) - 1 = ((L - 1 : Nat) : Int) := by omega
        have hii1 : ((L - 1 : Nat) : Int) < (L : Int) := by omega
        have hii0 : (0 : Int) ≤ ((L - 1 : Nat) : Int) := by omega
        go_wp2_with (first
          | (at_builtin; refine wpList_append_own _ rfl _ _ 36 rfl w.heap.size 9 i0 (.string ByteArray.empty) 1 16 Tryz.underlying36 hi hz0 hz1 hz2 rfl (by decide) _ _ _ rfl (hown3'.alloc _) ⟨w3.heap.size, 0, none⟩ 1 1 [.string (lastB l[k].p)] rfl rfl (cell_one_new _ _ _) (fun x hx => by simp at hx; subst hx; rfl) (by unfold maxLen; omega) (by omega) (by simp; omega) ?_; intro v' w9 hown' hgrow9 hnil9))
        exact ⟨⟨k + 1, _, by omega, by go_num, HN, own_snoc hown', (e3.alloc e3.size _).grown hgrow9 (e3.alloc e3.size _).size (fun j hj => (hown.lt j hj).1)⟩, by simp [intOf]; omega⟩
      · have HN : Hid (M = partsL (kids (l.take (k + 1)) q)) := by show _ = _; rw [HST.out, if_neg hpq, ← HM.out]
        have heq : (parentL l[k].p.data.toList == q.toList) = false := by
          rw [Bool.eq_false_iff, Lib.toList_data]
          intro e
          exact hpq (bytes_ext (by rw [parO_data]; exact of_decide_eq_true (by simpa using e)))
        clear hpq
        go_wp2_with fail
        refine HPA.mono ?_
        rintro e w2 ⟨rfl, rfl⟩
        go_wp2_with fail
        exact ⟨⟨k + 1, M, by omega, by go_num, HN, hown, hbw⟩, by simp [intOf]; omega⟩
    · have hkl : l.length ≤ k := by omega
      have HF : Hid (M = partsL (kids l q)) := by show _ = _; rw [HM.out, List.take_of_length_le hkl]
      go_wp2
      go_ret
      exact ⟨_, rfl, hbw, by rw [← HF.out]; exact hown⟩

def lisC (l : List R) (q : ByteArray) : Int :=
  if codeTT l q ≠ 0 then codeTT l q else if q.size = 0 then 0 else if pathB q.data.toList then (if (findT l q).2 ≠ 0 then (findT l q).2 else if (findT l q).1.k ≠ 3 then 13 else 0) else 10
def lisL (l : List R) (q : ByteArray) : List (List UInt8) := if lisC l q = 0 then partsL (kids l q) else []
def LisPost (l : List R) (q : ByteArray) (w : World) (e : Ending) (w' : World) : Prop :=
  ∃ x, e = .returned (.tuple #[x, .int .i64 (lisC l q)]) ∧ Below w.heap.size w w' ∧ w'.ownsRow w.heap.size 9 1 x (lisL l q).length ((lisL l q).map strV)
theorem lis_len (l : List R) (q : ByteArray) (hl : l.length ≤ 1048576) : (lisL l q).length ≤ 1048576 := by
  unfold lisL
  split
  · rw [partsL_len]
    exact Nat.le_trans (List.length_filter_le _ _) hl
  · simp
theorem lis_err {l : List R} {q : ByteArray} {c : Int} (h : lisC l q = c) (hc : c ≠ 0) {w w' : World} {x : Value} (hb : Below w.heap.size w w') (ho : w'.ownsRow w.heap.size 9 1 x 0 []) : LisPost l q w (.returned (.tuple #[x, .int .i64 c])) w' := by
  refine ⟨x, by rw [h], hb, ?_⟩
  have e : lisL l q = [] := if_neg (by rw [h]; exact hc)
  rw [e]
  exact ho
theorem lis_ok {l : List R} {q : ByteArray} (h : lisC l q = 0) {w w' : World} {base : Nat} {x : Value} (hb : Below w.heap.size w w') (ho : w'.ownsRow base 9 1 x (partsL (kids l q)).length ((partsL (kids l q)).map strV)) (hle : w.heap.size ≤ base) : LisPost l q w (.returned (.tuple #[x, .int .i64 0])) w' := by
  refine ⟨x, by rw [h], hb, ?_⟩
  have e : lisL l q = partsL (kids l q) := if_pos h
  rw [e]
  exact own_low ho hle
theorem lis_code {l : List R} {q : ByteArray} {c : Int} (h : codeTT l q = c) (hc : c ≠ 0) : lisC l q = c := by unfold lisC; rw [h, if_pos hc]
theorem lis_root {l : List R} {q : ByteArray} (h : codeTT l q = 0) (hq : q.size = 0) : lisC l q = 0 := by unfold lisC; rw [if_neg (by simpa using h), if_pos hq]
theorem lis_name {l : List R} {q : ByteArray} (h : codeTT l q = 0) (hq : 0 < q.size) (hp : pathB q.data.toList = false) : lisC l q = 10 := by unfold lisC; rw [if_neg (by simpa using h), if_neg (by omega), hp]; rfl
theorem lis_none {l : List R} {q : ByteArray} (h : codeTT l q = 0) (hq : 0 < q.size) (hp : pathB q.data.toList = true) (hn : (findT l q).2 ≠ 0) : lisC l q = (findT l q).2 := by unfold lisC; rw [if_neg (by simpa using h), if_neg (by omega), hp, if_pos rfl, if_pos hn]
theorem findT_some {l : List R} {q : ByteArray} {r : R} (h : recAt l q = some r) : findT l q = (r, 0) := by unfold findT; rw [h]
theorem lis_file {l : List R} {q : ByteArray} {r : R} (h : codeTT l q = 0) (hq : 0 < q.size) (hp : pathB q.data.toList = true) (hr : recAt l q = some r) (h3 : r.k ≠ 3) : lisC l q = 13 := by
  unfold lisC; rw [if_neg (by simpa using h), if_neg (by omega), hp, if_pos rfl, findT_some hr, if_neg (by simp), if_pos h3]
theorem lis_dir {l : List R} {q : ByteArray} {r : R} (h : codeTT l q = 0) (hq : 0 < q.size) (hp : pathB q.data.toList = true) (hr : recAt l q = some r) (h3 : r.k = 3) : lisC l q = 0 := by
  unfold lisC; rw [if_neg (by simpa using h), if_neg (by omega), hp, if_pos rfl, findT_some hr, if_neg (by simp), if_neg (by simpa using h3)]

set_option maxHeartbeats 1600000 in
theorem listDir_spec (v : Value) (l : List R) (q : ByteArray) (w : World) (h : NodSl w v l) (hl : l.length ≤ 1048576) (hqs : q.size ≤ 1048576) :
    Calls Tryz.prog 19 #[v, .string q] w (LisPost l q w) := by
  have HC := l04Ask_any v l q w h hl
  have hsl := h
  obtain ⟨_, sA, cap, rfl, hcap, _⟩ := h
  have HN : Hid (∀ w1 : World, Below w.heap.size w w1 → Below w.heap.size w (w1.alloc (.cells #[] 9)) ∧ (w1.alloc (.cells #[] 9)).ownsRow w.heap.size 9 1 (.slice (some ⟨w1.heap.size, 0, none⟩) 0 0) 0 []) := fun w1 hb => ⟨hb.alloc hb.size _, World.ownsRow_lit w1 #[] 0 hb.size (Nat.zero_le _) rfl⟩
  by_cases h4 : 4096 < l.length
  · have HE := Lib.hid (lis_code (l := l) (q := q) (c := 2) (by unfold codeTT; rw [if_pos (.inl h4)]) (by decide))
    have hd : decide ((4096 : Int) < (l.length : Int)) = true := by simp; omega
    go_enter Tryz.func19, Tryz.ntmps19
    go_wp2_with fail
    go_ret2
    exact lis_err HE.out (by decide) (HN.out _ (Below.refl _ _)).1 (HN.out _ (Below.refl _ _)).2
  have hd4 : decide ((4096 : Int) < (l.length : Int)) = false := by simp; omega
  by_cases h5 : 65536 < q.size
  · have HE := Lib.hid (lis_code (l := l) (q := q) (c := 2) (by unfold codeTT; rw [if_pos (.inr h5)]) (by decide))
    have hd : decide ((65536 : Int) < (q.size : Int)) = true := by simp; omega
    go_enter Tryz.func19, Tryz.ntmps19
    go_wp2_with fail
    go_ret2
    exact lis_err HE.out (by decide) (HN.out _ (Below.refl _ _)).1 (HN.out _ (Below.refl _ _)).2
  have hd5 : decide ((65536 : Int) < (q.size : Int)) = false := by simp; omega
  go_enter Tryz.func19, Tryz.ntmps19
  go_wp2_with fail
  refine HC.mono ?_
  rintro e w1 ⟨rfl, hb1⟩
  by_cases h0 : codeTT l q = 0
  case neg =>
    have HE := Lib.hid (lis_code (l := l) (q := q) rfl h0)
    have H0 := Lib.hid h0
    have hd : (codeTT l q != 0) = true := by simpa using h0
    generalize codeTT l q = c at *
    clear h0
    go_wp2_with fail
    go_ret2
    exact lis_err HE.out H0.out (HN.out _ hb1).1 (HN.out _ hb1).2
  have HT := Lib.hid (code_tree h0)
  have hlen := HT.out.len
  have H0 := Lib.hid h0
  rw [h0]
  clear h0
  by_cases hq0 : q.size = 0
  · have HE := Lib.hid (lis_root H0.out hq0)
    have he := isEmpty_true hq0
    clear hq0
    go_wp2_with fail
    refine (l04List_any _ l q _ (hsl.below hb1) (by omega) HT.out.is).mono ?_
    rintro e w2 ⟨x, rfl, hb2, ho2⟩
    have HO := Lib.hid ho2
    obtain ⟨xA, xc, rfl⟩ := own_form ho2
    clear ho2
    go_wp2_with fail
    go_ret2
    exact lis_ok HE.out (hb1.trans (hb2.mono hb1.size)) HO.out hb1.size
  have hqp : 0 < q.size := by omega
  have he := isEmpty_false hqp
  have HP := l01OK_any q w1
  clear hq0
  cases hp : pathB q.data.toList with
  | false =>
    have HE := Lib.hid (lis_name H0.out hqp hp)
    rw [hp] at HP
    go_wp2_with fail
    refine HP.mono ?_
    rintro e w2 ⟨rfl, hb2⟩
    have c2 := hb1.trans (hb2.mono hb1.size)
    go_wp2_with fail
    go_ret2
    exact lis_err HE.out (by decide) (HN.out _ c2).1 (HN.out _ c2).2
  | true =>
    rw [hp] at HP
    go_wp2_with fail
    refine HP.mono ?_
    rintro e w2 ⟨rfl, hb2⟩
    have c2 := hb1.trans (hb2.mono hb1.size)
    have HFI := l04Find_any _ l q w2 (hsl.below c2) hl HT.out.is hp
    unfold foundV R.nod at HFI
    cases hra : recAt l q with
    | none =>
      obtain ⟨e1, e2⟩ := found_not hra
      have HE := Lib.hid (lis_none H0.out hqp hp e2)
      have H2 := Lib.hid e2
      have hd : ((findT l q).2 != 0) = true := by simpa using e2
      generalize findT l q = F at *
      clear e1 e2
      go_wp2_with fail
      refine HFI.mono ?_
      rintro e w3 ⟨rfl, hb3⟩
      have c3 := c2.trans (hb3.mono c2.size)
      have c4 := c3.alloc c3.size (.cells #[.int .i64 F.1.k, .string F.1.p, .string F.1.b, .int .i64 F.1.m] 29)
      go_wp2_with fail
      go_ret2
      exact lis_err HE.out H2.out (HN.out _ c4).1 (by have := (HN.out _ c4).2; rw [World.size_alloc] at this; exact this)
    | some r =>
      have HFT := findT_some hra
      rw [HFT] at HFI
      clear HFT
      by_cases h3 : r.k = 3
      · have HE := Lib.hid (lis_dir H0.out hqp hp hra h3)
        have hd : (r.k != 3) = false := by simpa using h3
        clear h3
        go_wp2_with fail
        refine HFI.mono ?_
        rintro e w3 ⟨rfl, hb3⟩
        have c3 := c2.trans (hb3.mono c2.size)
        have c4 := c3.alloc c3.size (.cells #[.int .i64 r.k, .string r.p, .string r.b, .int .i64 r.m] 29)
        have HLI := l04List_any _ l q _ (hsl.below c4) (by omega) HT.out.is
        go_wp2_with fail
        refine HLI.mono ?_
        rintro e w5 ⟨x, rfl, hb5, ho5⟩
        have HO := Lib.hid ho5
        obtain ⟨xA, xc, rfl⟩ := own_form ho5
        clear ho5
        go_wp2_with fail
        go_ret2
        exact lis_ok HE.out (c4.trans (hb5.mono c4.size)) HO.out c4.size
      · have HE := Lib.hid (lis_file H0.out hqp hp hra h3)
        have hd : (r.k != 3) = true := by simpa using h3
        clear h3
        go_wp2_with fail
        refine HFI.mono ?_
        rintro e w3 ⟨rfl, hb3⟩
        have c3 := c2.trans (hb3.mono c2.size)
        have c4 := c3.alloc c3.size (.cells #[.int .i64 r.k, .string r.p, .string r.b, .int .i64 r.m] 29)
        go_wp2_with fail
        go_ret2
        exact lis_err HE.out (by decide) (HN.out _ c4).1 (by have := (HN.out _ c4).2; rw [World.size_alloc] at this; exact this)

set_option maxHeartbeats 3200000 in
theorem listDir_impl (v : Value) (l : List R) (q : ByteArray) (x y : Addr) (w : World) (h : NodSl w v l) (hl : l.length ≤ 1048576) (hr : ∀ r ∈ l, r.p.size ≤ maxLen) (hqm : q.size ≤ maxLen) (hT : Three w x y) :
    Calls Tryz.prog 18 #[v, .string q] w (LisPost l q w) := by
  obtain ⟨i0, hi, hz0, hz1, hz2⟩ := info_parts strInfo
  have HG := growTree_any v l x y w h hl hr hT
  obtain ⟨ho, sA, cap, rfl, hcap, h⟩ := h
  clear h
  go_enter Tryz.func18, Tryz.ntmps18
  go_wp2_with fail
  refine HG.mono ?_
  rintro e w1 ⟨hb1, HK⟩
  have hT1 := hT.below hb1 (Nat.le_refl _)
  have HXA := checkTextN_any q x y w1 hT1.long
  rcases HK with ⟨hk, rfl⟩ | ⟨hk, A, S, rfl, hTr⟩
  · cases hg : growK l with
    | fine => exact absurd hg hk
    | long =>
      cases ht : textN q with
      | fine =>
        unfold EN.val
        unfold errV
        have HA := argN2_any .long .fine x y w1 hT1
        have HX := HXA
        rw [ht] at HX
        have HE := Lib.hid (lis_code (l := l) (q := q) (c := 2) (by rw [← arg_tt, hg, ht]; rfl) (by decide))
        clear HXA
        unfold EN.val at HX HA
        unfold errV at HX HA
        go_wp2_with fail
        refine HX.mono ?_
        rintro e w2 ⟨rfl, rfl⟩
        go_wp2_with fail
        refine HA.mono ?_
        rintro e w3 ⟨rfl, hb3⟩
        have c3 := hb1.trans (hb3.mono hb1.size)
        have hcode : enFrom [.long, .fine] 0 = 2 := rfl
        rw [hcode]
        go_wp2_with fail
        go_ret2
        exact lis_err HE.out (by decide) c3 (World.ownsRow_nil _ _ _ _)
      | long =>
        unfold EN.val
        unfold errV
        have HA := argN2_any .long .long x y w1 hT1
        have HX := HXA
        rw [ht] at HX
        have HE := Lib.hid (lis_code (l := l) (q := q) (c := 2) (by rw [← arg_tt, hg, ht]; rfl) (by decide))
        clear HXA
        unfold EN.val at HX HA
        unfold errV at HX HA
        go_wp2_with fail
        refine HX.mono ?_
        rintro e w2 ⟨rfl, rfl⟩
        go_wp2_with fail
        refine HA.mono ?_
        rintro e w3 ⟨rfl, hb3⟩
        have c3 := hb1.trans (hb3.mono hb1.size)
        have hcode : enFrom [.long, .long] 0 = 2 := rfl
        rw [hcode]
        go_wp2_with fail
        go_ret2
        exact lis_err HE.out (by decide) c3 (World.ownsRow_nil _ _ _ _)
      | inv => exact absurd ht textN_not
    | inv =>
      cases ht : textN q with
      | fine =>
        unfold EN.val
        unfold errV
        have HA := argN2_any .inv .fine x y w1 hT1
        have HX := HXA
        rw [ht] at HX
        have HE := Lib.hid (lis_code (l := l) (q := q) (c := 1) (by rw [← arg_tt, hg, ht]; rfl) (by decide))
        clear HXA
        unfold EN.val at HX HA
        unfold errV at HX HA
        go_wp2_with fail
        refine HX.mono ?_
        rintro e w2 ⟨rfl, rfl⟩
        go_wp2_with fail
        refine HA.mono ?_
        rintro e w3 ⟨rfl, hb3⟩
        have c3 := hb1.trans (hb3.mono hb1.size)
        have hcode : enFrom [.inv, .fine] 0 = 1 := rfl
        rw [hcode]
        go_wp2_with fail
        go_ret2
        exact lis_err HE.out (by decide) c3 (World.ownsRow_nil _ _ _ _)
      | long =>
        unfold EN.val
        unfold errV
        have HA := argN2_any .inv .long x y w1 hT1
        have HX := HXA
        rw [ht] at HX
        have HE := Lib.hid (lis_code (l := l) (q := q) (c := 2) (by rw [← arg_tt, hg, ht]; rfl) (by decide))
        clear HXA
        unfold EN.val at HX HA
        unfold errV at HX HA
        go_wp2_with fail
        refine HX.mono ?_
        rintro e w2 ⟨rfl, rfl⟩
        go_wp2_with fail
        refine HA.mono ?_
        rintro e w3 ⟨rfl, hb3⟩
        have c3 := hb1.trans (hb3.mono hb1.size)
        have hcode : enFrom [.inv, .long] 0 = 2 := rfl
        rw [hcode]
        go_wp2_with fail
        go_ret2
        exact lis_err HE.out (by decide) c3 (World.ownsRow_nil _ _ _ _)
      | inv => exact absurd ht textN_not
  · have hg := hk
    unfold ptr
    cases ht : textN q with
    | long =>
      have HA := argN2_any .fine .long x y w1 hT1
      have HX := HXA
      rw [ht] at HX
      have HE := Lib.hid (lis_code (l := l) (q := q) (c := 2) (by rw [← arg_tt, hg, ht]; rfl) (by decide))
      clear HXA
      unfold EN.val at HX HA
      unfold errV at HX HA
      go_wp2_with fail
      refine HX.mono ?_
      rintro e w2 ⟨rfl, rfl⟩
      go_wp2_with fail
      refine HA.mono ?_
      rintro e w3 ⟨rfl, hb3⟩
      have c3 := hb1.trans (hb3.mono hb1.size)
      have hcode : enFrom [.fine, .long] 0 = 2 := rfl
      rw [hcode]
      go_wp2_with fail
      go_ret2
      exact lis_err HE.out (by decide) c3 (World.ownsRow_nil _ _ _ _)
    | inv => exact absurd ht textN_not
    | fine =>
      have H0 := Lib.hid (show codeTT l q = 0 by rw [← arg_tt, hg, ht]; rfl)
      have HA := argN2_any .fine .fine x y w1 hT1
      have HX := HXA
      rw [ht] at HX
      clear HXA
      unfold EN.val at HX HA
      unfold errV at HX HA
      go_wp2_with fail
      refine HX.mono ?_
      rintro e w2 ⟨rfl, rfl⟩
      go_wp2_with fail
      refine HA.mono ?_
      rintro e w3 ⟨rfl, hb3⟩
      have c3 := hb1.trans (hb3.mono hb1.size)
      have hTr3 := hTr.below hb3
      have hcode : enFrom [.fine, .fine] 0 = 0 := rfl
      rw [hcode]
      have HTR := Lib.hid (code_tree H0.out)
      have hl24 := HTR.out.len
      by_cases hq0 : q.size = 0
      · have HE := Lib.hid (lis_root H0.out hq0)
        have hqe : q = ByteArray.empty := ByteArray.ext (Array.eq_empty_of_size_eq_zero hq0)
        have HQ : Hid (rootR.p = q) := hqe.symm
        have he := isEmpty_true hq0
        clear hq0 hqe
        obtain ⟨_, k1, _, _, _, k5⟩ := (hTr3).cells root_mem
        obtain ⟨bA, bcap, hS, hbc, hbk⟩ := (hTr3).kid root_mem
        rw [hS] at k5
        have HB := Lib.hid hbk
        have HM : Hid (∀ i (hi : i < (kids l rootR.p).length), w3.cell? ⟨A (kids l rootR.p)[i].p, 0, none⟩ = some (.string (lastB (kids l rootR.p)[i].p))) := fun i hi => ((hTr3).cells (kid_mem (List.getElem_mem hi))).1
        have hkl : (kids l rootR.p).length ≤ 1000 := Nat.le_trans (List.length_filter_le _ _) (by omega)
        clear hbk hS
        generalize hK : kids l rootR.p = K at *
        rw [rootR_p] at k1 k5
        have hrk : rootR.k = 3 := rfl
        rw [hrk] at k1
        clear hrk
        go_wp2_with fail
        go_loopw [11, 50] (fun f i wr => ∃ (k : Nat) (M : List (List UInt8)), k ≤ K.length ∧ i = .int .i64 k ∧ Hid (M = partsL (K.take k)) ∧ wr.ownsRow w3.heap.size 9 1 f M.length (M.map strV) ∧ Below w3.heap.size w3 wr) (fun _ i _ => K.length - (intOf i).toNat)
        case atStart => exact ⟨0, [], by omega, rfl, rfl, World.ownsRow_nil _ _ _ _, Below.refl _ _⟩
        case round =>
          obtain ⟨k, M, hk2, rfl, HMM, hown, hbw⟩ := hrel
          by_cases hlt : k < K.length
          · obtain ⟨g, rfl, hg2, hcell⟩ := HB.out (by omega)
            have d1 := (hbw.cell (p := ⟨g, k, none⟩) hg2).trans (hcell k hlt)
            have hcA := HM.out k hlt
            have d2 := (hbw.cell (p := ⟨A K[k].p, 0, none⟩) (World.block_lt_of_cell? w3 _ hcA)).trans hcA
            unfold ptr at d1
            have hi1 : (k : Int) < (K.length : Int) := by omega
            have hi0 : (0 : Int) ≤ (k : Int) := by omega
            have hMl : M.length ≤ 1000 := by rw [HMM.out, partsL_len, List.length_take]; omega
            have HN : Hid (M ++ [(lastB K[k].p).data.toList] = partsL (K.take (k + 1))) := by
              show _ = _
              rw [List.take_add_one, List.getElem?_eq_getElem hlt]
              simp only [Option.toList]
              rw [partsL_snoc, ← HMM.out]
            obtain ⟨fA, fcap, rfl⟩ := own_form hown
            have hszw := hbw.size
            clear hcell hcA
            go_wp2_with (first
              | (at_builtin; refine wpList_append_own _ rfl _ _ 36 rfl w3.heap.size 9 i0 (.string ByteArray.empty) 1 16 Tryz.underlying36 hi hz0 hz1 hz2 rfl (by decide) _ _ _ rfl (hown.alloc _) ⟨wr.heap.size, 0, none⟩ 1 1 [.string (lastB K[k].p)] rfl rfl (cell_one_new _ _ _) (fun x hx => by simp at hx; subst hx; rfl) (by unfold maxLen; omega) (by omega) (by simp; omega) ?_; intro v' w9 hown' hgrow9 hnil9))
            exact ⟨⟨k + 1, _, by omega, by go_num, HN, own_snoc hown', (hbw.alloc hbw.size _).grown hgrow9 (hbw.alloc hbw.size _).size (fun j hj => (hown.lt j hj).1)⟩, by simp [intOf]; omega⟩
          · have HF : Hid (M = partsL K) := by show _ = _; rw [HMM.out, List.take_of_length_le (by omega)]
            obtain ⟨fA, fcap, rfl⟩ := own_form hown
            have HO : Hid (wr.ownsRow w3.heap.size 9 1 (.slice fA M.length fcap) (partsL (kids l q)).length ((partsL (kids l q)).map strV)) := by
              show World.ownsRow _ _ _ _ _ _ _
              rw [← HQ.out, hK, ← HF.out]
              exact hown
            clear hK hown
            go_wp2_with fail
            go_ret2
            exact lis_ok HE.out (c3.trans (hbw.mono c3.size)) HO.out c3.size
      · have hqp : 0 < q.size := by omega
        have he := isEmpty_false hqp
        have HR := resolvePath_any hTr3 HTR.out.is (by omega) q hqm
        unfold ptr resP at HR
        clear hq0
        cases hp : pathB q.data.toList with
        | false =>
          have HE := Lib.hid (lis_name H0.out hqp hp)
          rw [hp] at HR
          go_wp2_with fail
          refine HR.mono ?_
          rintro e w4 ⟨rfl, hb4⟩
          have c4 := c3.trans (hb4.mono c3.size)
          go_wp2_with fail
          go_ret2
          exact lis_err HE.out (by decide) c4 (World.ownsRow_nil _ _ _ _)
        | true =>
          rw [hp, if_pos rfl] at HR
          unfold resV at HR
          cases hra : recAt l q with
          | none =>
            obtain ⟨e1, e2⟩ := found_not hra
            have HE := Lib.hid (lis_none H0.out hqp hp e2)
            have H2 := Lib.hid e2
            have hd : ((findT l q).2 != 0) = true := by simpa using e2
            rw [if_neg e2] at HR
            clear e1 e2
            generalize (findT l q).2 = c at *
            go_wp2_with fail
            refine HR.mono ?_
            rintro e w4 ⟨rfl, hb4⟩
            have c4 := c3.trans (hb4.mono c3.size)
            go_wp2_with fail
            go_ret2
            exact lis_err HE.out H2.out c4 (World.ownsRow_nil _ _ _ _)
          | some r =>
            obtain ⟨e1, e2⟩ := found_here hra
            obtain ⟨hm, hrp⟩ := recAt_mem hra
            have HQ := Lib.hid hrp
            rw [e2, if_pos rfl] at HR
            clear e1 e2
            have hmr : r ∈ rootR :: l := List.mem_cons_of_mem _ hm
            by_cases h3 : r.k = 3
            · have HE := Lib.hid (lis_dir H0.out hqp hp hra h3)
              have hd : (r.k != 3) = false := by simpa using h3
              rw [← hrp] at HR
              clear h3 hrp
              go_wp2_with fail
              rw [HQ.out] at HR
              refine HR.mono ?_
              rintro e w4 ⟨rfl, hb4⟩
              have c4 := c3.trans (hb4.mono c3.size)
              have hTr4 := hTr3.below hb4
              rw [← HQ.out]
              obtain ⟨_, k1, _, _, _, k5⟩ := (hTr4).cells hmr
              obtain ⟨bA, bcap, hS, hbc, hbk⟩ := (hTr4).kid hmr
              rw [hS] at k5
              have HB := Lib.hid hbk
              have HM : Hid (∀ i (hi : i < (kids l r.p).length), w4.cell? ⟨A (kids l r.p)[i].p, 0, none⟩ = some (.string (lastB (kids l r.p)[i].p))) := fun i hi => ((hTr4).cells (kid_mem (List.getElem_mem hi))).1
              have hkl : (kids l r.p).length ≤ 1000 := Nat.le_trans (List.length_filter_le _ _) (by omega)
              clear hbk hS
              generalize hK : kids l r.p = K at *
              go_wp2_with fail
              go_loopw [11, 50] (fun f i wr => ∃ (k : Nat) (M : List (List UInt8)), k ≤ K.length ∧ i = .int .i64 k ∧ Hid (M = partsL (K.take k)) ∧ wr.ownsRow w4.heap.size 9 1 f M.length (M.map strV) ∧ Below w4.heap.size w4 wr) (fun _ i _ => K.length - (intOf i).toNat)
              case atStart => exact ⟨0, [], by omega, rfl, rfl, World.ownsRow_nil _ _ _ _, Below.refl _ _⟩
              case round =>
                obtain ⟨k, M, hk2, rfl, HMM, hown, hbw⟩ := hrel
                by_cases hlt : k < K.length
                · obtain ⟨g, rfl, hg2, hcell⟩ := HB.out (by omega)
                  have d1 := (hbw.cell (p := ⟨g, k, none⟩) hg2).trans (hcell k hlt)
                  have hcA := HM.out k hlt
                  have d2 := (hbw.cell (p := ⟨A K[k].p, 0, none⟩) (World.block_lt_of_cell? w4 _ hcA)).trans hcA
                  unfold ptr at d1
                  have hi1 : (k : Int) < (K.length : Int) := by omega
                  have hi0 : (0 : Int) ≤ (k : Int) := by omega
                  have hMl : M.length ≤ 1000 := by rw [HMM.out, partsL_len, List.length_take]; omega
                  have HN : Hid (M ++ [(lastB K[k].p).data.toList] = partsL (K.take (k + 1))) := by
                    show _ = _
                    rw [List.take_add_one, List.getElem?_eq_getElem hlt]
                    simp only [Option.toList]
                    rw [partsL_snoc, ← HMM.out]
                  obtain ⟨fA, fcap, rfl⟩ := own_form hown
                  have hszw := hbw.size
                  clear hcell hcA
                  go_wp2_with (first
                    | (at_builtin; refine wpList_append_own _ rfl _ _ 36 rfl w4.heap.size 9 i0 (.string ByteArray.empty) 1 16 Tryz.underlying36 hi hz0 hz1 hz2 rfl (by decide) _ _ _ rfl (hown.alloc _) ⟨wr.heap.size, 0, none⟩ 1 1 [.string (lastB K[k].p)] rfl rfl (cell_one_new _ _ _) (fun x hx => by simp at hx; subst hx; rfl) (by unfold maxLen; omega) (by omega) (by simp; omega) ?_; intro v' w9 hown' hgrow9 hnil9))
                  exact ⟨⟨k + 1, _, by omega, by go_num, HN, own_snoc hown', (hbw.alloc hbw.size _).grown hgrow9 (hbw.alloc hbw.size _).size (fun j hj => (hown.lt j hj).1)⟩, by simp [intOf]; omega⟩
                · have HF : Hid (M = partsL K) := by show _ = _; rw [HMM.out, List.take_of_length_le (by omega)]
                  obtain ⟨fA, fcap, rfl⟩ := own_form hown
                  have HO : Hid (wr.ownsRow w4.heap.size 9 1 (.slice fA M.length fcap) (partsL (kids l q)).length ((partsL (kids l q)).map strV)) := by
                    show World.ownsRow _ _ _ _ _ _ _
                    rw [← HQ.out, hK, ← HF.out]
                    exact hown
                  clear hK hown
                  go_wp2_with fail
                  go_ret2
                  exact lis_ok HE.out (c4.trans (hbw.mono c4.size)) HO.out c4.size
            · have HE := Lib.hid (lis_file H0.out hqp hp hra h3)
              have hd : (r.k != 3) = true := by simpa using h3
              clear h3
              go_wp2_with fail
              refine HR.mono ?_
              rintro e w4 ⟨rfl, hb4⟩
              have c4 := c3.trans (hb4.mono c3.size)
              obtain ⟨_, k1, _⟩ := (hTr3.below hb4).cells hmr
              rw [hrp] at k1
              go_wp2_with fail
              go_ret2
              exact lis_err HE.out (by decide) c4 (World.ownsRow_nil _ _ _ _)
end Go.Proofs.YtcbmnihepeefaaaGreatDoor.Recs
