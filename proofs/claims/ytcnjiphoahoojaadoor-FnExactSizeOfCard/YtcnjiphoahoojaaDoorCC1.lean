/- Parts of several texts of mine in one file (each begins with its own remark). -/
import Derived.Test.YtcnjiphoahoojaaDoorCA2
import Derived.Test.YtcnjiphoahoojaaDoorCA3
import Derived.Test.YtcnjiphoahoojaaDoorCA4
import Derived.Test.YtcnjiphoahoojaaDoorCA5
import Derived.Test.YtcnjiphoahoojaaDoorCA6
import Derived.Test.YtcnjiphoahoojaaDoorCA7
import Derived.Test.YtcnjiphoahoojaaDoorChecked
import Derived.Test.YtcnjiphoahoojaaDoorShelf
import Derived.Test.YtcnjiphoahoojaaDoorProg
import Derived.Test.YtcnjiphoahoojaaDoorRows
import Derived.Stop.LaidErr
import Derived.StillTailTactics
import Derived.Laws.OwnMore
import Derived.BigQuiet
import Derived.BigRegion
import Derived.Deep.QuietTactic
import Derived.Deep.RegionHeld3
import Derived.Deep.Slices
import Derived.OpenShut
import Derived.ShutString
import Derived.ChangeArms
import Derived.WideShapes
import Derived.Lib.LaidTab
import Derived.Deep.Draws
import Derived.Deep.LoopGhost
import Derived.WalkKit
import Derived.WalkSpells
import Derived.WalkSmall
import Derived.Lib.OthersKept
import Derived.Lib.Hide
import Derived.Lib.Strings
import Derived.Lib.Join
import Derived.Laws.BytesArg
import Derived.WalkLawsBesides
import Derived.LaidEql
import Derived.Stop.Asserts
import Derived.Below
import Derived.Stop.LaidTwo
import Derived.ChangeVars
import Derived.Deep.DeepHandedRow
/- The code of the errors of a call's arguments. Conditions: the table of kinds, the two sentinels. -/
namespace Go.Proofs.YtcnjiphoahoojaaDoor.Recs
set_option maxRecDepth 100000
open Go.RowKit Paths Errs

def argFrom : List EK → Int → Int
  | [], c => c
  | .fine :: t, c => argFrom t c
  | .long :: _, _ => 2
  | .bad _ _ :: t, _ => argFrom t 1
theorem arg_end {L : List EK} {k : Nat} {c : Int} (h : L.length ≤ k) : argFrom (L.drop k) c = c := by rw [List.drop_eq_nil_of_le h]; rfl
theorem arg_fine {L : List EK} {k : Nat} {c : Int} (h : k < L.length) (he : L[k] = .fine) : argFrom (L.drop k) c = argFrom (L.drop (k + 1)) c := by rw [List.drop_eq_getElem_cons h, he]; rfl
theorem arg_long {L : List EK} {k : Nat} {c : Int} (h : k < L.length) (he : L[k] = .long) : argFrom (L.drop k) c = 2 := by rw [List.drop_eq_getElem_cons h, he]; rfl
theorem arg_bad {L : List EK} {k : Nat} {c i d : Int} (h : k < L.length) (he : L[k] = .bad i d) : argFrom (L.drop k) c = argFrom (L.drop (k + 1)) 1 := by rw [List.drop_eq_getElem_cons h, he]; rfl

set_option maxHeartbeats 1600000 in
theorem argumentCode_any (g : Nat) (L : List EK) (x y : Addr) (w : World) (hT : Three w x y) (hg : g < w.heap.size) (hn : L.length ≤ 1000) (hc : ∀ k (h : k < L.length), w.cell? ⟨g, k, none⟩ = some (L[k].val x)) :
    Calls Tryd.prog 28 #[.slice (some ⟨g, 0, none⟩) L.length L.length] w fun e w' => e = .returned (.int .i64 (argFrom L 0)) ∧ Below w.heap.size w w' := by
  have HC := Lib.hid hc
  have HT := Lib.hid hT
  clear hc hT
  go_enter Tryd.func28, Tryd.ntmps28
  go_wp2
  go_loopw [3, 8] (fun c i wr => ∃ (k : Nat) (d : Int), k ≤ L.length ∧ i = .int .i64 k ∧ c = .int .i64 d ∧ Hid (argFrom L 0 = argFrom (L.drop k) d) ∧ Below w.heap.size w wr) (fun _ i _ => L.length - (intOf i).toNat)
  case atStart => exact ⟨0, 0, by omega, rfl, rfl, rfl, Below.refl _ _⟩
  case round =>
    obtain ⟨k, d, hk, rfl, rfl, HK, hbw⟩ := hrel
    by_cases hlt : k < L.length
    · have hcell : wr.cell? ⟨g, k, none⟩ = some (L[k].val x) := (hbw.cell (p := ⟨g, k, none⟩) hg).trans (HC.out k hlt)
      have hTr := HT.out.below hbw (Nat.le_refl _)
      have hx := hTr.long
      have hy := hTr.bad
      have hi1 : (k : Int) < (L.length : Int) := by omega
      have hi0 : (0 : Int) ≤ (k : Int) := by omega
      cases hE : L[k] with
      | fine =>
        have HF := Lib.hid (HK.out.trans (arg_fine hlt hE))
        rw [hE] at hcell
        unfold EK.val at hcell
        have H1 := is_nil x wr
        have H2 := is_nil y wr
        unfold errV at hx hy H1 H2
        go_wp2_with fail
        refine H1.mono ?_
        rintro e w1 ⟨rfl, rfl⟩
        go_wp2_with fail
        refine H2.mono ?_
        rintro e w2 ⟨rfl, rfl⟩
        go_wp2_with fail
        exact ⟨⟨k + 1, d, by omega, by go_num, rfl, HF, hbw⟩, by simp [intOf]; omega⟩
      | long =>
        have HF := Lib.hid (HK.out.trans (arg_long hlt hE))
        rw [hE] at hcell
        unfold EK.val at hcell
        have H1 := is_same x wr
        unfold errV at hx hy H1 hcell
        go_wp2_with fail
        refine H1.mono ?_
        rintro e w1 ⟨rfl, rfl⟩
        go_wp2_with fail
        go_ret
        exact ⟨ret_int HF.out.symm, hbw⟩
      | bad i c =>
        have HF := Lib.hid (HK.out.trans (arg_bad hlt hE))
        rw [hE] at hcell
        unfold EK.val at hcell
        obtain ⟨cx, tx, rx⟩ := hTr.rowx
        obtain ⟨cy, ty, ry⟩ := hTr.rowy
        have H1 := is_rec_other i c y x _ _ _ _ wr hy (Ne.symm hTr.ne) ry rx
        have hxl := World.block_lt_of_cell? wr _ hx
        have hyl := World.block_lt_of_cell? wr _ hy
        have hye := hy
        unfold recV at hcell H1
        unfold errV at hx hy H1
        go_wp2_with fail
        refine H1.mono ?_
        rintro e w1 ⟨rfl, hb1⟩
        have hy1 : w1.cell? ⟨1, 0, none⟩ = some (errV y) := (hb1.cell (p := ⟨1, 0, none⟩) hyl).trans hye
        have H2 := is_rec_same i c y w1 hy1
        unfold recV at H2
        unfold errV at hy1 H2
        go_wp2_with fail
        refine H2.mono ?_
        rintro e w2 ⟨rfl, hb2⟩
        go_wp2_with fail
        exact ⟨⟨k + 1, 1, by omega, by go_num, rfl, HF, (hbw.trans (hb1.mono hbw.size)).trans (hb2.mono (hbw.trans (hb1.mono hbw.size)).size)⟩, by simp [intOf]; omega⟩
    · have HE := Lib.hid (HK.out.trans (arg_end (by omega)))
      go_wp2
      go_ret
      exact ⟨ret_int HE.out.symm, hbw⟩

/-- What checkLayer answers. -/
def checkK (l : List R) : EK := if 4096 < l.length then .long else if (layerFaultL l).2 ≠ 0 then .bad (layerFaultL l).1 (layerFaultL l).2 else .fine
theorem checkK_val (l : List R) (x : Addr) : (checkK l).val x = checkV l x := by
  unfold checkK checkV
  split
  · rfl
  · split <;> rfl
def codeL (l : List R) : Int := if 4096 < l.length then 2 else if layerOK l then 0 else 1
theorem arg_l (l : List R) : argFrom [checkK l] 0 = codeL l := by
  by_cases h1 : 4096 < l.length <;> by_cases h3 : (layerFaultL l).2 = 0 <;> simp [checkK, codeL, argFrom, layerOK, h1, h3]
end Go.Proofs.YtcnjiphoahoojaaDoor.Recs

/- Layers: FindRecord, of the program and of its model. Conditions (of the program's): the table of kinds, the two sentinels. -/
namespace Go.Proofs.YtcnjiphoahoojaaDoor.Recs
set_option maxRecDepth 100000
open Go.RowKit Paths Errs

theorem arg1_any (a : EK) (x y : Addr) (w : World) (hT : Three w x y) :
    Calls Tryd.prog 28 #[.slice (some ⟨w.heap.size, 0, none⟩) 1 1] (w.alloc (.cells #[a.val x] 54)) fun e w' => e = .returned (.int .i64 (argFrom [a] 0)) ∧ Below w.heap.size w w' := by
  have hb0 : Below w.heap.size w (w.alloc (.cells #[a.val x] 54)) := (Below.refl _ _).alloc (Nat.le_refl _) _
  have := argumentCode_any w.heap.size [a] x y (w.alloc (.cells #[a.val x] 54)) (hT.below hb0 (Nat.le_refl _)) (by simp) (by simp) (fun k hk => by
    have hk2 : k < 1 := hk
    match k, hk2 with
    | 0, _ => go_simp)
  refine this.mono ?_
  rintro e w1 ⟨rfl, hb1⟩
  exact ⟨rfl, hb0.trans (hb1.mono hb0.size)⟩

end Go.Proofs.YtcnjiphoahoojaaDoor.Recs

/- Layers: Canonical and IsCanonical, of the program and of its model. Conditions (of the program's): the table of kinds, the two sentinels. -/
namespace Go.Proofs.YtcnjiphoahoojaaDoor.Recs
set_option maxRecDepth 100000
open Go.RowKit Paths Errs

theorem codeL_ok {l : List R} (h : codeL l = 0) : layerOK l = true := by
  unfold codeL at h
  split at h
  · cases h
  · split at h
    · assumption
    · cases h
end Go.Proofs.YtcnjiphoahoojaaDoor.Recs

/- SizeOf, of the program and of its model. Conditions (of the program's): the table of kinds, the two sentinels. -/
namespace Go.Proofs.YtcnjiphoahoojaaDoor.Recs
set_option maxRecDepth 100000
open Go.RowKit Paths Errs

/-- The bytes of all paths and bodies, and four a record. -/
def sizN (l : List R) : Nat := l.foldl (fun n r => n + (r.p.size + r.b.size + 4)) 0
theorem siz_step {l : List R} {k : Nat} (hk : k < l.length) : sizN (l.take (k + 1)) = sizN (l.take k) + (l[k].p.size + l[k].b.size + 4) := by
  unfold sizN
  rw [List.take_add_one, List.getElem?_eq_getElem hk, Option.toList_some, List.foldl_append]
  rfl
theorem siz_fold (l : List R) : ∀ n : Nat, (∀ r ∈ l, r.p.size ≤ 35 ∧ r.b.size ≤ 20) → l.foldl (fun n r => n + (r.p.size + r.b.size + 4)) n ≤ n + 59 * l.length := by
  induction l with
  | nil => intro n _; simp
  | cons x l ih =>
    intro n h
    have h1 := h x (by simp)
    have h2 := ih (n + (x.p.size + x.b.size + 4)) (fun r hr => h r (List.mem_cons_of_mem _ hr))
    rw [List.foldl_cons, List.length_cons]
    omega
theorem siz_le {l : List R} (h : ∀ r ∈ l, r.p.size ≤ 35 ∧ r.b.size ≤ 20) (k : Nat) : sizN (l.take k) ≤ 59 * l.length := by
  have h1 := siz_fold (l.take k) 0 (fun r hr => h r (List.mem_of_mem_take hr))
  have h2 : (l.take k).length ≤ l.length := by rw [List.length_take]; omega
  unfold sizN
  omega
theorem fault_sizes {r : R} (h : r.fault = 0) : r.p.size ≤ 35 ∧ r.b.size ≤ 20 := by
  obtain ⟨h1, _, _, h2⟩ := fault_path h
  refine ⟨?_, h2⟩
  have := pathB_len h1
  rw [Lib.size_eq]
  exact this
def sizC (l : List R) : Int := if codeL l = 0 then (sizN l : Int) else 0
theorem sizC_ok {l : List R} (h : codeL l = 0) : sizC l = (sizN l : Int) := if_pos h
theorem sizC_bad {l : List R} {c : Int} (h : codeL l = c) (hc : c ≠ 0) : sizC l = 0 := if_neg (by rw [h]; exact hc)

set_option maxHeartbeats 1600000 in
theorem sizeOf_impl (v : Value) (l : List R) (x y : Addr) (w : World) (h : RecSl w v l) (hl : l.length ≤ 1048576) (hr : ∀ r ∈ l, r.p.size ≤ maxLen) (hT : Three w x y) :
    Calls Tryd.prog 18 #[v] w fun e w' => e = .returned (.tuple #[.int .i64 (sizC l), .int .i64 (codeL l)]) ∧ Below w.heap.size w w' := by
  have HC := checkLayer_any v l x _ h hl hr hT.tab hT.long
  rw [← checkK_val] at HC
  have hsl := h
  obtain ⟨A, cap, rfl, hcap, h⟩ := h
  cases hk : checkK l with
  | fine =>
    rw [hk] at HC
    unfold EK.val at HC
    have h0 : codeL l = 0 := by rw [← arg_l, hk]; rfl
    have hok := codeL_ok h0
    have h16 := layer_len hok
    have HF : Hid (∀ r ∈ l, r.p.size ≤ 35 ∧ r.b.size ≤ 20) := fun r hm => fault_sizes (layer_rec hok hm)
    have HSL : Hid (∀ k, sizN (l.take k) ≤ 59 * l.length) := fun k => siz_le HF.out k
    have H0 := Lib.hid h0
    have H := Lib.hid h
    clear h0 hok h
    go_enter Tryd.func18, Tryd.ntmps18
    go_wp2_with fail
    refine HC.mono ?_
    rintro e w1 ⟨rfl, hb1⟩
    have hT1 := hT.below hb1 (Nat.le_refl _)
    have HA := arg1_any .fine x y w1 hT1
    unfold EK.val at HA
    go_wp2_with fail
    refine HA.mono ?_
    rintro e w3 ⟨rfl, hb3⟩
    have c3 := hb1.trans (hb3.mono hb1.size)
    have hcode : argFrom [.fine] 0 = 0 := rfl
    rw [hcode]
    clear hcode
    go_wp2_with fail
    go_loopw [5, 17] (fun f i wr => ∃ (k S : Nat), k ≤ l.length ∧ i = .int .i64 k ∧ Hid (S = sizN (l.take k)) ∧ f = .int .i64 (S : Int) ∧ Below w.heap.size w wr) (fun _ i _ => l.length - (intOf i).toNat)
    case atStart => exact ⟨0, 0, by omega, rfl, rfl, rfl, c3⟩
    case round =>
      obtain ⟨k, S, hk, rfl, HS, rfl, hbw⟩ := hrel
      by_cases hlt : k < l.length
      · obtain ⟨b, off, rfl, hb, hcell⟩ := H.out (by omega)
        obtain ⟨c0, c1, c2, c3, c4⟩ := (hcell k l[k] (by simp [hlt])).below hbw hb
        clear hcell
        have hi1 : (k : Int) < (l.length : Int) := by omega
        have hi0 : (0 : Int) ≤ (k : Int) := by omega
        obtain ⟨hp35, hb20⟩ := HF.out l[k] (List.getElem_mem hlt)
        have hS : S ≤ 944 := by have := HSL.out k; rw [← HS.out] at this; omega
        have HN : Hid (S + (l[k].p.size + l[k].b.size + 4) = sizN (l.take (k + 1))) := by show _ = _; rw [siz_step hlt, ← HS.out]
        have q0 : (0 : Int) ≤ (l[k].p.size : Int) := by omega
        have q1 : (l[k].p.size : Int) ≤ 35 := by omega
        have q2 : (0 : Int) ≤ (l[k].b.size : Int) := by omega
        have q3 : (l[k].b.size : Int) ≤ 20 := by omega
        have q4 : (0 : Int) ≤ (S : Int) := by omega
        have q5 : (S : Int) ≤ 944 := by omega
        go_wp2_with fail
        exact ⟨⟨k + 1, S + (l[k].p.size + l[k].b.size + 4), by omega, by go_num, HN, by go_num, hbw.alloc hbw.size _⟩, by simp [intOf]; omega⟩
      · have HE : Hid (S = sizN l) := by show _ = _; rw [HS.out, List.take_of_length_le (by omega)]
        go_wp2_with fail
        go_ret2
        exact ⟨by rw [H0.out, sizC_ok H0.out, ← HE.out]; rfl, hbw⟩
  | long =>
    rw [hk] at HC
    unfold EK.val errV at HC
    have HE := Lib.hid (show codeL l = 2 by rw [← arg_l, hk]; rfl)
    go_enter Tryd.func18, Tryd.ntmps18
    go_wp2_with fail
    refine HC.mono ?_
    rintro e w1 ⟨rfl, hb1⟩
    have hT1 := hT.below hb1 (Nat.le_refl _)
    have HA := arg1_any .long x y w1 hT1
    unfold EK.val at HA
    unfold errV at HA
    go_wp2_with fail
    refine HA.mono ?_
    rintro e w3 ⟨rfl, hb3⟩
    have c3 := hb1.trans (hb3.mono hb1.size)
    have hcode : argFrom [.long] 0 = 2 := rfl
    rw [hcode]
    go_wp2_with fail
    go_ret2
    exact ⟨by rw [HE.out, sizC_bad HE.out (by decide)]; rfl, c3⟩
  | bad i c =>
    rw [hk] at HC
    unfold EK.val recV at HC
    have HE := Lib.hid (show codeL l = 1 by rw [← arg_l, hk]; rfl)
    go_enter Tryd.func18, Tryd.ntmps18
    go_wp2_with fail
    refine HC.mono ?_
    rintro e w1 ⟨rfl, hb1⟩
    have hT1 := hT.below hb1 (Nat.le_refl _)
    have HA := arg1_any (.bad i c) x y w1 hT1
    unfold EK.val at HA
    unfold recV at HA
    go_wp2_with fail
    refine HA.mono ?_
    rintro e w3 ⟨rfl, hb3⟩
    have c3 := hb1.trans (hb3.mono hb1.size)
    have hcode : argFrom [(.bad i c)] 0 = 1 := rfl
    rw [hcode]
    go_wp2_with fail
    go_ret2
    exact ⟨by rw [HE.out, sizC_bad HE.out (by decide)]; rfl, c3⟩

set_option maxHeartbeats 1600000 in
theorem sizeOf_spec (v : Value) (l : List R) (w : World) (h : RecSl w v l) (hl : l.length ≤ 1048576) :
    Calls Tryd.prog 16 #[v] w fun e w' => e = .returned (.tuple #[.int .i64 (sizC l), .int .i64 (codeL l)]) ∧ Below w.heap.size w w' := by
  have HC := l03OK_any v l _ h hl
  obtain ⟨A, cap, rfl, hcap, h⟩ := h
  by_cases h4 : 4096 < l.length
  · have HE := Lib.hid (show codeL l = 2 from if_pos h4)
    have hd : decide ((4096 : Int) < (l.length : Int)) = true := by simp; omega
    go_enter Tryd.func16, Tryd.ntmps16
    go_wp2_with fail
    go_ret2
    exact ⟨by rw [HE.out, sizC_bad HE.out (by decide)]; rfl, Below.refl _ _⟩
  have hd4 : decide ((4096 : Int) < (l.length : Int)) = false := by simp; omega
  rcases Bool.eq_false_or_eq_true (layerOK l) with hk | hk
  case inr =>
    have HE := Lib.hid (show codeL l = 1 by unfold codeL; rw [if_neg h4, hk]; rfl)
    rw [hk] at HC
    go_enter Tryd.func16, Tryd.ntmps16
    go_wp2_with fail
    refine HC.mono ?_
    rintro e w1 ⟨rfl, hb1⟩
    go_wp2_with fail
    go_ret2
    exact ⟨by rw [HE.out, sizC_bad HE.out (by decide)]; rfl, hb1⟩
  have H0 := Lib.hid (show codeL l = 0 by unfold codeL; rw [if_neg h4, hk]; rfl)
  have h16 := layer_len hk
  have HF : Hid (∀ r ∈ l, r.p.size ≤ 35 ∧ r.b.size ≤ 20) := fun r hm => fault_sizes (layer_rec hk hm)
  have HSL : Hid (∀ k, sizN (l.take k) ≤ 59 * l.length) := fun k => siz_le HF.out k
  have H := Lib.hid h
  rw [hk] at HC
  clear h hk
  go_enter Tryd.func16, Tryd.ntmps16
  go_wp2_with fail
  refine HC.mono ?_
  rintro e w1 ⟨rfl, hb1⟩
  go_wp2_with fail
  go_loopw [4, 5] (fun f i wr => ∃ (k S : Nat), k ≤ l.length ∧ i = .int .i64 k ∧ Hid (S = sizN (l.take k)) ∧ f = .int .i64 (S : Int) ∧ Below w.heap.size w wr) (fun _ i _ => l.length - (intOf i).toNat)
  case atStart => exact ⟨0, 0, by omega, rfl, rfl, rfl, hb1⟩
  case round =>
    obtain ⟨k, S, hk, rfl, HS, rfl, hbw⟩ := hrel
    by_cases hlt : k < l.length
    · obtain ⟨b, off, rfl, hb, hcell⟩ := H.out (by omega)
      obtain ⟨c0, c1, c2, c3, c4⟩ := (hcell k l[k] (by simp [hlt])).below hbw hb
      clear hcell
      have hi1 : (k : Int) < (l.length : Int) := by omega
      have hi0 : (0 : Int) ≤ (k : Int) := by omega
      obtain ⟨hp35, hb20⟩ := HF.out l[k] (List.getElem_mem hlt)
      have hS : S ≤ 944 := by have := HSL.out k; rw [← HS.out] at this; omega
      have HN : Hid (S + (l[k].p.size + l[k].b.size + 4) = sizN (l.take (k + 1))) := by show _ = _; rw [siz_step hlt, ← HS.out]
      have q0 : (0 : Int) ≤ (l[k].p.size : Int) := by omega
      have q1 : (l[k].p.size : Int) ≤ 35 := by omega
      have q2 : (0 : Int) ≤ (l[k].b.size : Int) := by omega
      have q3 : (l[k].b.size : Int) ≤ 20 := by omega
      have q4 : (0 : Int) ≤ (S : Int) := by omega
      have q5 : (S : Int) ≤ 944 := by omega
      have r1 : IntKind.i64.wrap (4 + (l[k].p.size : Int)) = 4 + (l[k].p.size : Int) := IntWalk.i64_in _ (by omega)
      have r2 : IntKind.i64.wrap (4 + (l[k].p.size : Int) + (l[k].b.size : Int)) = 4 + (l[k].p.size : Int) + (l[k].b.size : Int) := IntWalk.i64_in _ (by omega)
      have r3 : IntKind.i64.wrap ((S : Int) + (4 + (l[k].p.size : Int) + (l[k].b.size : Int))) = (S : Int) + (4 + (l[k].p.size : Int) + (l[k].b.size : Int)) := IntWalk.i64_in _ (by omega)
      go_wp2_with fail
      go_quiet (fail)
      clear r1 r2 r3
      have hbq := below_drewN hbw nq
      generalize wr.drewN nq = wt at *
      go_wp2_with fail
      exact ⟨⟨k + 1, S + (l[k].p.size + l[k].b.size + 4), by omega, by go_num, HN, by go_num, hbq⟩, by simp [intOf]; omega⟩
    · have HE : Hid (S = sizN l) := by show _ = _; rw [HS.out, List.take_of_length_le (by omega)]
      go_wp2_with fail
      go_ret2
      exact ⟨by rw [H0.out, sizC_ok H0.out, ← HE.out]; rfl, hbw⟩
end Go.Proofs.YtcnjiphoahoojaaDoor.Recs
