/- Several texts of mine in one file (each begins with its own remark). -/
import Derived.Test.YtcbmnihepeefaaaDoorBun33
import Derived.Test.YtcbmnihepeefaaaDoorBun20
import Derived.Test.YtcbmnihepeefaaaDoorBun36
/- Combining two layers, plain: what the upper one cuts off as the program looks at it; the combination step by step. -/

namespace Go.Proofs.YtcbmnihepeefaaaDoor.Recs
set_option maxRecDepth 100000
open Go.RowKit Paths

/-- A record that stops lies above the path. -/
def cutsI (l : List R) (q : ByteArray) : Bool := l.any fun r => stops r && isBelowB q r.p
theorem cuts_same {l : List R} (hs : Sorted l) (hf : ∀ r ∈ l, r.fault = 0) {q : ByteArray} (hq : pathB q.data.toList = true) : cutsI l q = cutsL l q := by
  unfold cutsI cutsL
  rw [Bool.eq_iff_iff, List.any_eq_true, List.any_eq_true]
  constructor
  · rintro ⟨r, hm, hr⟩
    have hp := (fault_path (hf r hm)).1
    simp only [Bool.and_eq_true] at hr
    rw [below_two (path_pos hp) hq hp, ← isUp_below hq, isUp_iff] at hr
    refine ⟨r.p, hr.2, ?_⟩
    unfold stopsAt
    rw [recAt_of hs hm]
    exact hr.1
  · rintro ⟨a, ha, ho⟩
    unfold stopsAt at ho
    cases hr : recAt l a with
    | none => rw [hr] at ho; cases ho
    | some r =>
      rw [hr] at ho
      obtain ⟨hm, rfl⟩ := recAt_mem hr
      have hp := (fault_path (hf r hm)).1
      refine ⟨r, hm, ?_⟩
      simp only [Bool.and_eq_true]
      refine ⟨ho, ?_⟩
      rw [below_two (path_pos hp) hq hp, ← isUp_below hq, isUp_iff]
      exact ha

theorem two_end (u : List R) : twoL u [] [] = [] := by rw [twoL]
theorem two_up (u : List R) (y : R) (b : List R) : twoL u [] (y :: b) = y :: twoL u [] b := by rw [twoL, twoL]
theorem two_cut0 {u : List R} {x : R} {a : List R} (hc : cutsL u x.p = true) : twoL u (x :: a) [] = twoL u a [] := by rw [twoL, if_pos hc]
theorem two_take0 {u : List R} {x : R} {a : List R} (hc : cutsL u x.p = false) : twoL u (x :: a) [] = x :: twoL u a [] := by rw [twoL, if_neg (by rw [hc]; decide)]
theorem two_cut1 {u : List R} {x y : R} {a b : List R} (hl : lessR x y = true) (hc : cutsL u x.p = true) : twoL u (x :: a) (y :: b) = twoL u a (y :: b) := by rw [twoL, if_pos hl, if_pos hc]
theorem two_take1 {u : List R} {x y : R} {a b : List R} (hl : lessR x y = true) (hc : cutsL u x.p = false) : twoL u (x :: a) (y :: b) = x :: twoL u a (y :: b) := by rw [twoL, if_pos hl, if_neg (by rw [hc]; decide)]
theorem two_high {u : List R} {x y : R} {a b : List R} (hl : lessR x y = false) (hn : x.p ≠ y.p) : twoL u (x :: a) (y :: b) = y :: twoL u (x :: a) b := by
  rw [twoL, if_neg (by rw [hl]; decide), if_pos]
  rcases less_or hn with h | h
  · rw [hl] at h; cases h
  · exact h
theorem less_self {x y : R} (h : x.p = y.p) : lessR x y = false := by unfold lessR; rw [h, lessP_irrefl]
theorem two_eq {u : List R} {x y : R} {a b : List R} (h : x.p = y.p) : twoL u (x :: a) (y :: b) = overR x y :: twoL u a b := by
  rw [twoL, if_neg (by rw [less_self h]; decide), if_neg (by rw [less_self h.symm]; decide)]

/-- The code of a call with two layers. -/
def codeLL (a b : List R) : Int := if 4096 < a.length ∨ 4096 < b.length then 2 else if layerOK a && layerOK b then 0 else 1
theorem arg_ll (a b : List R) : argFrom [checkK a, checkK b] 0 = codeLL a b := by
  by_cases h1 : 4096 < a.length <;> by_cases h2 : 4096 < b.length <;> by_cases h3 : (layerFaultL a).2 = 0 <;> by_cases h4 : (layerFaultL b).2 = 0 <;> simp [checkK, codeLL, argFrom, layerOK, h1, h2, h3, h4]
theorem codeLL_ok {a b : List R} (h : codeLL a b = 0) : layerOK a = true ∧ layerOK b = true := by
  unfold codeLL at h
  split at h
  · cases h
  · split at h
    · rename_i h2; simpa using h2
    · cases h
end Go.Proofs.YtcbmnihepeefaaaDoor.Recs

/- What an upper layer cuts off: Cuts, of the program and of its model. Conditions (of the program's): the table of kinds, the two sentinels. -/

namespace Go.Proofs.YtcbmnihepeefaaaDoor.Recs
set_option maxRecDepth 100000
open Go.RowKit Paths Errs

theorem stops_any (r : R) (w : World) :
    Calls Tryd.prog 49 #[r.val] w fun e w' => e = .returned (.bool (stops r)) ∧ Below w.heap.size w w' := by
  obtain ⟨rk, rm, rp, rb, ro⟩ := r
  unfold R.val
  dsimp only
  have hb : Below w.heap.size w (w.alloc (.cells #[.int .i64 rk, .string rp, .string rb, .int .i64 rm, .bool ro] 45)) := (Below.refl _ _).alloc (Nat.le_refl _) _
  by_cases h3 : rk = 3
  · have q3 : (rk != 3) = false := by simp [h3]
    have HE : Hid (stops ⟨rk, rm, rp, rb, ro⟩ = ro) := (by show _ = _; unfold stops; simp [h3])
    clear h3
    go_enter Tryd.func49, Tryd.ntmps49
    go_wp2_with fail
    go_ret
    exact ⟨ret_bool HE.out.symm, hb⟩
  · have q3 : (rk != 3) = true := by simp [h3]
    have HE : Hid (stops ⟨rk, rm, rp, rb, ro⟩ = true) := (by show _ = _; unfold stops; simp [h3])
    clear h3
    go_enter Tryd.func49, Tryd.ntmps49
    go_wp2_with fail
    go_ret
    exact ⟨ret_bool HE.out.symm, hb⟩

theorem cut_test (r : R) (c : Nat) (q : ByteArray) (w : World) (h : w.cell? ⟨c, 0, none⟩ = some (.string q)) (hq : q.size ≤ maxLen) (hr : r.p.size ≤ maxLen) :
    Calls Tryd.prog 55 #[r.val, .pointer (some ⟨c, 0, none⟩)] w fun e w' => e = .returned (.bool (stops r && isBelowB q r.p)) ∧ Below w.heap.size w w' := by
  have hcl := World.block_lt_of_cell? w _ h
  have hb0 : Below w.heap.size w (w.alloc (.cells #[.int .i64 r.k, .string r.p, .string r.b, .int .i64 r.m, .bool r.o] 45)) := (Below.refl _ _).alloc (Nat.le_refl _) _
  have HST := stops_any r (w.alloc (.cells #[.int .i64 r.k, .string r.p, .string r.b, .int .i64 r.m, .bool r.o] 45))
  have hq0 : (w.alloc (.cells #[.int .i64 r.k, .string r.p, .string r.b, .int .i64 r.m, .bool r.o] 45)).cell? ⟨c, 0, none⟩ = some (.string q) := cell?_alloc_old _ h
  have hp0 : (w.alloc (.cells #[.int .i64 r.k, .string r.p, .string r.b, .int .i64 r.m, .bool r.o] 45)).cell? ⟨w.heap.size, 1, none⟩ = some (.string r.p) := by go_simp
  have HQ0 := Lib.hid hq0
  have HP0 := Lib.hid hp0
  clear hq0 hp0 h
  unfold R.val at HST ⊢
  rcases Bool.eq_false_or_eq_true (stops r) with ho | ho
  · rw [ho] at HST ⊢
    go_enter Tryd.func55, Tryd.ntmps55
    go_wp2_with fail
    refine HST.mono ?_
    rintro e w1 ⟨rfl, hb1⟩
    have hq1 : w1.cell? ⟨c, 0, none⟩ = some (.string q) := (hb1.cell (p := ⟨c, 0, none⟩) (by simp; omega)).trans HQ0.out
    have hp1 : w1.cell? ⟨w.heap.size, 1, none⟩ = some (.string r.p) := (hb1.cell (p := ⟨w.heap.size, 1, none⟩) (by simp)).trans HP0.out
    have c1 := hb0.trans (hb1.mono hb0.size)
    go_wp2_with fail
    refine (isBelow_impl _ _ _ hq hr).mono ?_
    rintro e w2 ⟨rfl, hb2⟩
    go_wp2_with fail
    go_ret
    exact ⟨rfl, c1.trans (hb2.mono c1.size)⟩
  · rw [ho] at HST ⊢
    go_enter Tryd.func55, Tryd.ntmps55
    go_wp2_with fail
    refine HST.mono ?_
    rintro e w1 ⟨rfl, hb1⟩
    go_wp2_with fail
    go_ret
    exact ⟨rfl, hb0.trans (hb1.mono hb0.size)⟩

set_option maxHeartbeats 800000 in
theorem indexFunc_cut (v : Value) (l : List R) (c : Addr) (P : R → Bool) (w : World) (h : RecSl w v l) (hl : l.length ≤ 1048576)
    (HF : ∀ r ∈ l, ∀ w', Below w.heap.size w w' → Calls Tryd.prog 55 #[r.val, .pointer (some c)] w' fun e w'' => e = .returned (.bool (P r)) ∧ Below w'.heap.size w' w'') :
    Calls Tryd.prog 70 #[v, .func (.func 55) #[] #[.pointer (some c)]] w fun e w' => e = .returned (.int .i64 (idxFrom P l 0)) ∧ Below w.heap.size w w' := by
  obtain ⟨A, cap, rfl, hcap, h⟩ := h
  have H := Lib.hid h
  have HFh := Lib.hid HF
  clear h HF
  go_enter Tryd.func70, Tryd.ntmps70
  go_wp2
  go_loopw [8] (fun i wr => ∃ k : Nat, k ≤ l.length ∧ i = .int .i64 k ∧ Hid (idxFrom P l 0 = idxFrom P (l.drop k) k) ∧ Below w.heap.size w wr) (fun i _ => l.length - (intOf i).toNat)
  case atStart => exact ⟨0, by omega, rfl, rfl, Below.refl _ _⟩
  case round =>
    obtain ⟨k, hk, rfl, HK, hbw⟩ := hrel
    by_cases hlt : k < l.length
    · obtain ⟨b, off, rfl, hb, hcell⟩ := H.out (by omega)
      obtain ⟨c0, c1, c2, c3, c4⟩ := (hcell k l[k] (by simp [hlt])).below hbw hb
      have HS := Lib.hid (HK.out.trans (idx_step hlt))
      clear hcell HK
      have hi1 : (k : Int) < (l.length : Int) := by omega
      have hi0 : (0 : Int) ≤ (k : Int) := by omega
      have HC := HFh.out l[k] (List.getElem_mem hlt) _ hbw
      unfold R.val at HC
      rcases Bool.eq_false_or_eq_true (P l[k]) with he | he
      · have HE : Hid (idxFrom P l 0 = k) := by show _ = _; rw [HS.out, if_pos he]
        go_wp2_with (go_at_call 55; refine HC.mono ?_; rintro e w1 ⟨rfl, hb1⟩)
        go_ret
        exact ⟨ret_int HE.out.symm, hbw.trans (hb1.mono hbw.size)⟩
      · have HE : Hid (idxFrom P l 0 = idxFrom P (l.drop (k + 1)) (k + 1)) := by show _ = _; rw [HS.out, if_neg (by rw [he]; decide)]
        go_wp2_with (go_at_call 55; refine HC.mono ?_; rintro e w1 ⟨rfl, hb1⟩)
        exact ⟨⟨k + 1, by omega, by go_num, HE, hbw.trans (hb1.mono hbw.size)⟩, by simp [intOf]; omega⟩
    · have HE := Lib.hid (HK.out.trans (idx_end (by omega)))
      go_wp2
      go_ret
      exact ⟨ret_int HE.out.symm, hbw⟩

theorem containsFunc_cut (v f : Value) (n : Int) (w : World)
    (HC : Calls Tryd.prog 70 #[v, f] w fun e w' => e = .returned (.int .i64 n) ∧ Below w.heap.size w w') :
    Calls Tryd.prog 54 #[v, f] w fun e w' => e = .returned (.bool (decide (0 ≤ n))) ∧ Below w.heap.size w w' := by
  go_enter Tryd.func54, Tryd.ntmps54
  go_wp2_with fail
  refine HC.mono ?_
  rintro e w1 ⟨rfl, hb1⟩
  go_wp2_with fail
  go_ret
  exact ⟨rfl, hb1⟩

theorem cutsOff_any (v : Value) (l : List R) (q : ByteArray) (w : World) (h : RecSl w v l) (hl : l.length ≤ 1048576) (hq : q.size ≤ maxLen) (hr : ∀ r ∈ l, r.p.size ≤ maxLen) :
    Calls Tryd.prog 35 #[v, .string q] w fun e w' => e = .returned (.bool (cutsI l q)) ∧ Below w.heap.size w w' := by
  have hb0 : Below w.heap.size w (w.alloc (.cells #[.string q] 9)) := (Below.refl _ _).alloc (Nat.le_refl _) _
  have hc0 : (w.alloc (.cells #[.string q] 9)).cell? ⟨w.heap.size, 0, none⟩ = some (.string q) := by go_simp
  have h0 := h.below hb0
  have HC := indexFunc_cut v l ⟨w.heap.size, 0, none⟩ (fun r => stops r && isBelowB q r.p) (w.alloc (.cells #[.string q] 9)) h0 hl
    (fun r hm w' hb => cut_test r w.heap.size q w' ((hb.cell (p := ⟨w.heap.size, 0, none⟩) (by simp)).trans hc0) hq (hr r hm))
  have HD := containsFunc_cut _ _ _ _ HC
  rw [idx_any] at HD
  obtain ⟨A, cap, rfl, _⟩ := h
  go_enter Tryd.func35, Tryd.ntmps35
  go_wp2_with fail
  refine HD.mono ?_
  rintro e w1 ⟨rfl, hb1⟩
  go_wp2_with fail
  go_ret
  exact ⟨rfl, hb0.trans (hb1.mono hb0.size)⟩
def cutF (l : List R) (q : ByteArray) : Bool × Int := if codeLT l q ≠ 0 then (false, codeLT l q) else if pathB q.data.toList then (cutsL l q, 0) else (false, 10)
def cutV (l : List R) (q : ByteArray) : Value := .tuple #[.bool (cutF l q).1, .int .i64 (cutF l q).2]
theorem cut_code {l : List R} {q : ByteArray} {c : Int} (hc : codeLT l q = c) (h : c ≠ 0) : cutV l q = .tuple #[.bool false, .int .i64 c] := by
  unfold cutV cutF; rw [hc, if_pos h]
theorem cut_name {l : List R} {q : ByteArray} (h : codeLT l q = 0) (hq : pathB q.data.toList = false) : cutV l q = .tuple #[.bool false, .int .i64 10] := by
  unfold cutV cutF; rw [if_neg (by simpa using h), if_neg (by rw [hq]; decide)]
theorem cut_path {l : List R} {q : ByteArray} (h : codeLT l q = 0) (hq : pathB q.data.toList = true) : cutV l q = .tuple #[.bool (cutsL l q), .int .i64 0] := by
  unfold cutV cutF; rw [if_neg (by simpa using h), if_pos hq]
set_option maxHeartbeats 1600000 in
theorem cuts_impl (v : Value) (l : List R) (q : ByteArray) (x y : Addr) (w : World) (h : RecSl w v l) (hl : l.length ≤ 1048576) (hr : ∀ r ∈ l, r.p.size ≤ maxLen) (hqm : q.size ≤ maxLen) (hT : Three w x y) :
    Calls Tryd.prog 20 #[v, .string q] w fun e w' => e = .returned (cutV l q) ∧ Below w.heap.size w w' := by
  have HC := checkLayer_any v l x _ h hl hr hT.tab hT.long
  rw [← checkK_val] at HC
  have hsl := h
  obtain ⟨A, cap, rfl, hcap, h⟩ := h
  cases hk : checkK l with
  | fine =>
    rw [hk] at HC
    unfold EK.val at HC
    cases ht : textK q with
    | fine =>
      have h0 : codeLT l q = 0 := by rw [← arg_lt, hk, ht]; rfl
      have hok := code_ok h0
      have H0 := Lib.hid h0
      clear h0
      go_enter Tryd.func20, Tryd.ntmps20
      go_wp2_with fail
      refine HC.mono ?_
      rintro e w1 ⟨rfl, hb1⟩
      have hT1 := hT.below hb1 (Nat.le_refl _)
      have HX := checkText_any q x w1 hT1.long
      rw [ht] at HX
      have HA := arg2_any .fine .fine x y w1 hT1
      unfold EK.val at HX HA
      unfold errV at HX HA
      unfold recV at HA
      go_wp2_with fail
      refine HX.mono ?_
      rintro e w2 ⟨rfl, rfl⟩
      go_wp2_with fail
      refine HA.mono ?_
      rintro e w3 ⟨rfl, hb3⟩
      have c3 := hb1.trans (hb3.mono hb1.size)
      have hcode : argFrom [.fine, .fine] 0 = 0 := rfl
      rw [hcode]
      go_wp2_with fail
      refine (pathOK_impl q _ hqm).mono ?_
      rintro e w4 ⟨rfl, hb4⟩
      have c4 := c3.trans (hb4.mono c3.size)
      rcases Bool.eq_false_or_eq_true (pathB q.data.toList) with hp | hp
      · have HE := Lib.hid (cut_path H0.out hp)
        have HU := Lib.hid (cuts_same (layer_sorted hok) (fun _ hm => layer_rec hok hm) hp)
        rw [hp]
        go_wp2_with fail
        refine (cutsOff_any _ l q _ (hsl.below c4) hl hqm hr).mono ?_
        rintro e w5 ⟨rfl, hb5⟩
        rw [HU.out]
        go_wp2_with fail
        go_ret2
        exact ⟨ret_eq HE.out.symm, c4.trans (hb5.mono c4.size)⟩
      · have HE := Lib.hid (cut_name H0.out hp)
        rw [hp]
        go_wp2_with fail
        go_ret2
        exact ⟨ret_eq HE.out.symm, c4⟩
    | long =>
      have HE := Lib.hid (cut_code (l := l) (q := q) (c := 2) (by rw [← arg_lt, hk, ht]; rfl) (by decide))
      go_enter Tryd.func20, Tryd.ntmps20
      go_wp2_with fail
      refine HC.mono ?_
      rintro e w1 ⟨rfl, hb1⟩
      have hT1 := hT.below hb1 (Nat.le_refl _)
      have HX := checkText_any q x w1 hT1.long
      rw [ht] at HX
      have HA := arg2_any .fine .long x y w1 hT1
      unfold EK.val at HX HA
      unfold errV at HX HA
      unfold recV at HA
      go_wp2_with fail
      refine HX.mono ?_
      rintro e w2 ⟨rfl, rfl⟩
      go_wp2_with fail
      refine HA.mono ?_
      rintro e w3 ⟨rfl, hb3⟩
      have c3 := hb1.trans (hb3.mono hb1.size)
      have hcode : argFrom [.fine, .long] 0 = 2 := rfl
      rw [hcode]
      go_wp2_with fail
      go_ret2
      exact ⟨ret_eq HE.out.symm, c3⟩
    | bad i c => exact absurd ht text_not
  | long =>
    rw [hk] at HC
    unfold EK.val errV at HC
    cases ht : textK q with
    | fine =>
      have HE := Lib.hid (cut_code (l := l) (q := q) (c := 2) (by rw [← arg_lt, hk, ht]; rfl) (by decide))
      go_enter Tryd.func20, Tryd.ntmps20
      go_wp2_with fail
      refine HC.mono ?_
      rintro e w1 ⟨rfl, hb1⟩
      have hT1 := hT.below hb1 (Nat.le_refl _)
      have HX := checkText_any q x w1 hT1.long
      rw [ht] at HX
      have HA := arg2_any .long .fine x y w1 hT1
      unfold EK.val at HX HA
      unfold errV at HX HA
      unfold recV at HA
      go_wp2_with fail
      refine HX.mono ?_
      rintro e w2 ⟨rfl, rfl⟩
      go_wp2_with fail
      refine HA.mono ?_
      rintro e w3 ⟨rfl, hb3⟩
      have c3 := hb1.trans (hb3.mono hb1.size)
      have hcode : argFrom [.long, .fine] 0 = 2 := rfl
      rw [hcode]
      go_wp2_with fail
      go_ret2
      exact ⟨ret_eq HE.out.symm, c3⟩
    | long =>
      have HE := Lib.hid (cut_code (l := l) (q := q) (c := 2) (by rw [← arg_lt, hk, ht]; rfl) (by decide))
      go_enter Tryd.func20, Tryd.ntmps20
      go_wp2_with fail
      refine HC.mono ?_
      rintro e w1 ⟨rfl, hb1⟩
      have hT1 := hT.below hb1 (Nat.le_refl _)
      have HX := checkText_any q x w1 hT1.long
      rw [ht] at HX
      have HA := arg2_any .long .long x y w1 hT1
      unfold EK.val at HX HA
      unfold errV at HX HA
      unfold recV at HA
      go_wp2_with fail
      refine HX.mono ?_
      rintro e w2 ⟨rfl, rfl⟩
      go_wp2_with fail
      refine HA.mono ?_
      rintro e w3 ⟨rfl, hb3⟩
      have c3 := hb1.trans (hb3.mono hb1.size)
      have hcode : argFrom [.long, .long] 0 = 2 := rfl
      rw [hcode]
      go_wp2_with fail
      go_ret2
      exact ⟨ret_eq HE.out.symm, c3⟩
    | bad i c => exact absurd ht text_not
  | bad i c =>
    rw [hk] at HC
    unfold EK.val recV at HC
    cases ht : textK q with
    | fine =>
      have HE := Lib.hid (cut_code (l := l) (q := q) (c := 1) (by rw [← arg_lt, hk, ht]; rfl) (by decide))
      go_enter Tryd.func20, Tryd.ntmps20
      go_wp2_with fail
      refine HC.mono ?_
      rintro e w1 ⟨rfl, hb1⟩
      have hT1 := hT.below hb1 (Nat.le_refl _)
      have HX := checkText_any q x w1 hT1.long
      rw [ht] at HX
      have HA := arg2_any (.bad i c) .fine x y w1 hT1
      unfold EK.val at HX HA
      unfold errV at HX HA
      unfold recV at HA
      go_wp2_with fail
      refine HX.mono ?_
      rintro e w2 ⟨rfl, rfl⟩
      go_wp2_with fail
      refine HA.mono ?_
      rintro e w3 ⟨rfl, hb3⟩
      have c3 := hb1.trans (hb3.mono hb1.size)
      have hcode : argFrom [(.bad i c), .fine] 0 = 1 := rfl
      rw [hcode]
      go_wp2_with fail
      go_ret2
      exact ⟨ret_eq HE.out.symm, c3⟩
    | long =>
      have HE := Lib.hid (cut_code (l := l) (q := q) (c := 2) (by rw [← arg_lt, hk, ht]; rfl) (by decide))
      go_enter Tryd.func20, Tryd.ntmps20
      go_wp2_with fail
      refine HC.mono ?_
      rintro e w1 ⟨rfl, hb1⟩
      have hT1 := hT.below hb1 (Nat.le_refl _)
      have HX := checkText_any q x w1 hT1.long
      rw [ht] at HX
      have HA := arg2_any (.bad i c) .long x y w1 hT1
      unfold EK.val at HX HA
      unfold errV at HX HA
      unfold recV at HA
      go_wp2_with fail
      refine HX.mono ?_
      rintro e w2 ⟨rfl, rfl⟩
      go_wp2_with fail
      refine HA.mono ?_
      rintro e w3 ⟨rfl, hb3⟩
      have c3 := hb1.trans (hb3.mono hb1.size)
      have hcode : argFrom [(.bad i c), .long] 0 = 2 := rfl
      rw [hcode]
      go_wp2_with fail
      go_ret2
      exact ⟨ret_eq HE.out.symm, c3⟩
    | bad i c => exact absurd ht text_not

set_option maxHeartbeats 800000 in
theorem cuts_spec (v : Value) (l : List R) (q : ByteArray) (w : World) (h : RecSl w v l) (hl : l.length ≤ 1048576) :
    Calls Tryd.prog 19 #[v, .string q] w fun e w' => e = .returned (cutV l q) ∧ Below w.heap.size w w' := by
  have HC := l03OK_any v l _ h hl
  have hsl := h
  obtain ⟨A, cap, rfl, hcap, h⟩ := h
  by_cases h4 : 4096 < l.length
  · have HE := Lib.hid (cut_code (l := l) (q := q) (c := 2) (by unfold codeLT; rw [if_pos (.inl h4)]) (by decide))
    have hd : decide ((4096 : Int) < (l.length : Int)) = true := by simp; omega
    go_enter Tryd.func19, Tryd.ntmps19
    go_wp2_with fail
    go_ret2
    exact ⟨ret_eq HE.out.symm, Below.refl _ _⟩
  have hd4 : decide ((4096 : Int) < (l.length : Int)) = false := by simp; omega
  by_cases h5 : 65536 < q.size
  · have HE := Lib.hid (cut_code (l := l) (q := q) (c := 2) (by unfold codeLT; rw [if_pos (.inr h5)]) (by decide))
    have hd : decide ((65536 : Int) < (q.size : Int)) = true := by simp; omega
    go_enter Tryd.func19, Tryd.ntmps19
    go_wp2_with fail
    go_ret2
    exact ⟨ret_eq HE.out.symm, Below.refl _ _⟩
  have hd5 : decide ((65536 : Int) < (q.size : Int)) = false := by simp; omega
  have HL : Hid (codeLT l q = if layerOK l then 0 else 1) := by show _ = _; unfold codeLT; rw [if_neg (by omega)]
  rcases Bool.eq_false_or_eq_true (layerOK l) with hk | hk
  case inr =>
    have HE := Lib.hid (cut_code (l := l) (q := q) (c := 1) (by rw [HL.out, hk]; rfl) (by decide))
    rw [hk] at HC
    go_enter Tryd.func19, Tryd.ntmps19
    go_wp2_with fail
    refine HC.mono ?_
    rintro e w1 ⟨rfl, hb1⟩
    go_wp2_with fail
    go_ret2
    exact ⟨ret_eq HE.out.symm, hb1⟩
  have H0 : Hid (codeLT l q = 0) := by show _ = _; rw [HL.out, hk]; rfl
  rw [hk] at HC
  go_enter Tryd.func19, Tryd.ntmps19
  go_wp2_with fail
  refine HC.mono ?_
  rintro e w1 ⟨rfl, hb1⟩
  go_wp2_with fail
  refine (l01OK_any q _).mono ?_
  rintro e w2 ⟨rfl, hb2⟩
  have c2 := hb1.trans (hb2.mono hb1.size)
  rcases Bool.eq_false_or_eq_true (pathB q.data.toList) with hp | hp
  · have HE := Lib.hid (cut_path H0.out hp)
    have HU := l06Cuts_any _ l q _ (hsl.below c2) hl hp
    rw [hp]
    go_wp2_with fail
    refine HU.mono ?_
    rintro e w3 ⟨rfl, hb3⟩
    go_wp2_with fail
    go_ret2
    exact ⟨ret_eq HE.out.symm, c2.trans (hb3.mono c2.size)⟩
  · have HE := Lib.hid (cut_name H0.out hp)
    rw [hp]
    go_wp2_with fail
    go_ret2
    exact ⟨ret_eq HE.out.symm, c2⟩
end Go.Proofs.YtcbmnihepeefaaaDoor.Recs

/- Alike, of the program and of its model. Conditions (of the program's): the table of kinds, the two sentinels. -/

namespace Go.Proofs.YtcbmnihepeefaaaDoor.Recs
set_option maxRecDepth 100000
open Go.RowKit Paths Errs

/-- Whether two layers have the same canonical form. -/
def aliB (A B : List R) : Bool := decide (codeLL A B = 0) && decide (canonL A = canonL B)
theorem ali_bad {A B : List R} {c : Int} (h : codeLL A B = c) (hc : c ≠ 0) : aliB A B = false := by unfold aliB; rw [h, decide_eq_false hc]; rfl
theorem ali_ok {A B : List R} (h : codeLL A B = 0) : aliB A B = decide (canonL A = canonL B) := by unfold aliB; rw [h]; rfl
set_option maxHeartbeats 3200000 in
theorem alike_impl (v1 v2 : Value) (A B : List R) (x y : Addr) (w : World) (h1 : RecSl w v1 A) (h2 : RecSl w v2 B) (hl1 : A.length ≤ 1048576) (hl2 : B.length ≤ 1048576) (hr1 : ∀ r ∈ A, r.p.size ≤ maxLen) (hr2 : ∀ r ∈ B, r.p.size ≤ maxLen) (hT : Three w x y) :
    Calls Tryd.prog 22 #[v1, v2] w fun e w' => e = .returned (.tuple #[.bool (aliB A B), .int .i64 (codeLL A B)]) ∧ Below w.heap.size w w' := by
  have HC1 := checkLayer_any v1 A x _ h1 hl1 hr1 hT.tab hT.long
  rw [← checkK_val] at HC1
  have HS1 := Lib.hid h1
  have HS2 := Lib.hid h2
  obtain ⟨A1, cap1, rfl, -⟩ := h1
  obtain ⟨A2, cap2, rfl, -⟩ := h2
  cases hk1 : checkK A with
  | fine =>
    rw [hk1] at HC1
    simp only [EK.val] at HC1
    cases hk2 : checkK B with
    | fine =>
      have HE := Lib.hid (show codeLL A B = 0 by rw [← arg_ll, hk1, hk2]; rfl)
      obtain ⟨hoa, hob⟩ := codeLL_ok HE.out
      go_enter Tryd.func22, Tryd.ntmps22
      go_wp2_with fail
      refine HC1.mono ?_
      rintro e w1 ⟨rfl, hb1⟩
      have hT1 := hT.below hb1 (Nat.le_refl _)
      have HC2 := checkLayer_any _ B x _ (HS2.out.below hb1) hl2 hr2 hT1.tab hT1.long
      rw [← checkK_val, hk2] at HC2
      simp only [EK.val] at HC2
      go_wp2_with fail
      refine HC2.mono ?_
      rintro e w2 ⟨rfl, hb2⟩
      have c2 := hb1.trans (hb2.mono hb1.size)
      have HA := arg2_any .fine .fine x y w2 (hT.below c2 (Nat.le_refl _))
      simp only [EK.val] at HA
      go_wp2_with fail
      refine HA.mono ?_
      rintro e w3 ⟨rfl, hb3⟩
      have c3 := c2.trans (hb3.mono c2.size)
      have hcode : argFrom [.fine, .fine] 0 = 0 := rfl
      rw [hcode]
      go_wp2_with fail
      refine (canonicalForm_any _ A _ (HS1.out.below c3) hoa hr1).mono ?_
      rintro e w4 ⟨f, rfl, hb4, hf⟩
      have c4 := c3.trans (hb4.mono c3.size)
      go_wp2_with fail
      refine (canonicalForm_any _ B _ (HS2.out.below c4) hob hr2).mono ?_
      rintro e w5 ⟨g, rfl, hb5, hg⟩
      have c5 := c4.trans (hb5.mono c4.size)
      go_wp2_with fail
      refine (equalR_any f g (canonL A) (canonL B) _ (hf.below hb5).sl hg.sl (by have := canon_len A; omega)).mono ?_
      rintro e w6 ⟨rfl, n6, rfl⟩
      go_wp2_with fail
      go_ret2
      exact ⟨by rw [ali_ok HE.out, HE.out]; rfl, below_drewN c5 n6⟩
    | long =>
      have HE := Lib.hid (show codeLL A B = 2 by rw [← arg_ll, hk1, hk2]; rfl)
      go_enter Tryd.func22, Tryd.ntmps22
      go_wp2_with fail
      refine HC1.mono ?_
      rintro e w1 ⟨rfl, hb1⟩
      have hT1 := hT.below hb1 (Nat.le_refl _)
      have HC2 := checkLayer_any _ B x _ (HS2.out.below hb1) hl2 hr2 hT1.tab hT1.long
      rw [← checkK_val, hk2] at HC2
      simp only [EK.val, errV] at HC2
      go_wp2_with fail
      refine HC2.mono ?_
      rintro e w2 ⟨rfl, hb2⟩
      have c2 := hb1.trans (hb2.mono hb1.size)
      have HA := arg2_any .fine .long x y w2 (hT.below c2 (Nat.le_refl _))
      simp only [EK.val, errV] at HA
      go_wp2_with fail
      refine HA.mono ?_
      rintro e w3 ⟨rfl, hb3⟩
      have c3 := c2.trans (hb3.mono c2.size)
      have hcode : argFrom [.fine, .long] 0 = 2 := rfl
      rw [hcode]
      go_wp2_with fail
      go_ret2
      exact ⟨by rw [ali_bad HE.out (by decide), HE.out]; rfl, c3⟩
    | bad j d =>
      have HE := Lib.hid (show codeLL A B = 1 by rw [← arg_ll, hk1, hk2]; rfl)
      go_enter Tryd.func22, Tryd.ntmps22
      go_wp2_with fail
      refine HC1.mono ?_
      rintro e w1 ⟨rfl, hb1⟩
      have hT1 := hT.below hb1 (Nat.le_refl _)
      have HC2 := checkLayer_any _ B x _ (HS2.out.below hb1) hl2 hr2 hT1.tab hT1.long
      rw [← checkK_val, hk2] at HC2
      simp only [EK.val, recV] at HC2
      go_wp2_with fail
      refine HC2.mono ?_
      rintro e w2 ⟨rfl, hb2⟩
      have c2 := hb1.trans (hb2.mono hb1.size)
      have HA := arg2_any .fine (.bad j d) x y w2 (hT.below c2 (Nat.le_refl _))
      simp only [EK.val, recV] at HA
      go_wp2_with fail
      refine HA.mono ?_
      rintro e w3 ⟨rfl, hb3⟩
      have c3 := c2.trans (hb3.mono c2.size)
      have hcode : argFrom [.fine, (.bad j d)] 0 = 1 := rfl
      rw [hcode]
      go_wp2_with fail
      go_ret2
      exact ⟨by rw [ali_bad HE.out (by decide), HE.out]; rfl, c3⟩
  | long =>
    rw [hk1] at HC1
    simp only [EK.val, errV] at HC1
    cases hk2 : checkK B with
    | fine =>
      have HE := Lib.hid (show codeLL A B = 2 by rw [← arg_ll, hk1, hk2]; rfl)
      go_enter Tryd.func22, Tryd.ntmps22
      go_wp2_with fail
      refine HC1.mono ?_
      rintro e w1 ⟨rfl, hb1⟩
      have hT1 := hT.below hb1 (Nat.le_refl _)
      have HC2 := checkLayer_any _ B x _ (HS2.out.below hb1) hl2 hr2 hT1.tab hT1.long
      rw [← checkK_val, hk2] at HC2
      simp only [EK.val] at HC2
      go_wp2_with fail
      refine HC2.mono ?_
      rintro e w2 ⟨rfl, hb2⟩
      have c2 := hb1.trans (hb2.mono hb1.size)
      have HA := arg2_any .long .fine x y w2 (hT.below c2 (Nat.le_refl _))
      simp only [EK.val, errV] at HA
      go_wp2_with fail
      refine HA.mono ?_
      rintro e w3 ⟨rfl, hb3⟩
      have c3 := c2.trans (hb3.mono c2.size)
      have hcode : argFrom [.long, .fine] 0 = 2 := rfl
      rw [hcode]
      go_wp2_with fail
      go_ret2
      exact ⟨by rw [ali_bad HE.out (by decide), HE.out]; rfl, c3⟩
    | long =>
      have HE := Lib.hid (show codeLL A B = 2 by rw [← arg_ll, hk1, hk2]; rfl)
      go_enter Tryd.func22, Tryd.ntmps22
      go_wp2_with fail
      refine HC1.mono ?_
      rintro e w1 ⟨rfl, hb1⟩
      have hT1 := hT.below hb1 (Nat.le_refl _)
      have HC2 := checkLayer_any _ B x _ (HS2.out.below hb1) hl2 hr2 hT1.tab hT1.long
      rw [← checkK_val, hk2] at HC2
      simp only [EK.val, errV] at HC2
      go_wp2_with fail
      refine HC2.mono ?_
      rintro e w2 ⟨rfl, hb2⟩
      have c2 := hb1.trans (hb2.mono hb1.size)
      have HA := arg2_any .long .long x y w2 (hT.below c2 (Nat.le_refl _))
      simp only [EK.val, errV] at HA
      go_wp2_with fail
      refine HA.mono ?_
      rintro e w3 ⟨rfl, hb3⟩
      have c3 := c2.trans (hb3.mono c2.size)
      have hcode : argFrom [.long, .long] 0 = 2 := rfl
      rw [hcode]
      go_wp2_with fail
      go_ret2
      exact ⟨by rw [ali_bad HE.out (by decide), HE.out]; rfl, c3⟩
    | bad j d =>
      have HE := Lib.hid (show codeLL A B = 2 by rw [← arg_ll, hk1, hk2]; rfl)
      go_enter Tryd.func22, Tryd.ntmps22
      go_wp2_with fail
      refine HC1.mono ?_
      rintro e w1 ⟨rfl, hb1⟩
      have hT1 := hT.below hb1 (Nat.le_refl _)
      have HC2 := checkLayer_any _ B x _ (HS2.out.below hb1) hl2 hr2 hT1.tab hT1.long
      rw [← checkK_val, hk2] at HC2
      simp only [EK.val, recV] at HC2
      go_wp2_with fail
      refine HC2.mono ?_
      rintro e w2 ⟨rfl, hb2⟩
      have c2 := hb1.trans (hb2.mono hb1.size)
      have HA := arg2_any .long (.bad j d) x y w2 (hT.below c2 (Nat.le_refl _))
      simp only [EK.val, errV, recV] at HA
      go_wp2_with fail
      refine HA.mono ?_
      rintro e w3 ⟨rfl, hb3⟩
      have c3 := c2.trans (hb3.mono c2.size)
      have hcode : argFrom [.long, (.bad j d)] 0 = 2 := rfl
      rw [hcode]
      go_wp2_with fail
      go_ret2
      exact ⟨by rw [ali_bad HE.out (by decide), HE.out]; rfl, c3⟩
  | bad i c =>
    rw [hk1] at HC1
    simp only [EK.val, recV] at HC1
    cases hk2 : checkK B with
    | fine =>
      have HE := Lib.hid (show codeLL A B = 1 by rw [← arg_ll, hk1, hk2]; rfl)
      go_enter Tryd.func22, Tryd.ntmps22
      go_wp2_with fail
      refine HC1.mono ?_
      rintro e w1 ⟨rfl, hb1⟩
      have hT1 := hT.below hb1 (Nat.le_refl _)
      have HC2 := checkLayer_any _ B x _ (HS2.out.below hb1) hl2 hr2 hT1.tab hT1.long
      rw [← checkK_val, hk2] at HC2
      simp only [EK.val] at HC2
      go_wp2_with fail
      refine HC2.mono ?_
      rintro e w2 ⟨rfl, hb2⟩
      have c2 := hb1.trans (hb2.mono hb1.size)
      have HA := arg2_any (.bad i c) .fine x y w2 (hT.below c2 (Nat.le_refl _))
      simp only [EK.val, recV] at HA
      go_wp2_with fail
      refine HA.mono ?_
      rintro e w3 ⟨rfl, hb3⟩
      have c3 := c2.trans (hb3.mono c2.size)
      have hcode : argFrom [(.bad i c), .fine] 0 = 1 := rfl
      rw [hcode]
      go_wp2_with fail
      go_ret2
      exact ⟨by rw [ali_bad HE.out (by decide), HE.out]; rfl, c3⟩
    | long =>
      have HE := Lib.hid (show codeLL A B = 2 by rw [← arg_ll, hk1, hk2]; rfl)
      go_enter Tryd.func22, Tryd.ntmps22
      go_wp2_with fail
      refine HC1.mono ?_
      rintro e w1 ⟨rfl, hb1⟩
      have hT1 := hT.below hb1 (Nat.le_refl _)
      have HC2 := checkLayer_any _ B x _ (HS2.out.below hb1) hl2 hr2 hT1.tab hT1.long
      rw [← checkK_val, hk2] at HC2
      simp only [EK.val, errV] at HC2
      go_wp2_with fail
      refine HC2.mono ?_
      rintro e w2 ⟨rfl, hb2⟩
      have c2 := hb1.trans (hb2.mono hb1.size)
      have HA := arg2_any (.bad i c) .long x y w2 (hT.below c2 (Nat.le_refl _))
      simp only [EK.val, recV, errV] at HA
      go_wp2_with fail
      refine HA.mono ?_
      rintro e w3 ⟨rfl, hb3⟩
      have c3 := c2.trans (hb3.mono c2.size)
      have hcode : argFrom [(.bad i c), .long] 0 = 2 := rfl
      rw [hcode]
      go_wp2_with fail
      go_ret2
      exact ⟨by rw [ali_bad HE.out (by decide), HE.out]; rfl, c3⟩
    | bad j d =>
      have HE := Lib.hid (show codeLL A B = 1 by rw [← arg_ll, hk1, hk2]; rfl)
      go_enter Tryd.func22, Tryd.ntmps22
      go_wp2_with fail
      refine HC1.mono ?_
      rintro e w1 ⟨rfl, hb1⟩
      have hT1 := hT.below hb1 (Nat.le_refl _)
      have HC2 := checkLayer_any _ B x _ (HS2.out.below hb1) hl2 hr2 hT1.tab hT1.long
      rw [← checkK_val, hk2] at HC2
      simp only [EK.val, recV] at HC2
      go_wp2_with fail
      refine HC2.mono ?_
      rintro e w2 ⟨rfl, hb2⟩
      have c2 := hb1.trans (hb2.mono hb1.size)
      have HA := arg2_any (.bad i c) (.bad j d) x y w2 (hT.below c2 (Nat.le_refl _))
      simp only [EK.val, recV] at HA
      go_wp2_with fail
      refine HA.mono ?_
      rintro e w3 ⟨rfl, hb3⟩
      have c3 := c2.trans (hb3.mono c2.size)
      have hcode : argFrom [(.bad i c), (.bad j d)] 0 = 1 := rfl
      rw [hcode]
      go_wp2_with fail
      go_ret2
      exact ⟨by rw [ali_bad HE.out (by decide), HE.out]; rfl, c3⟩

set_option maxHeartbeats 1600000 in
theorem alike_spec (v1 v2 : Value) (A B : List R) (w : World) (h1 : RecSl w v1 A) (h2 : RecSl w v2 B) (hl1 : A.length ≤ 1048576) (hl2 : B.length ≤ 1048576) :
    Calls Tryd.prog 21 #[v1, v2] w fun e w' => e = .returned (.tuple #[.bool (aliB A B), .int .i64 (codeLL A B)]) ∧ Below w.heap.size w w' := by
  have HC1 := l03OK_any v1 A _ h1 hl1
  have HS1 := Lib.hid h1
  have HS2 := Lib.hid h2
  obtain ⟨A1, cap1, rfl, -⟩ := h1
  obtain ⟨A2, cap2, rfl, -⟩ := h2
  by_cases ha : 4096 < A.length
  · have HE := Lib.hid (show codeLL A B = 2 from if_pos (.inl ha))
    have hd : decide ((4096 : Int) < (A.length : Int)) = true := by simp; omega
    go_enter Tryd.func21, Tryd.ntmps21
    go_wp2_with fail
    go_ret2
    exact ⟨by rw [ali_bad HE.out (by decide), HE.out]; rfl, (Below.refl w.heap.size w)⟩
  have hda : decide ((4096 : Int) < (A.length : Int)) = false := by simp; omega
  by_cases hb : 4096 < B.length
  · have HE := Lib.hid (show codeLL A B = 2 from if_pos (.inr hb))
    have hd : decide ((4096 : Int) < (B.length : Int)) = true := by simp; omega
    go_enter Tryd.func21, Tryd.ntmps21
    go_wp2_with fail
    go_ret2
    exact ⟨by rw [ali_bad HE.out (by decide), HE.out]; rfl, (Below.refl w.heap.size w)⟩
  have hdb : decide ((4096 : Int) < (B.length : Int)) = false := by simp; omega
  have HL : Hid (codeLL A B = if layerOK A && layerOK B then 0 else 1) := if_neg (by omega)
  rcases Bool.eq_false_or_eq_true (layerOK A) with hoa | hoa
  case inr =>
    have HE := Lib.hid (show codeLL A B = 1 by rw [HL.out, hoa]; rfl)
    rw [hoa] at HC1
    go_enter Tryd.func21, Tryd.ntmps21
    go_wp2_with fail
    refine HC1.mono ?_
    rintro e w1 ⟨rfl, hb1⟩
    go_wp2_with fail
    go_ret2
    exact ⟨by rw [ali_bad HE.out (by decide), HE.out]; rfl, hb1⟩
  rcases Bool.eq_false_or_eq_true (layerOK B) with hob | hob
  case inr =>
    have HE := Lib.hid (show codeLL A B = 1 by rw [HL.out, hoa, hob]; rfl)
    rw [hoa] at HC1
    go_enter Tryd.func21, Tryd.ntmps21
    go_wp2_with fail
    refine HC1.mono ?_
    rintro e w1 ⟨rfl, hb1⟩
    have HC2 := l03OK_any _ B _ (HS2.out.below hb1) hl2
    rw [hob] at HC2
    go_wp2_with fail
    refine HC2.mono ?_
    rintro e w2 ⟨rfl, hb2⟩
    have c2 := hb1.trans (hb2.mono hb1.size)
    go_wp2_with fail
    go_ret2
    exact ⟨by rw [ali_bad HE.out (by decide), HE.out]; rfl, c2⟩
  have HE := Lib.hid (show codeLL A B = 0 by rw [HL.out, hoa, hob]; rfl)
  rw [hoa] at HC1
  go_enter Tryd.func21, Tryd.ntmps21
  go_wp2_with fail
  refine HC1.mono ?_
  rintro e w1 ⟨rfl, hb1⟩
  have HC2 := l03OK_any _ B _ (HS2.out.below hb1) hl2
  rw [hob] at HC2
  go_wp2_with fail
  refine HC2.mono ?_
  rintro e w2 ⟨rfl, hb2⟩
  have c2 := hb1.trans (hb2.mono hb1.size)
  go_wp2_with fail
  refine (l03Canon_any _ A _ (HS1.out.below c2) hoa).mono ?_
  rintro e w4 ⟨f, rfl, hb4, hf⟩
  have c4 := c2.trans (hb4.mono c2.size)
  go_wp2_with fail
  refine (l03Canon_any _ B _ (HS2.out.below c4) hob).mono ?_
  rintro e w5 ⟨g, rfl, hb5, hg⟩
  have c5 := c4.trans (hb5.mono c4.size)
  go_wp2_with fail
  refine (l03Same_any f g (canonL A) (canonL B) _ (hf.below hb5).sl hg.sl (by have := canon_len A; omega)).mono ?_
  rintro e w6 ⟨rfl, n6, rfl⟩
  go_wp2_with fail
  go_ret2
  exact ⟨by rw [ali_ok HE.out, HE.out]; rfl, below_drewN c5 n6⟩
end Go.Proofs.YtcbmnihepeefaaaDoor.Recs

/- Hidden, of the program and of its model. Conditions (of the program's): the table of kinds, the two sentinels. -/

namespace Go.Proofs.YtcbmnihepeefaaaDoor.Recs
set_option maxRecDepth 100000
open Go.RowKit Paths Errs

/-- The paths of a list that an upper layer cuts off. -/
def hidL (U l : List R) : List (List UInt8) := (l.filter fun r => cutsL U r.p).map fun r => r.p.data.toList
theorem hid_step {U l : List R} {k : Nat} (hk : k < l.length) : hidL U (l.take (k + 1)) = if cutsL U l[k].p then hidL U (l.take k) ++ [l[k].p.data.toList] else hidL U (l.take k) := by
  unfold hidL
  rw [List.take_add_one, List.getElem?_eq_getElem hk, List.filter_append]
  cases h : cutsL U l[k].p <;> simp [h]
theorem hid_le (U l : List R) : (hidL U l).length ≤ l.length := by unfold hidL; rw [List.length_map]; exact List.length_filter_le _ _
theorem str_snoc {w : World} {base : Nat} {v : Value} {M : List (List UInt8)} {p : ByteArray} (h : w.ownsRow base 9 1 v (M.length + 1) (M.map strV ++ [.string p])) : w.ownsRow base 9 1 v (M ++ [p.data.toList]).length ((M ++ [p.data.toList]).map strV) := by
  rw [List.length_append, List.map_append]
  exact h
def hidR (A B : List R) : List (List UInt8) := if codeLL A B = 0 then hidL B A else []
theorem hidR_ok {A B : List R} (h : codeLL A B = 0) : hidR A B = hidL B A := if_pos h
theorem hidR_bad {A B : List R} {c : Int} (h : codeLL A B = c) (hc : c ≠ 0) : hidR A B = [] := if_neg (by rw [h]; exact hc)
theorem hid_len (A B : List R) (hl : A.length ≤ 1048576) : (hidR A B).length ≤ 1048576 := by
  unfold hidR
  split
  · have := hid_le B A; omega
  · exact Nat.zero_le _

set_option maxHeartbeats 1600000 in
theorem pathsWhere_any (v u : Value) (l U : List R) (w : World) (h : RecSl w v l) (hu : RecSl w u U) (hl : l.length ≤ 1000) (hlU : U.length ≤ 1048576) (hr : ∀ r ∈ l, r.p.size ≤ maxLen) (hrU : ∀ r ∈ U, r.p.size ≤ maxLen) (hsd : Sorted U) (hf : ∀ r ∈ U, r.fault = 0) (hp : ∀ r ∈ l, pathB r.p.data.toList = true) :
    Calls Tryd.prog 34 #[v, .func (.func 35) #[u] #[]] w fun e w' => ∃ x, e = .returned x ∧ Below w.heap.size w w' ∧ w'.ownsRow w.heap.size 9 1 x (hidL U l).length ((hidL U l).map strV) := by
  obtain ⟨i0, hi, hz0, hz1, hz2⟩ := info_parts strInfo
  have HCU : Hid (∀ r ∈ l, ∀ w', Below w.heap.size w w' → Calls Tryd.prog 35 #[u, .string r.p] w' fun e w'' => e = .returned (.bool (cutsL U r.p)) ∧ Below w'.heap.size w' w'') := fun r hm w' hb => by
    rw [← cuts_same hsd hf (hp r hm)]
    exact cutsOff_any u U r.p w' (hu.below hb) hlU (hr r hm) hrU
  obtain ⟨sA, cap, rfl, hcap, h⟩ := h
  have H := Lib.hid h
  clear h hsd hf hp hr hrU hu
  go_enter Tryd.func34, Tryd.ntmps34
  go_wp2
  go_loopw [5, 10] (fun f i wr => ∃ (k : Nat) (M : List (List UInt8)), k ≤ l.length ∧ i = .int .i64 k ∧ Hid (M = hidL U (l.take k)) ∧ wr.ownsRow w.heap.size 9 1 f M.length (M.map strV) ∧ Below w.heap.size w wr) (fun _ i _ => l.length - (intOf i).toNat)
  case atStart => exact ⟨0, [], by omega, rfl, rfl, World.ownsRow_nil _ _ _ _, Below.refl _ _⟩
  case round =>
    obtain ⟨k, M, hk, rfl, HM, hown, hbw⟩ := hrel
    by_cases hlt : k < l.length
    · obtain ⟨b, off, rfl, hb, hcell⟩ := H.out (by omega)
      obtain ⟨c0, c1, c2, c3, c4⟩ := (hcell k l[k] (by simp [hlt])).below hbw hb
      clear hcell
      have hi1 : (k : Int) < (l.length : Int) := by omega
      have hi0 : (0 : Int) ≤ (k : Int) := by omega
      have hMl : M.length ≤ 1000 := by
        rw [HM.out]
        have := hid_le U (l.take k)
        rw [List.length_take] at this
        omega
      obtain ⟨fA, fcap, rfl⟩ := own_form hown
      have hbA : Below wr.heap.size wr (wr.alloc (.cells #[.int .i64 l[k].k, .string l[k].p, .string l[k].b, .int .i64 l[k].m, .bool l[k].o] 45)) := (Below.refl _ _).alloc (Nat.le_refl _) _
      have cA := hbw.trans (hbA.mono hbw.size)
      have HC := HCU.out l[k] (List.getElem_mem hlt) _ cA
      have hoA := own_below hown hbA
      have HST := Lib.hid (hid_step (U := U) hlt)
      have HPA : Hid ((wr.alloc (.cells #[.int .i64 l[k].k, .string l[k].p, .string l[k].b, .int .i64 l[k].m, .bool l[k].o] 45)).cell? ⟨wr.heap.size, 1, none⟩ = some (.string l[k].p)) := by show _ = _; go_simp
      rcases Bool.eq_false_or_eq_true (cutsL U l[k].p) with hc | hc
      · have HN : Hid (M ++ [l[k].p.data.toList] = hidL U (l.take (k + 1))) := by show _ = _; rw [HST.out, if_pos hc, ← HM.out]
        rw [hc] at HC
        go_wp2_with fail
        refine HC.mono ?_
        rintro e w1 ⟨rfl, hb1⟩
        have hp1 : w1.cell? ⟨wr.heap.size, 1, none⟩ = some (.string l[k].p) := (hb1.cell (p := ⟨wr.heap.size, 1, none⟩) (by simp)).trans HPA.out
        have d1 := cA.trans (hb1.mono cA.size)
        have hsz1 := d1.size
        have ho1 := own_below hoA hb1
        go_wp2_with (first
          | (at_builtin; refine wpList_append_own _ rfl _ _ 31 rfl w.heap.size 9 i0 (.string ByteArray.empty) 1 16 Tryd.underlying31 hi hz0 hz1 hz2 rfl (by decide) _ _ _ rfl (ho1.alloc _) ⟨w1.heap.size, 0, none⟩ 1 1 [.string l[k].p] rfl rfl (cell_one_new _ _ _) (fun x hx => by simp at hx; subst hx; rfl) (by unfold maxLen; omega) (by omega) (by simp; omega) ?_; intro v' w9 hown' hgrow9 hnil9))
        exact ⟨⟨k + 1, _, by omega, by go_num, HN, str_snoc hown', (d1.alloc d1.size _).grown hgrow9 (d1.alloc d1.size _).size (fun j hj => (hown.lt j hj).1)⟩, by simp [intOf]; omega⟩
      · have HN : Hid (M = hidL U (l.take (k + 1))) := by show _ = _; rw [HST.out, if_neg (by rw [hc]; decide), ← HM.out]
        rw [hc] at HC
        go_wp2_with fail
        refine HC.mono ?_
        rintro e w1 ⟨rfl, hb1⟩
        go_wp2_with fail
        exact ⟨⟨k + 1, M, by omega, by go_num, HN, own_below hoA hb1, cA.trans (hb1.mono cA.size)⟩, by simp [intOf]; omega⟩
    · have HF : Hid (M = hidL U l) := by show _ = _; rw [HM.out, List.take_of_length_le (by omega)]
      go_wp2
      go_ret
      exact ⟨_, rfl, hbw, by rw [← HF.out]; exact hown⟩

set_option maxHeartbeats 3200000 in
theorem hidden_impl (v1 v2 : Value) (A B : List R) (x y : Addr) (w : World) (h1 : RecSl w v1 A) (h2 : RecSl w v2 B) (hl1 : A.length ≤ 1048576) (hl2 : B.length ≤ 1048576) (hr1 : ∀ r ∈ A, r.p.size ≤ maxLen) (hr2 : ∀ r ∈ B, r.p.size ≤ maxLen) (hT : Three w x y) :
    Calls Tryd.prog 15 #[v1, v2] w fun e w' => ∃ x, e = .returned (.tuple #[x, .int .i64 (codeLL A B)]) ∧ Below w.heap.size w w' ∧ w'.ownsRow w.heap.size 9 1 x (hidR A B).length ((hidR A B).map strV) := by
  have HC1 := checkLayer_any v1 A x _ h1 hl1 hr1 hT.tab hT.long
  rw [← checkK_val] at HC1
  have HS1 := Lib.hid h1
  have HS2 := Lib.hid h2
  obtain ⟨A1, cap1, rfl, -⟩ := h1
  obtain ⟨A2, cap2, rfl, -⟩ := h2
  cases hk1 : checkK A with
  | fine =>
    rw [hk1] at HC1
    simp only [EK.val] at HC1
    cases hk2 : checkK B with
    | fine =>
      have HE := Lib.hid (show codeLL A B = 0 by rw [← arg_ll, hk1, hk2]; rfl)
      obtain ⟨hoa, hob⟩ := codeLL_ok HE.out
      go_enter Tryd.func15, Tryd.ntmps15
      go_wp2_with fail
      refine HC1.mono ?_
      rintro e w1 ⟨rfl, hb1⟩
      have hT1 := hT.below hb1 (Nat.le_refl _)
      have HC2 := checkLayer_any _ B x _ (HS2.out.below hb1) hl2 hr2 hT1.tab hT1.long
      rw [← checkK_val, hk2] at HC2
      simp only [EK.val] at HC2
      go_wp2_with fail
      refine HC2.mono ?_
      rintro e w2 ⟨rfl, hb2⟩
      have c2 := hb1.trans (hb2.mono hb1.size)
      have HA := arg2_any .fine .fine x y w2 (hT.below c2 (Nat.le_refl _))
      simp only [EK.val] at HA
      go_wp2_with fail
      refine HA.mono ?_
      rintro e w3 ⟨rfl, hb3⟩
      have c3 := c2.trans (hb3.mono c2.size)
      have hcode : argFrom [.fine, .fine] 0 = 0 := rfl
      rw [hcode]
      have hpa : ∀ r ∈ A, pathB r.p.data.toList = true := fun r hm => (fault_path (layer_rec hoa hm)).1
      have hla := layer_len hoa
      go_wp2_with fail
      refine (pathsWhere_any _ _ A B _ (HS1.out.below c3) (HS2.out.below c3) (by omega) hl2 hr1 hr2 (layer_sorted hob) (fun _ hm => layer_rec hob hm) hpa).mono ?_
      rintro e w4 ⟨f, rfl, hb4, hf⟩
      go_wp2_with fail
      go_ret2
      exact ⟨f, by rw [HE.out]; rfl, c3.trans (hb4.mono c3.size), by rw [hidR_ok HE.out]; exact own_le hf c3.size⟩
    | long =>
      have HE := Lib.hid (show codeLL A B = 2 by rw [← arg_ll, hk1, hk2]; rfl)
      go_enter Tryd.func15, Tryd.ntmps15
      go_wp2_with fail
      refine HC1.mono ?_
      rintro e w1 ⟨rfl, hb1⟩
      have hT1 := hT.below hb1 (Nat.le_refl _)
      have HC2 := checkLayer_any _ B x _ (HS2.out.below hb1) hl2 hr2 hT1.tab hT1.long
      rw [← checkK_val, hk2] at HC2
      simp only [EK.val, errV] at HC2
      go_wp2_with fail
      refine HC2.mono ?_
      rintro e w2 ⟨rfl, hb2⟩
      have c2 := hb1.trans (hb2.mono hb1.size)
      have HA := arg2_any .fine .long x y w2 (hT.below c2 (Nat.le_refl _))
      simp only [EK.val, errV] at HA
      go_wp2_with fail
      refine HA.mono ?_
      rintro e w3 ⟨rfl, hb3⟩
      have c3 := c2.trans (hb3.mono c2.size)
      have hcode : argFrom [.fine, .long] 0 = 2 := rfl
      rw [hcode]
      go_wp2_with fail
      go_ret2
      exact ⟨.slice none 0 0, by rw [HE.out]; rfl, c3, by rw [hidR_bad HE.out (by decide)]; exact World.ownsRow_nil _ _ _ _⟩
    | bad j d =>
      have HE := Lib.hid (show codeLL A B = 1 by rw [← arg_ll, hk1, hk2]; rfl)
      go_enter Tryd.func15, Tryd.ntmps15
      go_wp2_with fail
      refine HC1.mono ?_
      rintro e w1 ⟨rfl, hb1⟩
      have hT1 := hT.below hb1 (Nat.le_refl _)
      have HC2 := checkLayer_any _ B x _ (HS2.out.below hb1) hl2 hr2 hT1.tab hT1.long
      rw [← checkK_val, hk2] at HC2
      simp only [EK.val, recV] at HC2
      go_wp2_with fail
      refine HC2.mono ?_
      rintro e w2 ⟨rfl, hb2⟩
      have c2 := hb1.trans (hb2.mono hb1.size)
      have HA := arg2_any .fine (.bad j d) x y w2 (hT.below c2 (Nat.le_refl _))
      simp only [EK.val, recV] at HA
      go_wp2_with fail
      refine HA.mono ?_
      rintro e w3 ⟨rfl, hb3⟩
      have c3 := c2.trans (hb3.mono c2.size)
      have hcode : argFrom [.fine, (.bad j d)] 0 = 1 := rfl
      rw [hcode]
      go_wp2_with fail
      go_ret2
      exact ⟨.slice none 0 0, by rw [HE.out]; rfl, c3, by rw [hidR_bad HE.out (by decide)]; exact World.ownsRow_nil _ _ _ _⟩
  | long =>
    rw [hk1] at HC1
    simp only [EK.val, errV] at HC1
    cases hk2 : checkK B with
    | fine =>
      have HE := Lib.hid (show codeLL A B = 2 by rw [← arg_ll, hk1, hk2]; rfl)
      go_enter Tryd.func15, Tryd.ntmps15
      go_wp2_with fail
      refine HC1.mono ?_
      rintro e w1 ⟨rfl, hb1⟩
      have hT1 := hT.below hb1 (Nat.le_refl _)
      have HC2 := checkLayer_any _ B x _ (HS2.out.below hb1) hl2 hr2 hT1.tab hT1.long
      rw [← checkK_val, hk2] at HC2
      simp only [EK.val] at HC2
      go_wp2_with fail
      refine HC2.mono ?_
      rintro e w2 ⟨rfl, hb2⟩
      have c2 := hb1.trans (hb2.mono hb1.size)
      have HA := arg2_any .long .fine x y w2 (hT.below c2 (Nat.le_refl _))
      simp only [EK.val, errV] at HA
      go_wp2_with fail
      refine HA.mono ?_
      rintro e w3 ⟨rfl, hb3⟩
      have c3 := c2.trans (hb3.mono c2.size)
      have hcode : argFrom [.long, .fine] 0 = 2 := rfl
      rw [hcode]
      go_wp2_with fail
      go_ret2
      exact ⟨.slice none 0 0, by rw [HE.out]; rfl, c3, by rw [hidR_bad HE.out (by decide)]; exact World.ownsRow_nil _ _ _ _⟩
    | long =>
      have HE := Lib.hid (show codeLL A B = 2 by rw [← arg_ll, hk1, hk2]; rfl)
      go_enter Tryd.func15, Tryd.ntmps15
      go_wp2_with fail
      refine HC1.mono ?_
      rintro e w1 ⟨rfl, hb1⟩
      have hT1 := hT.below hb1 (Nat.le_refl _)
      have HC2 := checkLayer_any _ B x _ (HS2.out.below hb1) hl2 hr2 hT1.tab hT1.long
      rw [← checkK_val, hk2] at HC2
      simp only [EK.val, errV] at HC2
      go_wp2_with fail
      refine HC2.mono ?_
      rintro e w2 ⟨rfl, hb2⟩
      have c2 := hb1.trans (hb2.mono hb1.size)
      have HA := arg2_any .long .long x y w2 (hT.below c2 (Nat.le_refl _))
      simp only [EK.val, errV] at HA
      go_wp2_with fail
      refine HA.mono ?_
      rintro e w3 ⟨rfl, hb3⟩
      have c3 := c2.trans (hb3.mono c2.size)
      have hcode : argFrom [.long, .long] 0 = 2 := rfl
      rw [hcode]
      go_wp2_with fail
      go_ret2
      exact ⟨.slice none 0 0, by rw [HE.out]; rfl, c3, by rw [hidR_bad HE.out (by decide)]; exact World.ownsRow_nil _ _ _ _⟩
    | bad j d =>
      have HE := Lib.hid (show codeLL A B = 2 by rw [← arg_ll, hk1, hk2]; rfl)
      go_enter Tryd.func15, Tryd.ntmps15
      go_wp2_with fail
      refine HC1.mono ?_
      rintro e w1 ⟨rfl, hb1⟩
      have hT1 := hT.below hb1 (Nat.le_refl _)
      have HC2 := checkLayer_any _ B x _ (HS2.out.below hb1) hl2 hr2 hT1.tab hT1.long
      rw [← checkK_val, hk2] at HC2
      simp only [EK.val, recV] at HC2
      go_wp2_with fail
      refine HC2.mono ?_
      rintro e w2 ⟨rfl, hb2⟩
      have c2 := hb1.trans (hb2.mono hb1.size)
      have HA := arg2_any .long (.bad j d) x y w2 (hT.below c2 (Nat.le_refl _))
      simp only [EK.val, errV, recV] at HA
      go_wp2_with fail
      refine HA.mono ?_
      rintro e w3 ⟨rfl, hb3⟩
      have c3 := c2.trans (hb3.mono c2.size)
      have hcode : argFrom [.long, (.bad j d)] 0 = 2 := rfl
      rw [hcode]
      go_wp2_with fail
      go_ret2
      exact ⟨.slice none 0 0, by rw [HE.out]; rfl, c3, by rw [hidR_bad HE.out (by decide)]; exact World.ownsRow_nil _ _ _ _⟩
  | bad i c =>
    rw [hk1] at HC1
    simp only [EK.val, recV] at HC1
    cases hk2 : checkK B with
    | fine =>
      have HE := Lib.hid (show codeLL A B = 1 by rw [← arg_ll, hk1, hk2]; rfl)
      go_enter Tryd.func15, Tryd.ntmps15
      go_wp2_with fail
      refine HC1.mono ?_
      rintro e w1 ⟨rfl, hb1⟩
      have hT1 := hT.below hb1 (Nat.le_refl _)
      have HC2 := checkLayer_any _ B x _ (HS2.out.below hb1) hl2 hr2 hT1.tab hT1.long
      rw [← checkK_val, hk2] at HC2
      simp only [EK.val] at HC2
      go_wp2_with fail
      refine HC2.mono ?_
      rintro e w2 ⟨rfl, hb2⟩
      have c2 := hb1.trans (hb2.mono hb1.size)
      have HA := arg2_any (.bad i c) .fine x y w2 (hT.below c2 (Nat.le_refl _))
      simp only [EK.val, recV] at HA
      go_wp2_with fail
      refine HA.mono ?_
      rintro e w3 ⟨rfl, hb3⟩
      have c3 := c2.trans (hb3.mono c2.size)
      have hcode : argFrom [(.bad i c), .fine] 0 = 1 := rfl
      rw [hcode]
      go_wp2_with fail
      go_ret2
      exact ⟨.slice none 0 0, by rw [HE.out]; rfl, c3, by rw [hidR_bad HE.out (by decide)]; exact World.ownsRow_nil _ _ _ _⟩
    | long =>
      have HE := Lib.hid (show codeLL A B = 2 by rw [← arg_ll, hk1, hk2]; rfl)
      go_enter Tryd.func15, Tryd.ntmps15
      go_wp2_with fail
      refine HC1.mono ?_
      rintro e w1 ⟨rfl, hb1⟩
      have hT1 := hT.below hb1 (Nat.le_refl _)
      have HC2 := checkLayer_any _ B x _ (HS2.out.below hb1) hl2 hr2 hT1.tab hT1.long
      rw [← checkK_val, hk2] at HC2
      simp only [EK.val, errV] at HC2
      go_wp2_with fail
      refine HC2.mono ?_
      rintro e w2 ⟨rfl, hb2⟩
      have c2 := hb1.trans (hb2.mono hb1.size)
      have HA := arg2_any (.bad i c) .long x y w2 (hT.below c2 (Nat.le_refl _))
      simp only [EK.val, recV, errV] at HA
      go_wp2_with fail
      refine HA.mono ?_
      rintro e w3 ⟨rfl, hb3⟩
      have c3 := c2.trans (hb3.mono c2.size)
      have hcode : argFrom [(.bad i c), .long] 0 = 2 := rfl
      rw [hcode]
      go_wp2_with fail
      go_ret2
      exact ⟨.slice none 0 0, by rw [HE.out]; rfl, c3, by rw [hidR_bad HE.out (by decide)]; exact World.ownsRow_nil _ _ _ _⟩
    | bad j d =>
      have HE := Lib.hid (show codeLL A B = 1 by rw [← arg_ll, hk1, hk2]; rfl)
      go_enter Tryd.func15, Tryd.ntmps15
      go_wp2_with fail
      refine HC1.mono ?_
      rintro e w1 ⟨rfl, hb1⟩
      have hT1 := hT.below hb1 (Nat.le_refl _)
      have HC2 := checkLayer_any _ B x _ (HS2.out.below hb1) hl2 hr2 hT1.tab hT1.long
      rw [← checkK_val, hk2] at HC2
      simp only [EK.val, recV] at HC2
      go_wp2_with fail
      refine HC2.mono ?_
      rintro e w2 ⟨rfl, hb2⟩
      have c2 := hb1.trans (hb2.mono hb1.size)
      have HA := arg2_any (.bad i c) (.bad j d) x y w2 (hT.below c2 (Nat.le_refl _))
      simp only [EK.val, recV] at HA
      go_wp2_with fail
      refine HA.mono ?_
      rintro e w3 ⟨rfl, hb3⟩
      have c3 := c2.trans (hb3.mono c2.size)
      have hcode : argFrom [(.bad i c), (.bad j d)] 0 = 1 := rfl
      rw [hcode]
      go_wp2_with fail
      go_ret2
      exact ⟨.slice none 0 0, by rw [HE.out]; rfl, c3, by rw [hidR_bad HE.out (by decide)]; exact World.ownsRow_nil _ _ _ _⟩

set_option maxHeartbeats 1600000 in
theorem hidden_spec (v1 v2 : Value) (A B : List R) (w : World) (h1 : RecSl w v1 A) (h2 : RecSl w v2 B) (hl1 : A.length ≤ 1048576) (hl2 : B.length ≤ 1048576) :
    Calls Tryd.prog 14 #[v1, v2] w fun e w' => ∃ x, e = .returned (.tuple #[x, .int .i64 (codeLL A B)]) ∧ Below w.heap.size w w' ∧ w'.ownsRow w.heap.size 9 1 x (hidR A B).length ((hidR A B).map strV) := by
  have HC1 := l03OK_any v1 A _ h1 hl1
  have HS1 := Lib.hid h1
  have HS2 := Lib.hid h2
  obtain ⟨A1, cap1, rfl, -⟩ := h1
  obtain ⟨A2, cap2, rfl, -⟩ := h2
  by_cases ha : 4096 < A.length
  · have HE := Lib.hid (show codeLL A B = 2 from if_pos (.inl ha))
    have hd : decide ((4096 : Int) < (A.length : Int)) = true := by simp; omega
    go_enter Tryd.func14, Tryd.ntmps14
    have hown0 : (w.alloc (.cells #[] 9)).ownsRow w.heap.size 9 1 (.slice (some ⟨w.heap.size, 0, none⟩) 0 0) 0 [] := World.ownsRow_lit w #[] 0 (Below.refl w.heap.size w).size (Nat.zero_le _) rfl
    go_wp2_with fail
    go_ret2
    exact ⟨_, by rw [HE.out]; rfl, (Below.refl w.heap.size w).alloc (Below.refl w.heap.size w).size _, by rw [hidR_bad HE.out (by decide)]; exact hown0⟩
  have hda : decide ((4096 : Int) < (A.length : Int)) = false := by simp; omega
  by_cases hb : 4096 < B.length
  · have HE := Lib.hid (show codeLL A B = 2 from if_pos (.inr hb))
    have hd : decide ((4096 : Int) < (B.length : Int)) = true := by simp; omega
    go_enter Tryd.func14, Tryd.ntmps14
    have hown0 : (w.alloc (.cells #[] 9)).ownsRow w.heap.size 9 1 (.slice (some ⟨w.heap.size, 0, none⟩) 0 0) 0 [] := World.ownsRow_lit w #[] 0 (Below.refl w.heap.size w).size (Nat.zero_le _) rfl
    go_wp2_with fail
    go_ret2
    exact ⟨_, by rw [HE.out]; rfl, (Below.refl w.heap.size w).alloc (Below.refl w.heap.size w).size _, by rw [hidR_bad HE.out (by decide)]; exact hown0⟩
  have hdb : decide ((4096 : Int) < (B.length : Int)) = false := by simp; omega
  have HL : Hid (codeLL A B = if layerOK A && layerOK B then 0 else 1) := if_neg (by omega)
  rcases Bool.eq_false_or_eq_true (layerOK A) with hoa | hoa
  case inr =>
    have HE := Lib.hid (show codeLL A B = 1 by rw [HL.out, hoa]; rfl)
    rw [hoa] at HC1
    go_enter Tryd.func14, Tryd.ntmps14
    go_wp2_with fail
    refine HC1.mono ?_
    rintro e w1 ⟨rfl, hb1⟩
    have hown0 : (w1.alloc (.cells #[] 9)).ownsRow w.heap.size 9 1 (.slice (some ⟨w1.heap.size, 0, none⟩) 0 0) 0 [] := World.ownsRow_lit w1 #[] 0 hb1.size (Nat.zero_le _) rfl
    go_wp2_with fail
    go_ret2
    exact ⟨_, by rw [HE.out]; rfl, hb1.alloc hb1.size _, by rw [hidR_bad HE.out (by decide)]; exact hown0⟩
  rcases Bool.eq_false_or_eq_true (layerOK B) with hob | hob
  case inr =>
    have HE := Lib.hid (show codeLL A B = 1 by rw [HL.out, hoa, hob]; rfl)
    rw [hoa] at HC1
    go_enter Tryd.func14, Tryd.ntmps14
    go_wp2_with fail
    refine HC1.mono ?_
    rintro e w1 ⟨rfl, hb1⟩
    have HC2 := l03OK_any _ B _ (HS2.out.below hb1) hl2
    rw [hob] at HC2
    go_wp2_with fail
    refine HC2.mono ?_
    rintro e w2 ⟨rfl, hb2⟩
    have c2 := hb1.trans (hb2.mono hb1.size)
    have hown0 : (w2.alloc (.cells #[] 9)).ownsRow w.heap.size 9 1 (.slice (some ⟨w2.heap.size, 0, none⟩) 0 0) 0 [] := World.ownsRow_lit w2 #[] 0 c2.size (Nat.zero_le _) rfl
    go_wp2_with fail
    go_ret2
    exact ⟨_, by rw [HE.out]; rfl, c2.alloc c2.size _, by rw [hidR_bad HE.out (by decide)]; exact hown0⟩
  have HE := Lib.hid (show codeLL A B = 0 by rw [HL.out, hoa, hob]; rfl)
  rw [hoa] at HC1
  go_enter Tryd.func14, Tryd.ntmps14
  go_wp2_with fail
  refine HC1.mono ?_
  rintro e w1 ⟨rfl, hb1⟩
  have HC2 := l03OK_any _ B _ (HS2.out.below hb1) hl2
  rw [hob] at HC2
  go_wp2_with fail
  refine HC2.mono ?_
  rintro e w2 ⟨rfl, hb2⟩
  have c2 := hb1.trans (hb2.mono hb1.size)
  obtain ⟨i0, hi, hz0, hz1, hz2⟩ := info_parts strInfo
  have hla := layer_len hoa
  have HCU : Hid (∀ r ∈ A, ∀ w', Below w.heap.size w w' → Calls Tryd.prog 33 #[.slice A2 B.length cap2, .string r.p] w' fun e w'' => e = .returned (.bool (cutsL B r.p)) ∧ Below w'.heap.size w' w'') := fun r hm w' hb => l06Cuts_any _ B r.p w' (HS2.out.below hb) hl2 (fault_path (layer_rec hoa hm)).1
  have HA1 := HS1.out
  obtain ⟨_, _, hsv, _, h⟩ := HA1
  cases hsv
  have H := Lib.hid h
  clear h
  have hown0 : (w2.alloc (.cells #[] 9)).ownsRow w.heap.size 9 1 (.slice (some ⟨w2.heap.size, 0, none⟩) 0 0) 0 [] := World.ownsRow_lit w2 #[] 0 c2.size (Nat.zero_le _) rfl
  go_wp2_with fail
  go_loopw [6, 7] (fun f i wr => ∃ (k : Nat) (M : List (List UInt8)), k ≤ A.length ∧ i = .int .i64 k ∧ Hid (M = hidL B (A.take k)) ∧ wr.ownsRow w.heap.size 9 1 f M.length (M.map strV) ∧ Below w.heap.size w wr) (fun _ i _ => A.length - (intOf i).toNat)
  case atStart => exact ⟨0, [], by omega, rfl, rfl, hown0, c2.alloc c2.size _⟩
  case round =>
    obtain ⟨k, M, hk, rfl, HM, hown, hbw⟩ := hrel
    by_cases hlt : k < A.length
    · obtain ⟨b, off, rfl, hb, hcell⟩ := H.out (by omega)
      obtain ⟨k0, k1, k2, k3, k4⟩ := (hcell k A[k] (by simp [hlt])).below hbw hb
      have HK1 : Hid (∀ W, Below w.heap.size w W → W.cell? ⟨b, off + k * 5 + 1, none⟩ = some (.string A[k].p)) := fun W hW => ((hcell k A[k] (by simp [hlt])).below hW hb).2.1
      clear hcell
      have hi1 : (k : Int) < (A.length : Int) := by omega
      have hi0 : (0 : Int) ≤ (k : Int) := by omega
      have hMl : M.length ≤ 1000 := by
        rw [HM.out]
        have := hid_le B (A.take k)
        rw [List.length_take] at this
        omega
      obtain ⟨fA, fcap, rfl⟩ := own_form hown
      have HC := HCU.out A[k] (List.getElem_mem hlt) _ hbw
      have HST := Lib.hid (hid_step (U := B) hlt)
      rcases Bool.eq_false_or_eq_true (cutsL B A[k].p) with hc | hc
      · have HN : Hid (M ++ [A[k].p.data.toList] = hidL B (A.take (k + 1))) := by show _ = _; rw [HST.out, if_pos hc, ← HM.out]
        rw [hc] at HC
        go_wp2_with fail
        refine HC.mono ?_
        rintro e w5 ⟨rfl, hb5⟩
        have d1 := hbw.trans (hb5.mono hbw.size)
        have hp1 := HK1.out _ d1
        have hsz1 := d1.size
        have ho1 := own_below hown hb5
        go_wp2_with (first
          | (at_builtin; refine wpList_append_own _ rfl _ _ 31 rfl w.heap.size 9 i0 (.string ByteArray.empty) 1 16 Tryd.underlying31 hi hz0 hz1 hz2 rfl (by decide) _ _ _ rfl (ho1.alloc _) ⟨w5.heap.size, 0, none⟩ 1 1 [.string A[k].p] rfl rfl (cell_one_new _ _ _) (fun x hx => by simp at hx; subst hx; rfl) (by unfold maxLen; omega) (by omega) (by simp; omega) ?_; intro v' w9 hown' hgrow9 hnil9))
        exact ⟨⟨k + 1, _, by omega, by go_num, HN, str_snoc hown', (d1.alloc d1.size _).grown hgrow9 (d1.alloc d1.size _).size (fun j hj => (hown.lt j hj).1)⟩, by simp [intOf]; omega⟩
      · have HN : Hid (M = hidL B (A.take (k + 1))) := by show _ = _; rw [HST.out, if_neg (by rw [hc]; decide), ← HM.out]
        rw [hc] at HC
        go_wp2_with fail
        refine HC.mono ?_
        rintro e w5 ⟨rfl, hb5⟩
        go_wp2_with fail
        exact ⟨⟨k + 1, M, by omega, by go_num, HN, own_below hown hb5, hbw.trans (hb5.mono hbw.size)⟩, by simp [intOf]; omega⟩
    · have HF : Hid (M = hidL B A) := by show _ = _; rw [HM.out, List.take_of_length_le (by omega)]
      go_wp2
      go_ret2
      exact ⟨_, by rw [HE.out]; rfl, hbw, by rw [hidR_ok HE.out, ← HF.out]; exact hown⟩
end Go.Proofs.YtcbmnihepeefaaaDoor.Recs
