/- Layers: Canonical and IsCanonical, of the program and of its model. Conditions (of the program's): the table of kinds, the two sentinels. -/
import Derived.Test.YtbgejefmchnhcaaDoorLay14
namespace Go.Proofs.YtbgejefmchnhcaaDoor.Recs
set_option maxRecDepth 100000
open Go.RowKit Paths Errs

def canC (l : List R) : List R := if codeL l = 0 then canonL l else []
theorem canC_bad {l : List R} (h : codeL l ≠ 0) : canC l = [] := if_neg h
theorem canC_ok {l : List R} (h : codeL l = 0) : canC l = canonL l := if_pos h
theorem codeL_ok {l : List R} (h : codeL l = 0) : layerOK l = true := by
  unfold codeL at h
  split at h
  · cases h
  · split at h
    · assumption
    · cases h
theorem codeL_short {l : List R} (h : codeL l = 0) : ¬ 4096 < l.length := by
  unfold codeL at h
  split at h
  · cases h
  · assumption
theorem canon_len (l : List R) : (canonL l).length ≤ l.length := List.length_filterMap_le _ _
theorem own_le {w : World} {base base' : Nat} {e : TypeId} {size : Nat} {v : Value} {n : Nat} {xs : List Value} (h : w.ownsRow base e size v n xs) (hb : base' ≤ base) : w.ownsRow base' e size v n xs := by
  obtain ⟨h1, h2⟩ := h
  refine ⟨h1, ?_⟩
  rcases h2 with h2 | ⟨g, cap', cur, a, b, c⟩
  · exact .inl h2
  · exact .inr ⟨g, cap', cur, a, Nat.le_trans hb b, c⟩

/-- What Canonical leaves: the form in memory of its own, and the code. -/
def CanPost (l : List R) (w : World) (e : Ending) (w' : World) : Prop :=
  ∃ x, e = .returned (.tuple #[x, .int .i64 (codeL l)]) ∧ Below w.heap.size w w' ∧ RowOf w' w.heap.size x (canC l).length (canC l)

set_option maxHeartbeats 1600000 in
theorem canonical_impl (v : Value) (l : List R) (x y : Addr) (w : World) (h : RecSl w v l) (hl : l.length ≤ 1048576) (hr : ∀ r ∈ l, r.p.size ≤ maxLen) (hT : Three w x y) :
    Calls Tryd.prog 21 #[v] w (CanPost l w) := by
  have HC := checkLayer_any v l x _ h hl hr hT.tab hT.long
  rw [← checkK_val] at HC
  have hsl := h
  obtain ⟨A, cap, rfl, hcap, h⟩ := h
  cases hk : checkK l with
  | fine =>
    rw [hk] at HC
    unfold EK.val at HC
    have h0 : codeL l = 0 := by rw [← arg_l, hk]; rfl
    have hok := codeL_ok h0
    have H0 := Lib.hid h0
    clear h0
    go_enter Tryd.func21, Tryd.ntmps21
    go_wp2_with fail
    refine HC.mono ?_
    rintro e w1 ⟨rfl, hb1⟩
    have hT1 := hT.below hb1 (Nat.le_refl _)
    have HA := arg1_any .fine x y w1 hT1
    unfold EK.val at HA
    go_wp2_with fail
    refine HA.mono ?_
    rintro e w3 ⟨rfl, hb3⟩
    have c3 := hb1.trans (hb3.mono hb1.size)
    have hcode : argFrom [.fine] 0 = 0 := rfl
    rw [hcode]
    go_wp2_with fail
    refine (canonicalForm_any _ l _ (hsl.below c3) hok hr).mono ?_
    rintro e w4 ⟨f, rfl, hb4, hr4⟩
    go_wp2_with fail
    go_ret2
    exact ⟨f, by rw [H0.out]; rfl, c3.trans (hb4.mono c3.size), by rw [canC_ok H0.out]; exact ⟨hr4.1, own_le hr4.2 c3.size⟩⟩
  | long =>
    rw [hk] at HC
    unfold EK.val errV at HC
    have HE := Lib.hid (show codeL l = 2 by rw [← arg_l, hk]; rfl)
    go_enter Tryd.func21, Tryd.ntmps21
    go_wp2_with fail
    refine HC.mono ?_
    rintro e w1 ⟨rfl, hb1⟩
    have hT1 := hT.below hb1 (Nat.le_refl _)
    have HA := arg1_any .long x y w1 hT1
    unfold EK.val at HA
    unfold errV at HA
    go_wp2_with fail
    refine HA.mono ?_
    rintro e w3 ⟨rfl, hb3⟩
    have c3 := hb1.trans (hb3.mono hb1.size)
    have hcode : argFrom [.long] 0 = 2 := rfl
    rw [hcode]
    go_wp2_with fail
    go_ret2
    exact ⟨.slice none 0 0, by rw [HE.out]; rfl, c3, by rw [canC_bad (by rw [HE.out]; decide)]; exact ⟨rfl, World.ownsRow_nil _ _ _ _⟩⟩
  | bad i c =>
    rw [hk] at HC
    unfold EK.val recV at HC
    have HE := Lib.hid (show codeL l = 1 by rw [← arg_l, hk]; rfl)
    go_enter Tryd.func21, Tryd.ntmps21
    go_wp2_with fail
    refine HC.mono ?_
    rintro e w1 ⟨rfl, hb1⟩
    have hT1 := hT.below hb1 (Nat.le_refl _)
    have HA := arg1_any (.bad i c) x y w1 hT1
    unfold EK.val at HA
    unfold recV at HA
    go_wp2_with fail
    refine HA.mono ?_
    rintro e w3 ⟨rfl, hb3⟩
    have c3 := hb1.trans (hb3.mono hb1.size)
    have hcode : argFrom [(.bad i c)] 0 = 1 := rfl
    rw [hcode]
    go_wp2_with fail
    go_ret2
    exact ⟨.slice none 0 0, by rw [HE.out]; rfl, c3, by rw [canC_bad (by rw [HE.out]; decide)]; exact ⟨rfl, World.ownsRow_nil _ _ _ _⟩⟩

set_option maxHeartbeats 1600000 in
theorem canonical_spec (v : Value) (l : List R) (w : World) (h : RecSl w v l) (hl : l.length ≤ 1048576) :
    Calls Tryd.prog 20 #[v] w (CanPost l w) := by
  have HC := l03OK_any v l _ h hl
  have hsl := h
  obtain ⟨A, cap, rfl, hcap, h⟩ := h
  by_cases h4 : 4096 < l.length
  · have HE := Lib.hid (show codeL l = 2 from if_pos h4)
    have hd : decide ((4096 : Int) < (l.length : Int)) = true := by simp; omega
    have hb0 : Below w.heap.size w (w.alloc (.cells #[] 32)) := (Below.refl _ _).alloc (Nat.le_refl _) _
    have hown0 : (w.alloc (.cells #[] 32)).ownsRow w.heap.size 32 5 (.slice (some ⟨w.heap.size, 0, none⟩) 0 0) 0 [] := World.ownsRow_lit w #[] 0 (Nat.le_refl _) (Nat.zero_le _) rfl
    go_enter Tryd.func20, Tryd.ntmps20
    go_wp2_with fail
    go_ret2
    exact ⟨_, by rw [HE.out]; rfl, hb0, by rw [canC_bad (by rw [HE.out]; decide)]; exact ⟨rfl, hown0⟩⟩
  have hd4 : decide ((4096 : Int) < (l.length : Int)) = false := by simp; omega
  rcases Bool.eq_false_or_eq_true (layerOK l) with hk | hk
  case inr =>
    have HE := Lib.hid (show codeL l = 1 by unfold codeL; rw [if_neg h4, hk]; rfl)
    rw [hk] at HC
    go_enter Tryd.func20, Tryd.ntmps20
    go_wp2_with fail
    refine HC.mono ?_
    rintro e w1 ⟨rfl, hb1⟩
    have hown0 : (w1.alloc (.cells #[] 32)).ownsRow w.heap.size 32 5 (.slice (some ⟨w1.heap.size, 0, none⟩) 0 0) 0 [] := World.ownsRow_lit w1 #[] 0 hb1.size (Nat.zero_le _) rfl
    go_wp2_with fail
    go_ret2
    exact ⟨_, by rw [HE.out]; rfl, hb1.alloc hb1.size _, by rw [canC_bad (by rw [HE.out]; decide)]; exact ⟨rfl, hown0⟩⟩
  have HE := Lib.hid (show codeL l = 0 by unfold codeL; rw [if_neg h4, hk]; rfl)
  rw [hk] at HC
  go_enter Tryd.func20, Tryd.ntmps20
  go_wp2_with fail
  refine HC.mono ?_
  rintro e w1 ⟨rfl, hb1⟩
  go_wp2_with fail
  refine (l03Canon_any _ l _ (hsl.below hb1) hk).mono ?_
  rintro e w2 ⟨f, rfl, hb2, hr2⟩
  go_wp2_with fail
  go_ret2
  exact ⟨f, by rw [HE.out]; rfl, hb1.trans (hb2.mono hb1.size), by rw [canC_ok HE.out]; exact ⟨hr2.1, own_le hr2.2 hb1.size⟩⟩

/-- Whether a list is a canonical layer. -/
def isCan (l : List R) : Bool := okL l && decide (canonL l = l)
theorem okL_code (l : List R) : okL l = decide (codeL l = 0) := by
  unfold okL codeL
  by_cases h4 : 4096 < l.length
  · rw [if_pos h4, decide_eq_false (by omega)]; rfl
  · rw [if_neg h4, decide_eq_true (by omega)]
    rcases Bool.eq_false_or_eq_true (layerOK l) with hk | hk <;> rw [hk] <;> rfl

set_option maxHeartbeats 1600000 in
theorem isCanonical_impl (v : Value) (l : List R) (x y : Addr) (w : World) (h : RecSl w v l) (hl : l.length ≤ 1048576) (hr : ∀ r ∈ l, r.p.size ≤ maxLen) (hT : Three w x y) :
    Calls Tryd.prog 25 #[v] w fun e w' => e = .returned (.bool (isCan l)) ∧ Below w.heap.size w w' := by
  have HC := canonical_impl v l x y w h hl hr hT
  by_cases hc : codeL l = 0
  · have HO : Hid (isCan l = decide (canonL l = l)) := by show _ = _; unfold isCan; rw [okL_code, hc]; rfl
    have HN := Lib.hid (canC_ok hc)
    have hdc : (codeL l == 0) = true := by simpa using hc
    clear hc
    go_enter Tryd.func25, Tryd.ntmps25
    go_wp2_with fail
    refine HC.mono ?_
    rintro e w1 ⟨f, rfl, hb1, hr1⟩
    rw [HN.out] at hr1
    go_wp2_with fail
    refine (equalR_any f v (canonL l) l _ hr1.sl (h.below hb1) (by have := canon_len l; omega)).mono ?_
    rintro e w2 ⟨rfl, n2, rfl⟩
    go_wp2_with fail
    go_ret
    exact ⟨ret_bool HO.out.symm, below_drewN hb1 n2⟩
  · have HO : Hid (isCan l = false) := by show _ = _; unfold isCan; rw [okL_code, decide_eq_false hc]; rfl
    have hdc : (codeL l == 0) = false := by simpa using hc
    clear hc
    go_enter Tryd.func25, Tryd.ntmps25
    go_wp2_with fail
    refine HC.mono ?_
    rintro e w1 ⟨f, rfl, hb1, hr1⟩
    go_wp2_with fail
    go_ret
    exact ⟨ret_bool HO.out.symm, hb1⟩

set_option maxHeartbeats 1600000 in
theorem isCanonical_spec (v : Value) (l : List R) (w : World) (h : RecSl w v l) (hl : l.length ≤ 1048576) :
    Calls Tryd.prog 24 #[v] w fun e w' => e = .returned (.bool (isCan l)) ∧ Below w.heap.size w w' := by
  have HC := l03OK_any v l _ h hl
  have hsl := h
  obtain ⟨A, cap, rfl, hcap, h⟩ := h
  by_cases h4 : 4096 < l.length
  · have HO : Hid (isCan l = false) := by show _ = _; unfold isCan okL; rw [decide_eq_false (by omega)]; rfl
    have hd : decide ((4096 : Int) < (l.length : Int)) = true := by simp; omega
    go_enter Tryd.func24, Tryd.ntmps24
    go_wp2_with fail
    go_ret
    exact ⟨ret_bool HO.out.symm, Below.refl _ _⟩
  have hd4 : decide ((4096 : Int) < (l.length : Int)) = false := by simp; omega
  have HK : Hid (okL l = layerOK l) := by show _ = _; unfold okL; rw [decide_eq_true (by omega)]; rfl
  rcases Bool.eq_false_or_eq_true (layerOK l) with hk | hk
  case inr =>
    have HO : Hid (isCan l = false) := by show _ = _; unfold isCan; rw [HK.out, hk]; rfl
    rw [hk] at HC
    go_enter Tryd.func24, Tryd.ntmps24
    go_wp2_with fail
    refine HC.mono ?_
    rintro e w1 ⟨rfl, hb1⟩
    go_wp2_with fail
    go_ret
    exact ⟨ret_bool HO.out.symm, hb1⟩
  have HO : Hid (isCan l = decide (l = canonL l)) := by
    show _ = _
    unfold isCan
    rw [HK.out, hk, Bool.true_and, decide_eq_decide]
    exact eq_comm
  rw [hk] at HC
  go_enter Tryd.func24, Tryd.ntmps24
  go_wp2_with fail
  refine HC.mono ?_
  rintro e w1 ⟨rfl, hb1⟩
  go_wp2_with fail
  refine (l03Canon_any _ l _ (hsl.below hb1) hk).mono ?_
  rintro e w2 ⟨f, rfl, hb2, hr2⟩
  have c2 := hb1.trans (hb2.mono hb1.size)
  go_wp2_with fail
  refine (l03Same_any _ f l (canonL l) _ (hsl.below c2) hr2.sl hl).mono ?_
  rintro e w3 ⟨rfl, n3, rfl⟩
  go_wp2_with fail
  go_ret
  exact ⟨ret_bool HO.out.symm, below_drewN c2 n3⟩
end Go.Proofs.YtbgejefmchnhcaaDoor.Recs
