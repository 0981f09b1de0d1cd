/- Layers: UnderOpaque, of the program and of its model. Conditions (of the program's): the table of kinds, the two sentinels. -/
import Derived.Test.YtbgejefmchnhcaaDoorLay11
import Derived.Test.YtbgejefmchnhcaaDoorPlainR
namespace Go.Proofs.YtbgejefmchnhcaaDoor.Recs
set_option maxRecDepth 100000
open Go.RowKit Paths Errs

def pm : Value → Nat
  | .string s => if s.size = 0 then 0 else (cutAt 47 s.data.toList).length
  | _ => 0
theorem parO_size {p : ByteArray} (h : parentL p.data.toList = []) : (parO p).size = 0 := by rw [Lib.size_eq, parO_data, h]; rfl
theorem path_pos {p : ByteArray} (h : pathB p.data.toList = true) : p.size ≠ 0 := fun e => by rw [pathB_empty e] at h; cases h
theorem pm_down {p : ByteArray} (h : pathB p.data.toList = true) : pm (.string (parO p)) < pm (.string p) := by
  have h0 := path_pos h
  have h1 : 0 < (cutAt 47 p.data.toList).length := cutAt_pos 47 _
  show (if (parO p).size = 0 then 0 else (cutAt 47 (parO p).data.toList).length) < (if p.size = 0 then 0 else (cutAt 47 p.data.toList).length)
  rw [if_neg h0]
  by_cases hp : parentL p.data.toList = []
  · rw [if_pos (parO_size hp)]; exact h1
  · obtain ⟨h2, h3⟩ := parts_parent h hp
    rw [if_neg (path_pos h2)]
    omega
/-- What is still to look at: none, or the path and what is above it. -/
def Left (l : List R) (u : Bool) (p : ByteArray) : Prop := (p.size = 0 ∧ u = false) ∨ (pathB p.data.toList = true ∧ u = (opaqueAt l p || underL l p))
theorem left_start {l : List R} {q : ByteArray} (h : pathB q.data.toList = true) : Left l (underL l q) (parO q) := by
  by_cases hp : parentL q.data.toList = []
  · exact .inl ⟨parO_size hp, by rw [underL_step l h, if_pos hp]⟩
  · exact .inr ⟨(parts_parent h hp).1, by rw [underL_step l h, if_neg hp]⟩
theorem left_next {l : List R} {u : Bool} {p : ByteArray} (h : pathB p.data.toList = true) (hu : u = (opaqueAt l p || underL l p)) (ho : opaqueAt l p = false) : Left l u (parO p) := by
  rw [ho, Bool.false_or] at hu
  rw [hu]
  exact left_start h
theorem opaque_none {l : List R} {p : ByteArray} (h : atL l p = -1) : opaqueAt l p = false := by unfold opaqueAt; rw [h]; rfl
theorem opaque_at {l : List R} {p : ByteArray} {j : Nat} (hj : j < l.length) (h : atL l p = (j : Int)) : opaqueAt l p = l[j].o := by
  unfold opaqueAt; rw [h]; simp [hj]

set_option maxHeartbeats 800000 in
theorem l03Under_any (v : Value) (l : List R) (q : ByteArray) (w : World) (h : RecSl w v l) (hl : l.length ≤ 1048576) (hq : pathB q.data.toList = true) :
    Calls Tryd.prog 46 #[v, .string q] w fun e w' => e = .returned (.bool (underL l q)) ∧ w = w' := by
  have hsl := h
  obtain ⟨A, cap, rfl, hcap, h⟩ := h
  have HS := Lib.hid hsl
  have H := Lib.hid h
  have HL0 := Lib.hid (left_start (l := l) hq)
  have hqs := path_short hq
  clear h hsl
  go_enter Tryd.func46, Tryd.ntmps46
  go_wp2_with fail
  refine (l01Parent_any q _ (by unfold maxLen; omega)).mono ?_
  rintro e w1 ⟨rfl, rfl⟩
  go_wp2_with fail
  go_loop [5] (fun p => ∃ P : ByteArray, p = .string P ∧ Hid (Left l (underL l q) P)) (fun p => pm p)
  case atStart => exact ⟨parO q, rfl, HL0⟩
  case round =>
    obtain ⟨P, rfl, HP⟩ := hrel
    rcases HP.out with ⟨h0, hu⟩ | ⟨hp, hu⟩
    · have HU := Lib.hid hu
      have he := isEmpty_true h0
      clear h0 hu
      go_wp2_with fail
      go_ret
      exact ⟨ret_bool HU.out.symm, rfl⟩
    · have HU := Lib.hid hu
      have he := isEmpty_false (Nat.pos_of_ne_zero (path_pos hp))
      have hps := path_short hp
      have HM := Lib.hid (pm_down hp)
      clear hu
      go_wp2_with fail
      refine (l03At_any _ l _ _ HS.out hl).mono ?_
      rintro e w1 ⟨rfl, rfl⟩
      rcases atL_cases l P with ⟨ha, -⟩ | ⟨j, hj, ha, -⟩
      · have HN := Lib.hid (left_next hp HU.out (opaque_none ha))
        rw [ha]
        go_wp2_with fail
        refine (l01Parent_any P _ (by unfold maxLen; omega)).mono ?_
        rintro e w1 ⟨rfl, rfl⟩
        go_wp2_with fail
        exact ⟨⟨parO P, rfl, HN⟩, HM.out⟩
      · have HO := Lib.hid (opaque_at hj ha)
        obtain ⟨b, off, rfl, hb, hcell⟩ := H.out (by omega)
        obtain ⟨_, _, _, _, f4⟩ := hcell j l[j] (by simp [hj])
        have j1 : (0 : Int) ≤ (j : Int) := by omega
        have j2 : (j : Int) < (l.length : Int) := by omega
        have j3 : decide ((0 : Int) ≤ (j : Int)) = true := by simp
        rw [ha]
        clear ha hcell
        rcases Bool.eq_false_or_eq_true l[j].o with ho | ho
        · have HF : Hid (underL l q = true) := by show _ = _; rw [HU.out, HO.out, ho]; rfl
          rw [ho] at f4
          go_wp2_with fail
          go_ret
          exact ⟨ret_bool HF.out.symm, rfl⟩
        · have HN := Lib.hid (left_next hp HU.out (HO.out.trans ho))
          rw [ho] at f4
          go_wp2_with fail
          refine (l01Parent_any P _ (by unfold maxLen; omega)).mono ?_
          rintro e w1 ⟨rfl, rfl⟩
          go_wp2_with fail
          exact ⟨⟨parO P, rfl, HN⟩, HM.out⟩

/-- The program's way to look comes to the same. -/
theorem under_same {l : List R} (h : layerOK l = true) {q : ByteArray} (hq : pathB q.data.toList = true) : underI l q = underL l q := by
  rw [underL_any]
  unfold underI
  rw [Bool.eq_iff_iff, List.any_eq_true, List.any_eq_true]
  constructor
  · rintro ⟨r, hm, hr⟩
    have hp := (fault_path (layer_rec h hm)).1
    simp only [Bool.and_eq_true] at hr
    rw [below_two (path_pos hp) hq hp, ← isUp_below hq, isUp_iff] at hr
    refine ⟨r.p, hr.2, ?_⟩
    rw [opaqueAt_eq, recAt_of (layer_sorted h) hm]
    exact hr.1
  · rintro ⟨a, ha, ho⟩
    rw [opaqueAt_eq] at ho
    cases hr : recAt l a with
    | none => rw [hr] at ho; cases ho
    | some r =>
      rw [hr] at ho
      obtain ⟨hm, rfl⟩ := recAt_mem hr
      have hp := (fault_path (layer_rec h hm)).1
      refine ⟨r, hm, ?_⟩
      simp only [Bool.and_eq_true]
      refine ⟨ho, ?_⟩
      rw [below_two (path_pos hp) hq hp, ← isUp_below hq, isUp_iff]
      exact ha

def undF (l : List R) (q : ByteArray) : Bool × Int := if codeLT l q ≠ 0 then (false, codeLT l q) else if pathB q.data.toList then (underL l q, 0) else (false, 10)
def undV (l : List R) (q : ByteArray) : Value := .tuple #[.bool (undF l q).1, .int .i64 (undF l q).2]
theorem und_code {l : List R} {q : ByteArray} {c : Int} (hc : codeLT l q = c) (h : c ≠ 0) : undV l q = .tuple #[.bool false, .int .i64 c] := by
  unfold undV undF; rw [hc, if_pos h]
theorem und_name {l : List R} {q : ByteArray} (h : codeLT l q = 0) (hq : pathB q.data.toList = false) : undV l q = .tuple #[.bool false, .int .i64 10] := by
  unfold undV undF; rw [if_neg (by simpa using h), if_neg (by rw [hq]; decide)]
theorem und_path {l : List R} {q : ByteArray} (h : codeLT l q = 0) (hq : pathB q.data.toList = true) : undV l q = .tuple #[.bool (underL l q), .int .i64 0] := by
  unfold undV undF; rw [if_neg (by simpa using h), if_pos hq]
theorem code_ok {l : List R} {q : ByteArray} (h : codeLT l q = 0) : layerOK l = true := by
  unfold codeLT at h
  split at h
  · cases h
  · split at h
    · assumption
    · cases h

set_option maxHeartbeats 1600000 in
theorem underOpaque_impl (v : Value) (l : List R) (q : ByteArray) (x y : Addr) (w : World) (h : RecSl w v l) (hl : l.length ≤ 1048576) (hr : ∀ r ∈ l, r.p.size ≤ maxLen) (hqm : q.size ≤ maxLen) (hT : Three w x y) :
    Calls Tryd.prog 29 #[v, .string q] w fun e w' => e = .returned (undV l q) ∧ Below w.heap.size w w' := by
  have HC := checkLayer_any v l x _ h hl hr hT.tab hT.long
  rw [← checkK_val] at HC
  have hsl := h
  obtain ⟨A, cap, rfl, hcap, h⟩ := h
  cases hk : checkK l with
  | fine =>
    rw [hk] at HC
    unfold EK.val at HC
    cases ht : textK q with
    | fine =>
      have h0 : codeLT l q = 0 := by rw [← arg_lt, hk, ht]; rfl
      have hok := code_ok h0
      have H0 := Lib.hid h0
      clear h0
      go_enter Tryd.func29, Tryd.ntmps29
      go_wp2_with fail
      refine HC.mono ?_
      rintro e w1 ⟨rfl, hb1⟩
      have hT1 := hT.below hb1 (Nat.le_refl _)
      have HX := checkText_any q x w1 hT1.long
      rw [ht] at HX
      have HA := arg2_any .fine .fine x y w1 hT1
      unfold EK.val at HX HA
      unfold errV at HX HA
      unfold recV at HA
      go_wp2_with fail
      refine HX.mono ?_
      rintro e w2 ⟨rfl, rfl⟩
      go_wp2_with fail
      refine HA.mono ?_
      rintro e w3 ⟨rfl, hb3⟩
      have c3 := hb1.trans (hb3.mono hb1.size)
      have hcode : argFrom [.fine, .fine] 0 = 0 := rfl
      rw [hcode]
      go_wp2_with fail
      refine (pathOK_impl q _ hqm).mono ?_
      rintro e w4 ⟨rfl, hb4⟩
      have c4 := c3.trans (hb4.mono c3.size)
      rcases Bool.eq_false_or_eq_true (pathB q.data.toList) with hp | hp
      · have HE := Lib.hid (und_path H0.out hp)
        have HU := Lib.hid (under_same hok hp)
        rw [hp]
        go_wp2_with fail
        refine (underOpaque_any _ l q _ (hsl.below c4) hl hqm hr).mono ?_
        rintro e w5 ⟨rfl, hb5⟩
        rw [HU.out]
        go_wp2_with fail
        go_ret2
        exact ⟨ret_eq HE.out.symm, c4.trans (hb5.mono c4.size)⟩
      · have HE := Lib.hid (und_name H0.out hp)
        rw [hp]
        go_wp2_with fail
        go_ret2
        exact ⟨ret_eq HE.out.symm, c4⟩
    | long =>
      have HE := Lib.hid (und_code (l := l) (q := q) (c := 2) (by rw [← arg_lt, hk, ht]; rfl) (by decide))
      go_enter Tryd.func29, Tryd.ntmps29
      go_wp2_with fail
      refine HC.mono ?_
      rintro e w1 ⟨rfl, hb1⟩
      have hT1 := hT.below hb1 (Nat.le_refl _)
      have HX := checkText_any q x w1 hT1.long
      rw [ht] at HX
      have HA := arg2_any .fine .long x y w1 hT1
      unfold EK.val at HX HA
      unfold errV at HX HA
      unfold recV at HA
      go_wp2_with fail
      refine HX.mono ?_
      rintro e w2 ⟨rfl, rfl⟩
      go_wp2_with fail
      refine HA.mono ?_
      rintro e w3 ⟨rfl, hb3⟩
      have c3 := hb1.trans (hb3.mono hb1.size)
      have hcode : argFrom [.fine, .long] 0 = 2 := rfl
      rw [hcode]
      go_wp2_with fail
      go_ret2
      exact ⟨ret_eq HE.out.symm, c3⟩
    | bad i c => exact absurd ht text_not
  | long =>
    rw [hk] at HC
    unfold EK.val errV at HC
    cases ht : textK q with
    | fine =>
      have HE := Lib.hid (und_code (l := l) (q := q) (c := 2) (by rw [← arg_lt, hk, ht]; rfl) (by decide))
      go_enter Tryd.func29, Tryd.ntmps29
      go_wp2_with fail
      refine HC.mono ?_
      rintro e w1 ⟨rfl, hb1⟩
      have hT1 := hT.below hb1 (Nat.le_refl _)
      have HX := checkText_any q x w1 hT1.long
      rw [ht] at HX
      have HA := arg2_any .long .fine x y w1 hT1
      unfold EK.val at HX HA
      unfold errV at HX HA
      unfold recV at HA
      go_wp2_with fail
      refine HX.mono ?_
      rintro e w2 ⟨rfl, rfl⟩
      go_wp2_with fail
      refine HA.mono ?_
      rintro e w3 ⟨rfl, hb3⟩
      have c3 := hb1.trans (hb3.mono hb1.size)
      have hcode : argFrom [.long, .fine] 0 = 2 := rfl
      rw [hcode]
      go_wp2_with fail
      go_ret2
      exact ⟨ret_eq HE.out.symm, c3⟩
    | long =>
      have HE := Lib.hid (und_code (l := l) (q := q) (c := 2) (by rw [← arg_lt, hk, ht]; rfl) (by decide))
      go_enter Tryd.func29, Tryd.ntmps29
      go_wp2_with fail
      refine HC.mono ?_
      rintro e w1 ⟨rfl, hb1⟩
      have hT1 := hT.below hb1 (Nat.le_refl _)
      have HX := checkText_any q x w1 hT1.long
      rw [ht] at HX
      have HA := arg2_any .long .long x y w1 hT1
      unfold EK.val at HX HA
      unfold errV at HX HA
      unfold recV at HA
      go_wp2_with fail
      refine HX.mono ?_
      rintro e w2 ⟨rfl, rfl⟩
      go_wp2_with fail
      refine HA.mono ?_
      rintro e w3 ⟨rfl, hb3⟩
      have c3 := hb1.trans (hb3.mono hb1.size)
      have hcode : argFrom [.long, .long] 0 = 2 := rfl
      rw [hcode]
      go_wp2_with fail
      go_ret2
      exact ⟨ret_eq HE.out.symm, c3⟩
    | bad i c => exact absurd ht text_not
  | bad i c =>
    rw [hk] at HC
    unfold EK.val recV at HC
    cases ht : textK q with
    | fine =>
      have HE := Lib.hid (und_code (l := l) (q := q) (c := 1) (by rw [← arg_lt, hk, ht]; rfl) (by decide))
      go_enter Tryd.func29, Tryd.ntmps29
      go_wp2_with fail
      refine HC.mono ?_
      rintro e w1 ⟨rfl, hb1⟩
      have hT1 := hT.below hb1 (Nat.le_refl _)
      have HX := checkText_any q x w1 hT1.long
      rw [ht] at HX
      have HA := arg2_any (.bad i c) .fine x y w1 hT1
      unfold EK.val at HX HA
      unfold errV at HX HA
      unfold recV at HA
      go_wp2_with fail
      refine HX.mono ?_
      rintro e w2 ⟨rfl, rfl⟩
      go_wp2_with fail
      refine HA.mono ?_
      rintro e w3 ⟨rfl, hb3⟩
      have c3 := hb1.trans (hb3.mono hb1.size)
      have hcode : argFrom [(.bad i c), .fine] 0 = 1 := rfl
      rw [hcode]
      go_wp2_with fail
      go_ret2
      exact ⟨ret_eq HE.out.symm, c3⟩
    | long =>
      have HE := Lib.hid (und_code (l := l) (q := q) (c := 2) (by rw [← arg_lt, hk, ht]; rfl) (by decide))
      go_enter Tryd.func29, Tryd.ntmps29
      go_wp2_with fail
      refine HC.mono ?_
      rintro e w1 ⟨rfl, hb1⟩
      have hT1 := hT.below hb1 (Nat.le_refl _)
      have HX := checkText_any q x w1 hT1.long
      rw [ht] at HX
      have HA := arg2_any (.bad i c) .long x y w1 hT1
      unfold EK.val at HX HA
      unfold errV at HX HA
      unfold recV at HA
      go_wp2_with fail
      refine HX.mono ?_
      rintro e w2 ⟨rfl, rfl⟩
      go_wp2_with fail
      refine HA.mono ?_
      rintro e w3 ⟨rfl, hb3⟩
      have c3 := hb1.trans (hb3.mono hb1.size)
      have hcode : argFrom [(.bad i c), .long] 0 = 2 := rfl
      rw [hcode]
      go_wp2_with fail
      go_ret2
      exact ⟨ret_eq HE.out.symm, c3⟩
    | bad i c => exact absurd ht text_not

set_option maxHeartbeats 800000 in
theorem underOpaque_spec (v : Value) (l : List R) (q : ByteArray) (w : World) (h : RecSl w v l) (hl : l.length ≤ 1048576) :
    Calls Tryd.prog 28 #[v, .string q] w fun e w' => e = .returned (undV l q) ∧ Below w.heap.size w w' := by
  have HC := l03OK_any v l _ h hl
  have hsl := h
  obtain ⟨A, cap, rfl, hcap, h⟩ := h
  by_cases h4 : 4096 < l.length
  · have HE := Lib.hid (und_code (l := l) (q := q) (c := 2) (by unfold codeLT; rw [if_pos (.inl h4)]) (by decide))
    have hd : decide ((4096 : Int) < (l.length : Int)) = true := by simp; omega
    go_enter Tryd.func28, Tryd.ntmps28
    go_wp2_with fail
    go_ret2
    exact ⟨ret_eq HE.out.symm, Below.refl _ _⟩
  have hd4 : decide ((4096 : Int) < (l.length : Int)) = false := by simp; omega
  by_cases h5 : 65536 < q.size
  · have HE := Lib.hid (und_code (l := l) (q := q) (c := 2) (by unfold codeLT; rw [if_pos (.inr h5)]) (by decide))
    have hd : decide ((65536 : Int) < (q.size : Int)) = true := by simp; omega
    go_enter Tryd.func28, Tryd.ntmps28
    go_wp2_with fail
    go_ret2
    exact ⟨ret_eq HE.out.symm, Below.refl _ _⟩
  have hd5 : decide ((65536 : Int) < (q.size : Int)) = false := by simp; omega
  have HL : Hid (codeLT l q = if layerOK l then 0 else 1) := by show _ = _; unfold codeLT; rw [if_neg (by omega)]
  rcases Bool.eq_false_or_eq_true (layerOK l) with hk | hk
  case inr =>
    have HE := Lib.hid (und_code (l := l) (q := q) (c := 1) (by rw [HL.out, hk]; rfl) (by decide))
    rw [hk] at HC
    go_enter Tryd.func28, Tryd.ntmps28
    go_wp2_with fail
    refine HC.mono ?_
    rintro e w1 ⟨rfl, hb1⟩
    go_wp2_with fail
    go_ret2
    exact ⟨ret_eq HE.out.symm, hb1⟩
  have H0 : Hid (codeLT l q = 0) := by show _ = _; rw [HL.out, hk]; rfl
  rw [hk] at HC
  go_enter Tryd.func28, Tryd.ntmps28
  go_wp2_with fail
  refine HC.mono ?_
  rintro e w1 ⟨rfl, hb1⟩
  go_wp2_with fail
  refine (l01OK_any q _).mono ?_
  rintro e w2 ⟨rfl, hb2⟩
  have c2 := hb1.trans (hb2.mono hb1.size)
  rcases Bool.eq_false_or_eq_true (pathB q.data.toList) with hp | hp
  · have HE := Lib.hid (und_path H0.out hp)
    have HU := l03Under_any _ l q _ (hsl.below c2) hl hp
    rw [hp]
    go_wp2_with fail
    refine HU.mono ?_
    rintro e w3 ⟨rfl, rfl⟩
    go_wp2_with fail
    go_ret2
    exact ⟨ret_eq HE.out.symm, c2⟩
  · have HE := Lib.hid (und_name H0.out hp)
    rw [hp]
    go_wp2_with fail
    go_ret2
    exact ⟨ret_eq HE.out.symm, c2⟩
end Go.Proofs.YtbgejefmchnhcaaDoor.Recs
