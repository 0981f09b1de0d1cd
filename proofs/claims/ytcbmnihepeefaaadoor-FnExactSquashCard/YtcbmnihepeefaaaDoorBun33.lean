/- Several texts of mine in one file (each begins with its own remark). -/
import Derived.Test.YtcbmnihepeefaaaDoorBun8
import Derived.Test.YtcbmnihepeefaaaDoorBun7
import Derived.Test.YtcbmnihepeefaaaDoorBun4
/- The code of the errors of a call's arguments. Conditions: the table of kinds, the two sentinels. -/

namespace Go.Proofs.YtcbmnihepeefaaaDoor.Recs
set_option maxRecDepth 100000
open Go.RowKit Paths Errs

/-- An error that a check hands back: none, the sentinel of long arguments, or the one that names a record. -/
inductive EK where
  | fine
  | long
  | bad (i c : Int)
def EK.val (x : Addr) : EK → Value
  | .fine => .nilIface
  | .long => errV x
  | .bad i c => recV i c
def argFrom : List EK → Int → Int
  | [], c => c
  | .fine :: t, c => argFrom t c
  | .long :: _, _ => 2
  | .bad _ _ :: t, _ => argFrom t 1
theorem arg_end {L : List EK} {k : Nat} {c : Int} (h : L.length ≤ k) : argFrom (L.drop k) c = c := by rw [List.drop_eq_nil_of_le h]; rfl
theorem arg_fine {L : List EK} {k : Nat} {c : Int} (h : k < L.length) (he : L[k] = .fine) : argFrom (L.drop k) c = argFrom (L.drop (k + 1)) c := by rw [List.drop_eq_getElem_cons h, he]; rfl
theorem arg_long {L : List EK} {k : Nat} {c : Int} (h : k < L.length) (he : L[k] = .long) : argFrom (L.drop k) c = 2 := by rw [List.drop_eq_getElem_cons h, he]; rfl
theorem arg_bad {L : List EK} {k : Nat} {c i d : Int} (h : k < L.length) (he : L[k] = .bad i d) : argFrom (L.drop k) c = argFrom (L.drop (k + 1)) 1 := by rw [List.drop_eq_getElem_cons h, he]; rfl

set_option maxHeartbeats 1600000 in
theorem argumentCode_any (g : Nat) (L : List EK) (x y : Addr) (w : World) (hT : Three w x y) (hg : g < w.heap.size) (hn : L.length ≤ 1000) (hc : ∀ k (h : k < L.length), w.cell? ⟨g, k, none⟩ = some (L[k].val x)) :
    Calls Tryd.prog 27 #[.slice (some ⟨g, 0, none⟩) L.length L.length] w fun e w' => e = .returned (.int .i64 (argFrom L 0)) ∧ Below w.heap.size w w' := by
  have HC := Lib.hid hc
  have HT := Lib.hid hT
  clear hc hT
  go_enter Tryd.func27, Tryd.ntmps27
  go_wp2
  go_loopw [3, 8] (fun c i wr => ∃ (k : Nat) (d : Int), k ≤ L.length ∧ i = .int .i64 k ∧ c = .int .i64 d ∧ Hid (argFrom L 0 = argFrom (L.drop k) d) ∧ Below w.heap.size w wr) (fun _ i _ => L.length - (intOf i).toNat)
  case atStart => exact ⟨0, 0, by omega, rfl, rfl, rfl, Below.refl _ _⟩
  case round =>
    obtain ⟨k, d, hk, rfl, rfl, HK, hbw⟩ := hrel
    by_cases hlt : k < L.length
    · have hcell : wr.cell? ⟨g, k, none⟩ = some (L[k].val x) := (hbw.cell (p := ⟨g, k, none⟩) hg).trans (HC.out k hlt)
      have hTr := HT.out.below hbw (Nat.le_refl _)
      have hx := hTr.long
      have hy := hTr.bad
      have hi1 : (k : Int) < (L.length : Int) := by omega
      have hi0 : (0 : Int) ≤ (k : Int) := by omega
      cases hE : L[k] with
      | fine =>
        have HF := Lib.hid (HK.out.trans (arg_fine hlt hE))
        rw [hE] at hcell
        unfold EK.val at hcell
        have H1 := is_nil x wr
        have H2 := is_nil y wr
        unfold errV at hx hy H1 H2
        go_wp2_with fail
        refine H1.mono ?_
        rintro e w1 ⟨rfl, rfl⟩
        go_wp2_with fail
        refine H2.mono ?_
        rintro e w2 ⟨rfl, rfl⟩
        go_wp2_with fail
        exact ⟨⟨k + 1, d, by omega, by go_num, rfl, HF, hbw⟩, by simp [intOf]; omega⟩
      | long =>
        have HF := Lib.hid (HK.out.trans (arg_long hlt hE))
        rw [hE] at hcell
        unfold EK.val at hcell
        have H1 := is_same x wr
        unfold errV at hx hy H1 hcell
        go_wp2_with fail
        refine H1.mono ?_
        rintro e w1 ⟨rfl, rfl⟩
        go_wp2_with fail
        go_ret
        exact ⟨ret_int HF.out.symm, hbw⟩
      | bad i c =>
        have HF := Lib.hid (HK.out.trans (arg_bad hlt hE))
        rw [hE] at hcell
        unfold EK.val at hcell
        obtain ⟨cx, tx, rx⟩ := hTr.rowx
        obtain ⟨cy, ty, ry⟩ := hTr.rowy
        have H1 := is_rec_other i c y x _ _ _ _ wr hy (Ne.symm hTr.ne) ry rx
        have hxl := World.block_lt_of_cell? wr _ hx
        have hyl := World.block_lt_of_cell? wr _ hy
        have hye := hy
        unfold recV at hcell H1
        unfold errV at hx hy H1
        go_wp2_with fail
        refine H1.mono ?_
        rintro e w1 ⟨rfl, hb1⟩
        have hy1 : w1.cell? ⟨1, 0, none⟩ = some (errV y) := (hb1.cell (p := ⟨1, 0, none⟩) hyl).trans hye
        have H2 := is_rec_same i c y w1 hy1
        unfold recV at H2
        unfold errV at hy1 H2
        go_wp2_with fail
        refine H2.mono ?_
        rintro e w2 ⟨rfl, hb2⟩
        go_wp2_with fail
        exact ⟨⟨k + 1, 1, by omega, by go_num, rfl, HF, (hbw.trans (hb1.mono hbw.size)).trans (hb2.mono (hbw.trans (hb1.mono hbw.size)).size)⟩, by simp [intOf]; omega⟩
    · have HE := Lib.hid (HK.out.trans (arg_end (by omega)))
      go_wp2
      go_ret
      exact ⟨ret_int HE.out.symm, hbw⟩

def textK (s : ByteArray) : EK := if 65536 < s.size then .long else .fine
theorem checkText_any (s : ByteArray) (x : Addr) (w : World) (hx : w.cell? ⟨0, 0, none⟩ = some (errV x)) :
    Calls Tryd.prog 37 #[.string s] w fun e w' => e = .returned ((textK s).val x) ∧ w = w' := by
  unfold errV at hx
  by_cases h : 65536 < s.size
  · have hd : decide ((65536 : Int) < (s.size : Int)) = true := by simp; omega
    have HE : Hid ((textK s).val x = .iface 122 (.pointer (some x))) := by show _ = _; unfold textK; rw [if_pos h]; rfl
    go_enter Tryd.func37, Tryd.ntmps37
    go_wp2_with fail
    refine (longText_any s _).mono ?_
    rintro e w1 ⟨rfl, rfl⟩
    go_wp2_with fail
    go_ret
    exact ⟨ret_eq HE.out.symm, rfl⟩
  · have hd : decide ((65536 : Int) < (s.size : Int)) = false := by simp; omega
    have HE : Hid ((textK s).val x = .nilIface) := by show _ = _; unfold textK; rw [if_neg h]; rfl
    go_enter Tryd.func37, Tryd.ntmps37
    go_wp2_with fail
    refine (longText_any s _).mono ?_
    rintro e w1 ⟨rfl, rfl⟩
    go_wp2_with fail
    go_ret
    exact ⟨ret_eq HE.out.symm, rfl⟩

/-- What checkLayer answers. -/
def checkK (l : List R) : EK := if 4096 < l.length then .long else if (layerFaultL l).2 ≠ 0 then .bad (layerFaultL l).1 (layerFaultL l).2 else .fine
theorem checkK_val (l : List R) (x : Addr) : (checkK l).val x = checkV l x := by
  unfold checkK checkV
  split
  · rfl
  · split <;> rfl
/-- The code of a call with a layer and a text. -/
def codeLT (l : List R) (s : ByteArray) : Int := if 4096 < l.length ∨ 65536 < s.size then 2 else if layerOK l then 0 else 1
theorem arg_lt (l : List R) (s : ByteArray) : argFrom [checkK l, textK s] 0 = codeLT l s := by
  by_cases h1 : 4096 < l.length <;> by_cases h2 : 65536 < s.size <;> by_cases h3 : (layerFaultL l).2 = 0 <;> simp [checkK, textK, codeLT, argFrom, layerOK, h1, h2, h3]
def codeL (l : List R) : Int := if 4096 < l.length then 2 else if layerOK l then 0 else 1
theorem arg_l (l : List R) : argFrom [checkK l] 0 = codeL l := by
  by_cases h1 : 4096 < l.length <;> by_cases h3 : (layerFaultL l).2 = 0 <;> simp [checkK, codeL, argFrom, layerOK, h1, h3]
end Go.Proofs.YtcbmnihepeefaaaDoor.Recs

/- Layers: FindRecord, of the program and of its model. Conditions (of the program's): the table of kinds, the two sentinels. -/

namespace Go.Proofs.YtcbmnihepeefaaaDoor.Recs
set_option maxRecDepth 100000
open Go.RowKit Paths Errs

def findF (l : List R) (q : ByteArray) : R × Int := if codeLT l q ≠ 0 then (zR, codeLT l q) else if atL l q < 0 then (zR, 5) else ((l[(atL l q).toNat]?).getD zR, 0)
def findV (l : List R) (q : ByteArray) : Value := .tuple #[(findF l q).1.val, .int .i64 (findF l q).2]
theorem find_code {l : List R} {q : ByteArray} {c : Int} (hc : codeLT l q = c) (h : c ≠ 0) : findV l q = .tuple #[.agg #[.int .i64 0, .string ⟨#[]⟩, .string ⟨#[]⟩, .int .i64 0, .bool false], .int .i64 c] := by
  unfold findV findF; rw [hc, if_pos h]; rfl
theorem find_none {l : List R} {q : ByteArray} (h : codeLT l q = 0) (ha : atL l q = -1) : findV l q = .tuple #[.agg #[.int .i64 0, .string ⟨#[]⟩, .string ⟨#[]⟩, .int .i64 0, .bool false], .int .i64 5] := by
  unfold findV findF; rw [if_neg (by simpa using h), if_pos (by rw [ha]; decide)]; rfl
theorem find_here {l : List R} {q : ByteArray} {j : Nat} (h : codeLT l q = 0) (hj : j < l.length) (ha : atL l q = (j : Int)) : findV l q = .tuple #[.agg #[.int .i64 l[j].k, .string l[j].p, .string l[j].b, .int .i64 l[j].m, .bool l[j].o], .int .i64 0] := by
  unfold findV findF; rw [if_neg (by simpa using h), if_neg (by omega), ha, Int.toNat_natCast, List.getElem?_eq_getElem hj]; rfl
theorem text_not {q : ByteArray} {i c : Int} : textK q ≠ .bad i c := by unfold textK; split <;> simp

/-- The arguments' errors, as the call of a variadic function lays them. -/
theorem arg2_any (a b : EK) (x y : Addr) (w : World) (hT : Three w x y) :
    Calls Tryd.prog 27 #[.slice (some ⟨w.heap.size, 0, none⟩) 2 2] (w.alloc (.cells #[a.val x, b.val x] 49)) fun e w' => e = .returned (.int .i64 (argFrom [a, b] 0)) ∧ Below w.heap.size w w' := by
  have hb0 : Below w.heap.size w (w.alloc (.cells #[a.val x, b.val x] 49)) := (Below.refl _ _).alloc (Nat.le_refl _) _
  have := argumentCode_any w.heap.size [a, b] x y (w.alloc (.cells #[a.val x, b.val x] 49)) (hT.below hb0 (Nat.le_refl _)) (by simp) (by simp) (fun k hk => by
    have hk2 : k < 2 := hk
    match k, hk2 with
    | 0, _ => go_simp
    | 1, _ => go_simp)
  refine this.mono ?_
  rintro e w1 ⟨rfl, hb1⟩
  exact ⟨rfl, hb0.trans (hb1.mono hb0.size)⟩
theorem arg1_any (a : EK) (x y : Addr) (w : World) (hT : Three w x y) :
    Calls Tryd.prog 27 #[.slice (some ⟨w.heap.size, 0, none⟩) 1 1] (w.alloc (.cells #[a.val x] 49)) fun e w' => e = .returned (.int .i64 (argFrom [a] 0)) ∧ Below w.heap.size w w' := by
  have hb0 : Below w.heap.size w (w.alloc (.cells #[a.val x] 49)) := (Below.refl _ _).alloc (Nat.le_refl _) _
  have := argumentCode_any w.heap.size [a] x y (w.alloc (.cells #[a.val x] 49)) (hT.below hb0 (Nat.le_refl _)) (by simp) (by simp) (fun k hk => by
    have hk2 : k < 1 := hk
    match k, hk2 with
    | 0, _ => go_simp)
  refine this.mono ?_
  rintro e w1 ⟨rfl, hb1⟩
  exact ⟨rfl, hb0.trans (hb1.mono hb0.size)⟩

end Go.Proofs.YtcbmnihepeefaaaDoor.Recs

/- Layers: UnderOpaque, of the program and of its model. Conditions (of the program's): the table of kinds, the two sentinels. -/

namespace Go.Proofs.YtcbmnihepeefaaaDoor.Recs
set_option maxRecDepth 100000
open Go.RowKit Paths Errs

def pm : Value → Nat
  | .string s => if s.size = 0 then 0 else (cutAt 47 s.data.toList).length
  | _ => 0
theorem parO_size {p : ByteArray} (h : parentL p.data.toList = []) : (parO p).size = 0 := by rw [Lib.size_eq, parO_data, h]; rfl
theorem path_pos {p : ByteArray} (h : pathB p.data.toList = true) : p.size ≠ 0 := fun e => by rw [pathB_empty e] at h; cases h
theorem pm_down {p : ByteArray} (h : pathB p.data.toList = true) : pm (.string (parO p)) < pm (.string p) := by
  have h0 := path_pos h
  have h1 : 0 < (cutAt 47 p.data.toList).length := cutAt_pos 47 _
  show (if (parO p).size = 0 then 0 else (cutAt 47 (parO p).data.toList).length) < (if p.size = 0 then 0 else (cutAt 47 p.data.toList).length)
  rw [if_neg h0]
  by_cases hp : parentL p.data.toList = []
  · rw [if_pos (parO_size hp)]; exact h1
  · obtain ⟨h2, h3⟩ := parts_parent h hp
    rw [if_neg (path_pos h2)]
    omega
/-- What is still to look at: none, or the path and what is above it. -/
def Left (l : List R) (u : Bool) (p : ByteArray) : Prop := (p.size = 0 ∧ u = false) ∨ (pathB p.data.toList = true ∧ u = (opaqueAt l p || underL l p))
theorem left_start {l : List R} {q : ByteArray} (h : pathB q.data.toList = true) : Left l (underL l q) (parO q) := by
  by_cases hp : parentL q.data.toList = []
  · exact .inl ⟨parO_size hp, by rw [underL_step l h, if_pos hp]⟩
  · exact .inr ⟨(parts_parent h hp).1, by rw [underL_step l h, if_neg hp]⟩
theorem left_next {l : List R} {u : Bool} {p : ByteArray} (h : pathB p.data.toList = true) (hu : u = (opaqueAt l p || underL l p)) (ho : opaqueAt l p = false) : Left l u (parO p) := by
  rw [ho, Bool.false_or] at hu
  rw [hu]
  exact left_start h
theorem opaque_none {l : List R} {p : ByteArray} (h : atL l p = -1) : opaqueAt l p = false := by unfold opaqueAt; rw [h]; rfl
theorem opaque_at {l : List R} {p : ByteArray} {j : Nat} (hj : j < l.length) (h : atL l p = (j : Int)) : opaqueAt l p = l[j].o := by
  unfold opaqueAt; rw [h]; simp [hj]

set_option maxHeartbeats 800000 in
theorem l03Under_any (v : Value) (l : List R) (q : ByteArray) (w : World) (h : RecSl w v l) (hl : l.length ≤ 1048576) (hq : pathB q.data.toList = true) :
    Calls Tryd.prog 61 #[v, .string q] w fun e w' => e = .returned (.bool (underL l q)) ∧ w = w' := by
  have hsl := h
  obtain ⟨A, cap, rfl, hcap, h⟩ := h
  have HS := Lib.hid hsl
  have H := Lib.hid h
  have HL0 := Lib.hid (left_start (l := l) hq)
  have hqs := path_short hq
  clear h hsl
  go_enter Tryd.func61, Tryd.ntmps61
  go_wp2_with fail
  refine (l01Parent_any q _ (by unfold maxLen; omega)).mono ?_
  rintro e w1 ⟨rfl, rfl⟩
  go_wp2_with fail
  go_loop [5] (fun p => ∃ P : ByteArray, p = .string P ∧ Hid (Left l (underL l q) P)) (fun p => pm p)
  case atStart => exact ⟨parO q, rfl, HL0⟩
  case round =>
    obtain ⟨P, rfl, HP⟩ := hrel
    rcases HP.out with ⟨h0, hu⟩ | ⟨hp, hu⟩
    · have HU := Lib.hid hu
      have he := isEmpty_true h0
      clear h0 hu
      go_wp2_with fail
      go_ret
      exact ⟨ret_bool HU.out.symm, rfl⟩
    · have HU := Lib.hid hu
      have he := isEmpty_false (Nat.pos_of_ne_zero (path_pos hp))
      have hps := path_short hp
      have HM := Lib.hid (pm_down hp)
      clear hu
      go_wp2_with fail
      refine (l03At_any _ l _ _ HS.out hl).mono ?_
      rintro e w1 ⟨rfl, rfl⟩
      rcases atL_cases l P with ⟨ha, -⟩ | ⟨j, hj, ha, -⟩
      · have HN := Lib.hid (left_next hp HU.out (opaque_none ha))
        rw [ha]
        go_wp2_with fail
        refine (l01Parent_any P _ (by unfold maxLen; omega)).mono ?_
        rintro e w1 ⟨rfl, rfl⟩
        go_wp2_with fail
        exact ⟨⟨parO P, rfl, HN⟩, HM.out⟩
      · have HO := Lib.hid (opaque_at hj ha)
        obtain ⟨b, off, rfl, hb, hcell⟩ := H.out (by omega)
        obtain ⟨_, _, _, _, f4⟩ := hcell j l[j] (by simp [hj])
        have j1 : (0 : Int) ≤ (j : Int) := by omega
        have j2 : (j : Int) < (l.length : Int) := by omega
        have j3 : decide ((0 : Int) ≤ (j : Int)) = true := by simp
        rw [ha]
        clear ha hcell
        rcases Bool.eq_false_or_eq_true l[j].o with ho | ho
        · have HF : Hid (underL l q = true) := by show _ = _; rw [HU.out, HO.out, ho]; rfl
          rw [ho] at f4
          go_wp2_with fail
          go_ret
          exact ⟨ret_bool HF.out.symm, rfl⟩
        · have HN := Lib.hid (left_next hp HU.out (HO.out.trans ho))
          rw [ho] at f4
          go_wp2_with fail
          refine (l01Parent_any P _ (by unfold maxLen; omega)).mono ?_
          rintro e w1 ⟨rfl, rfl⟩
          go_wp2_with fail
          exact ⟨⟨parO P, rfl, HN⟩, HM.out⟩

/-- The program's way to look comes to the same. -/
theorem under_gen {l : List R} (hs : Sorted l) (hf : ∀ r ∈ l, r.fault = 0) {q : ByteArray} (hq : pathB q.data.toList = true) : underI l q = underL l q := by
  rw [underL_any]
  unfold underI
  rw [Bool.eq_iff_iff, List.any_eq_true, List.any_eq_true]
  constructor
  · rintro ⟨r, hm, hr⟩
    have hp := (fault_path (hf r hm)).1
    simp only [Bool.and_eq_true] at hr
    rw [below_two (path_pos hp) hq hp, ← isUp_below hq, isUp_iff] at hr
    refine ⟨r.p, hr.2, ?_⟩
    rw [opaqueAt_eq, recAt_of (hs) hm]
    exact hr.1
  · rintro ⟨a, ha, ho⟩
    rw [opaqueAt_eq] at ho
    cases hr : recAt l a with
    | none => rw [hr] at ho; cases ho
    | some r =>
      rw [hr] at ho
      obtain ⟨hm, rfl⟩ := recAt_mem hr
      have hp := (fault_path (hf r hm)).1
      refine ⟨r, hm, ?_⟩
      simp only [Bool.and_eq_true]
      refine ⟨ho, ?_⟩
      rw [below_two (path_pos hp) hq hp, ← isUp_below hq, isUp_iff]
      exact ha
theorem under_same {l : List R} (h : layerOK l = true) {q : ByteArray} (hq : pathB q.data.toList = true) : underI l q = underL l q := under_gen (layer_sorted h) (fun _ hm => layer_rec h hm) hq

def undF (l : List R) (q : ByteArray) : Bool × Int := if codeLT l q ≠ 0 then (false, codeLT l q) else if pathB q.data.toList then (underL l q, 0) else (false, 10)
def undV (l : List R) (q : ByteArray) : Value := .tuple #[.bool (undF l q).1, .int .i64 (undF l q).2]
theorem und_code {l : List R} {q : ByteArray} {c : Int} (hc : codeLT l q = c) (h : c ≠ 0) : undV l q = .tuple #[.bool false, .int .i64 c] := by
  unfold undV undF; rw [hc, if_pos h]
theorem und_name {l : List R} {q : ByteArray} (h : codeLT l q = 0) (hq : pathB q.data.toList = false) : undV l q = .tuple #[.bool false, .int .i64 10] := by
  unfold undV undF; rw [if_neg (by simpa using h), if_neg (by rw [hq]; decide)]
theorem und_path {l : List R} {q : ByteArray} (h : codeLT l q = 0) (hq : pathB q.data.toList = true) : undV l q = .tuple #[.bool (underL l q), .int .i64 0] := by
  unfold undV undF; rw [if_neg (by simpa using h), if_pos hq]
theorem code_ok {l : List R} {q : ByteArray} (h : codeLT l q = 0) : layerOK l = true := by
  unfold codeLT at h
  split at h
  · cases h
  · split at h
    · assumption
    · cases h

end Go.Proofs.YtcbmnihepeefaaaDoor.Recs

/- Layers: the canonical form, of the program. -/

namespace Go.Proofs.YtcbmnihepeefaaaDoor.Recs
set_option maxRecDepth 100000
open Go.RowKit Paths Errs

theorem canon_skip {l : List R} {r : R} (hu : underL l r.p = true) (hk : r.k = 4) : canonR l r = none := by unfold canonR; rw [if_pos hu, if_pos hk]
theorem canon_under {l : List R} {r : R} (hu : underL l r.p = true) (hk : r.k ≠ 4) : canonR l r = some { r with o := false } := by unfold canonR; rw [if_pos hu, if_neg hk]
theorem canon_deep {l : List R} {r : R} (hu : underL l r.p = false) (hd : (cutAt 47 r.p.data.toList).length = 4) : canonR l r = some { r with o := false } := by
  unfold canonR; rw [if_neg (by rw [hu]; decide), hd]; simp
theorem canon_plain {l : List R} {r : R} (hu : underL l r.p = false) (hd : (cutAt 47 r.p.data.toList).length < 4) : canonR l r = some r := by
  unfold canonR; rw [if_neg (by rw [hu]; decide), decide_eq_true hd]; simp
/-- What is done, and what is still to do. -/
def Done (l : List R) (k : Nat) (M : List R) : Prop := canonL l = M ++ (l.drop k).filterMap (canonR l)
theorem done_start (l : List R) : Done l 0 [] := rfl
theorem done_skip {l M : List R} {k : Nat} (hk : k < l.length) (h : Done l k M) (hc : canonR l l[k] = none) : Done l (k + 1) M := by
  unfold Done at h ⊢
  rw [h, List.drop_eq_getElem_cons hk, List.filterMap_cons, hc]
theorem done_take {l M : List R} {k : Nat} {r : R} (hk : k < l.length) (h : Done l k M) (hc : canonR l l[k] = some r) : Done l (k + 1) (M ++ [r]) := by
  unfold Done at h ⊢
  rw [h, List.drop_eq_getElem_cons hk, List.filterMap_cons, hc]
  simp
theorem done_end {l M : List R} {k : Nat} (hk : l.length ≤ k) (h : Done l k M) : canonL l = M := by
  unfold Done at h
  rw [h, List.drop_eq_nil_of_le hk]
  simp
theorem done_len {l M : List R} {k : Nat} (h : Done l k M) (hl : l.length ≤ 1024) : M.length ≤ 1024 := by
  have h1 : (canonL l).length ≤ l.length := List.length_filterMap_le _ _
  unfold Done at h
  rw [h, List.length_append] at h1
  omega
set_option maxHeartbeats 3200000 in
theorem canonicalForm_gen (v : Value) (l : List R) (w : World) (h : RecSl w v l) (hsd : Sorted l) (hf : ∀ r ∈ l, r.fault = 0) (hl16 : l.length ≤ 1024) (hr : ∀ r ∈ l, r.p.size ≤ maxLen) :
    Calls Tryd.prog 42 #[v] w fun e w' => ∃ x, e = .returned x ∧ Below w.heap.size w w' ∧ RowOf w' w.heap.size x (canonL l).length (canonL l) := by
  obtain ⟨i0, hi, hI0, hI1, hI2⟩ := info_parts recInfo
  have hsl := h
  obtain ⟨A, cap, rfl, hcap, h⟩ := h
  have HSl := Lib.hid hsl
  have H := Lib.hid h
  have HO := Lib.hid hf
  have HSD := Lib.hid hsd
  clear h hsl hf hsd
  go_enter Tryd.func42, Tryd.ntmps42
  go_wp2
  go_loopw [3, 9] (fun f i wr => ∃ (k : Nat) (M : List R), k ≤ l.length ∧ i = .int .i64 k ∧ RowOf wr w.heap.size f M.length M ∧ Hid (Done l k M) ∧ Below w.heap.size w wr) (fun _ i _ => l.length - (intOf i).toNat)
  case atStart => exact ⟨0, [], by omega, rfl, ⟨rfl, World.ownsRow_nil _ _ _ _⟩, done_start l, Below.refl _ _⟩
  case round =>
    obtain ⟨k, M, hk, rfl, hrow, HD, hbw⟩ := hrel
    by_cases hlt : k < l.length
    · obtain ⟨b, off, rfl, hb, hcell⟩ := H.out (by omega)
      obtain ⟨c0, c1, c2, c3, c4⟩ := (hcell k l[k] (by simp [hlt])).below hbw hb
      clear hcell
      have hi1 : (k : Int) < (l.length : Int) := by omega
      have hi0 : (0 : Int) ≤ (k : Int) := by omega
      have hm := List.getElem_mem hlt
      have hp := (fault_path (HO.out _ hm)).1
      have HU := Lib.hid (under_gen HSD.out HO.out hp)
      have hq := hr l[k] hm
      have hM := done_len HD.out hl16
      obtain ⟨fA, fcap, rfl⟩ := hrow.form
      have hbA : Below wr.heap.size wr (wr.alloc (.cells #[.int .i64 l[k].k, .string l[k].p, .string l[k].b, .int .i64 l[k].m, .bool l[k].o] 45)) := (Below.refl _ _).alloc (Nat.le_refl _) _
      have hslA := HSl.out.below (hbw.trans (hbA.mono hbw.size))
      have HC := underOpaque_any _ l l[k].p _ hslA (by omega) hq hr
      rw [HU.out] at HC
      have hrA := hrow.below hbA
      rcases Bool.eq_false_or_eq_true (underL l l[k].p) with hu | hu
      · rw [hu] at HC
        by_cases h4 : l[k].k = 4
        · have HN := Lib.hid (done_skip hlt HD.out (canon_skip hu h4))
          have hd4 : (l[k].k == 4) = true := by simpa using h4
          clear h4
          go_wp2_with fail
          refine HC.mono ?_
          rintro e w1 ⟨rfl, hb1⟩
          obtain ⟨hc1, hf1⟩ := bcell hb1
          have hz1 : wr.heap.size < w1.heap.size := by have := hb1.size; simp at this; omega
          have cA := hbw.trans (hbA.mono hbw.size)
          have c1 := cA.trans (hb1.mono cA.size)
          go_wp2_with fail
          exact ⟨⟨k + 1, M, by omega, by go_num, hrA.below hb1, HN, c1⟩, by simp [intOf]; omega⟩
        · have HN := Lib.hid (done_take hlt HD.out (canon_under hu h4))
          have hd4 : (l[k].k == 4) = false := by simpa using h4
          clear h4
          go_wp2_with fail
          refine HC.mono ?_
          rintro e w1 ⟨rfl, hb1⟩
          obtain ⟨hc1, hf1⟩ := bcell hb1
          have hz1 : wr.heap.size < w1.heap.size := by have := hb1.size; simp at this; omega
          have cA := hbw.trans (hbA.mono hbw.size)
          have c1 := cA.trans (hb1.mono cA.size)
          have hr2 : RowOf (w1.setCell ⟨wr.heap.size, 4, none⟩ (.bool false)) w.heap.size (.slice fA M.length fcap) M.length M := ⟨rfl, ownsRow_setCell_other (hrA.below hb1).2 hrow.ne _⟩
          have cW : Below w.heap.size w (w1.setCell ⟨wr.heap.size, 4, none⟩ (.bool false)) := c1.setCell hbw.size _
          have hr3 : ((w1.setCell ⟨wr.heap.size, 4, none⟩ (.bool false)).alloc (.cells #[.int .i64 l[k].k, .string l[k].p, .string l[k].b, .int .i64 l[k].m, .bool false] 45)).ownsRow w.heap.size 45 5 (.slice fA M.length fcap) M.length (flat M) := hr2.2.alloc _
          have hsz : (w1.setCell ⟨wr.heap.size, 4, none⟩ (.bool false)).heap.size = w1.heap.size := by simp [World.setCell]
          have hnews := rec_cells_new (w1.setCell ⟨wr.heap.size, 4, none⟩ (.bool false)) { l[k] with o := false } 45
          rw [hsz] at hnews
          have hone := rec_one { l[k] with o := false }
          have hbz : w.heap.size ≤ ((w1.setCell ⟨wr.heap.size, 4, none⟩ (.bool false)).alloc (.cells #[.int .i64 l[k].k, .string l[k].p, .string l[k].b, .int .i64 l[k].m, .bool false] 45)).heap.size := (cW.alloc cW.size _).size
          go_wp2_with (first
            | (at_builtin; refine wpList_append_own _ rfl _ _ 24 rfl w.heap.size 45 i0 (.agg #[.int .i64 0, .string ByteArray.empty, .string ByteArray.empty, .int .i64 0, .bool false]) 5 56 Tryd.underlying24 hi hI0 hI1 hI2 rfl (by decide) _ _ _ rfl hr3 ⟨w1.heap.size, 0, none⟩ 1 1 (R.cs { l[k] with o := false }) rfl rfl hnews hone (by unfold maxLen; omega) (by omega) hbz ?_; intro v' w9 hown' hgrow9 hnil9))
          exact ⟨⟨k + 1, M ++ [{ l[k] with o := false }], by omega, by go_num, row_snoc hown', HN, (cW.alloc cW.size _).grown hgrow9 hbz (fun j hj => (hrow.2.lt j hj).1)⟩, by simp [intOf]; omega⟩
      · rw [hu] at HC
        go_wp2_with fail
        refine HC.mono ?_
        rintro e w1 ⟨rfl, hb1⟩
        obtain ⟨hc1, hf1⟩ := bcell hb1
        have hz1 : wr.heap.size < w1.heap.size := by have := hb1.size; simp at this; omega
        have cA := hbw.trans (hbA.mono hbw.size)
        have c1 := cA.trans (hb1.mono cA.size)
        go_wp2_with fail
        refine (splitPath_any _ _ hq).mono ?_
        rintro e w2 ⟨v2, rfl, hb2, ho2, -, -⟩
        rw [partsOf_yes hp] at ho2
        obtain ⟨A2, cap2, rfl⟩ := own_form ho2
        obtain ⟨hc2, hf2⟩ := bcell hb2
        have hz2 : wr.heap.size < w2.heap.size := by have := hb2.size; omega
        have c2 := c1.trans (hb2.mono c1.size)
        have hp4 := (pathB_parts hp).1
        by_cases h4 : (cutAt 47 l[k].p.data.toList).length = 4
        · have HN := Lib.hid (done_take hlt HD.out (canon_deep hu h4))
          rw [h4]
          have hr2 : RowOf (w2.setCell ⟨wr.heap.size, 4, none⟩ (.bool false)) w.heap.size (.slice fA M.length fcap) M.length M := ⟨rfl, ownsRow_setCell_other ((hrA.below hb1).below hb2).2 hrow.ne _⟩
          have cW : Below w.heap.size w (w2.setCell ⟨wr.heap.size, 4, none⟩ (.bool false)) := c2.setCell hbw.size _
          have hr3 : ((w2.setCell ⟨wr.heap.size, 4, none⟩ (.bool false)).alloc (.cells #[.int .i64 l[k].k, .string l[k].p, .string l[k].b, .int .i64 l[k].m, .bool false] 45)).ownsRow w.heap.size 45 5 (.slice fA M.length fcap) M.length (flat M) := hr2.2.alloc _
          have hsz : (w2.setCell ⟨wr.heap.size, 4, none⟩ (.bool false)).heap.size = w2.heap.size := by simp [World.setCell]
          have hnews := rec_cells_new (w2.setCell ⟨wr.heap.size, 4, none⟩ (.bool false)) { l[k] with o := false } 45
          rw [hsz] at hnews
          have hone := rec_one { l[k] with o := false }
          have hbz : w.heap.size ≤ ((w2.setCell ⟨wr.heap.size, 4, none⟩ (.bool false)).alloc (.cells #[.int .i64 l[k].k, .string l[k].p, .string l[k].b, .int .i64 l[k].m, .bool false] 45)).heap.size := (cW.alloc cW.size _).size
          go_wp2_with (first
            | (at_builtin; refine wpList_append_own _ rfl _ _ 24 rfl w.heap.size 45 i0 (.agg #[.int .i64 0, .string ByteArray.empty, .string ByteArray.empty, .int .i64 0, .bool false]) 5 56 Tryd.underlying24 hi hI0 hI1 hI2 rfl (by decide) _ _ _ rfl hr3 ⟨w2.heap.size, 0, none⟩ 1 1 (R.cs { l[k] with o := false }) rfl rfl hnews hone (by unfold maxLen; omega) (by omega) hbz ?_; intro v' w9 hown' hgrow9 hnil9))
          exact ⟨⟨k + 1, M ++ [{ l[k] with o := false }], by omega, by go_num, row_snoc hown', HN, (cW.alloc cW.size _).grown hgrow9 hbz (fun j hj => (hrow.2.lt j hj).1)⟩, by simp [intOf]; omega⟩
        · have HN := Lib.hid (done_take hlt HD.out (canon_plain hu (by omega)))
          have hd4 : (((cutAt 47 l[k].p.data.toList).length : Int) == 4) = false := by simp; omega
          have hr2 : RowOf w2 w.heap.size (.slice fA M.length fcap) M.length M := (hrA.below hb1).below hb2
          have cW := c2
          have hr3 : (w2.alloc (.cells #[.int .i64 l[k].k, .string l[k].p, .string l[k].b, .int .i64 l[k].m, .bool l[k].o] 45)).ownsRow w.heap.size 45 5 (.slice fA M.length fcap) M.length (flat M) := hr2.2.alloc _
          have hsz : w2.heap.size = w2.heap.size := rfl
          have hnews := rec_cells_new w2 { l[k] with o := l[k].o } 45
          rw [hsz] at hnews
          have hone := rec_one { l[k] with o := l[k].o }
          have hbz : w.heap.size ≤ (w2.alloc (.cells #[.int .i64 l[k].k, .string l[k].p, .string l[k].b, .int .i64 l[k].m, .bool l[k].o] 45)).heap.size := (cW.alloc cW.size _).size
          go_wp2_with (first
            | (at_builtin; refine wpList_append_own _ rfl _ _ 24 rfl w.heap.size 45 i0 (.agg #[.int .i64 0, .string ByteArray.empty, .string ByteArray.empty, .int .i64 0, .bool false]) 5 56 Tryd.underlying24 hi hI0 hI1 hI2 rfl (by decide) _ _ _ rfl hr3 ⟨w2.heap.size, 0, none⟩ 1 1 (R.cs { l[k] with o := l[k].o }) rfl rfl hnews hone (by unfold maxLen; omega) (by omega) hbz ?_; intro v' w9 hown' hgrow9 hnil9))
          exact ⟨⟨k + 1, M ++ [{ l[k] with o := l[k].o }], by omega, by go_num, row_snoc hown', HN, (cW.alloc cW.size _).grown hgrow9 hbz (fun j hj => (hrow.2.lt j hj).1)⟩, by simp [intOf]; omega⟩
    · have HE := Lib.hid (done_end (by omega) HD.out)
      go_wp2
      go_ret
      exact ⟨_, rfl, hbw, by rw [HE.out]; exact hrow⟩
theorem canonicalForm_any (v : Value) (l : List R) (w : World) (h : RecSl w v l) (hok : layerOK l = true) (hr : ∀ r ∈ l, r.p.size ≤ maxLen) :
    Calls Tryd.prog 42 #[v] w fun e w' => ∃ x, e = .returned x ∧ Below w.heap.size w w' ∧ RowOf w' w.heap.size x (canonL l).length (canonL l) :=
  canonicalForm_gen v l w h (layer_sorted hok) (fun _ hm => layer_rec hok hm) (by have := layer_len hok; omega) hr
end Go.Proofs.YtcbmnihepeefaaaDoor.Recs

/- Layers: the canonical form, of the model. -/

namespace Go.Proofs.YtcbmnihepeefaaaDoor.Recs
set_option maxRecDepth 100000
open Go.RowKit Paths Errs

theorem canon_flat {l : List R} {r : R} (hu : underL l r.p = false) (ho : r.o = false) : canonR l r = some { r with o := false } := by
  unfold canonR; rw [if_neg (by rw [hu]; decide), ho]; rfl
theorem canon_shallow {l : List R} {r : R} (hu : underL l r.p = false) (ho : r.o = true) (hd : (cutAt 47 r.p.data.toList).length < 4) : canonR l r = some { r with o := true } := by
  unfold canonR; rw [if_neg (by rw [hu]; decide), ho, decide_eq_true hd]; rfl

set_option maxHeartbeats 3200000 in
theorem l03Canon_gen (v : Value) (l : List R) (w : World) (h : RecSl w v l) (hsd : Sorted l) (hf : ∀ r ∈ l, r.fault = 0) (hl16 : l.length ≤ 1024) :
    Calls Tryd.prog 40 #[v] w fun e w' => ∃ x, e = .returned x ∧ Below w.heap.size w w' ∧ RowOf w' w.heap.size x (canonL l).length (canonL l) := by
  obtain ⟨i0, hi, hI0, hI1, hI2⟩ := info_parts recInfo
  have hsl := h
  obtain ⟨A, cap, rfl, hcap, h⟩ := h
  have HSl := Lib.hid hsl
  have H := Lib.hid h
  have HO := Lib.hid hf
  have HSD := Lib.hid hsd
  clear h hsl hf hsd
  have hown0 : (w.alloc (.cells #[] 45)).ownsRow w.heap.size 45 5 (.slice (some ⟨w.heap.size, 0, none⟩) 0 0) 0 [] := World.ownsRow_lit w #[] 0 (Nat.le_refl _) (Nat.zero_le _) rfl
  have hb00 : Below w.heap.size w (w.alloc (.cells #[] 45)) := (Below.refl _ _).alloc (Nat.le_refl _) _
  go_enter Tryd.func40, Tryd.ntmps40
  go_wp2
  go_loopw [3, 4] (fun f i wr => ∃ (k : Nat) (M : List R), k ≤ l.length ∧ i = .int .i64 k ∧ RowOf wr w.heap.size f M.length M ∧ Hid (Done l k M) ∧ Below w.heap.size w wr) (fun _ i _ => l.length - (intOf i).toNat)
  case atStart => exact ⟨0, [], by omega, rfl, ⟨rfl, hown0⟩, done_start l, hb00⟩
  case round =>
    obtain ⟨k, M, hk, rfl, hrow, HD, hbw⟩ := hrel
    by_cases hlt : k < l.length
    · obtain ⟨b, off, rfl, hb, hcell⟩ := H.out (by omega)
      obtain ⟨c0, c1, c2, c3, c4⟩ := (hcell k l[k] (by simp [hlt])).below hbw hb
      clear hcell
      have hi1 : (k : Int) < (l.length : Int) := by omega
      have hi0 : (0 : Int) ≤ (k : Int) := by omega
      have hm := List.getElem_mem hlt
      have hp := (fault_path (HO.out _ hm)).1
      have hM := done_len HD.out hl16
      obtain ⟨fA, fcap, rfl⟩ := hrow.form
      have hbA : Below wr.heap.size wr (wr.alloc (.cells #[.int .i64 l[k].k, .string l[k].p, .string l[k].b, .int .i64 l[k].m, .bool l[k].o] 45)) := (Below.refl _ _).alloc (Nat.le_refl _) _
      have hslA := HSl.out.below (hbw.trans (hbA.mono hbw.size))
      have HC := l03Under_any _ l l[k].p _ hslA (by omega) hp
      have hrA := hrow.below hbA
      have hbF : Below wr.heap.size wr (wr.alloc (.cells #[.int .i64 l[k].k, .string l[k].p, .string l[k].b, .int .i64 l[k].m, .bool false] 45)) := (Below.refl _ _).alloc (Nat.le_refl _) _
      have hrF := hrow.below hbF
      have cF := hbw.trans (hbF.mono hbw.size)
      rcases Bool.eq_false_or_eq_true (underL l l[k].p) with hu | hu
      · rw [hu] at HC
        by_cases h4 : l[k].k = 4
        · have HN := Lib.hid (done_skip hlt HD.out (canon_skip hu h4))
          have hd4 : (l[k].k != 4) = false := by simpa using h4
          clear h4
          go_wp2_with fail
          refine HC.mono ?_
          rintro e w1 ⟨rfl, rfl⟩
          go_wp2_with fail
          exact ⟨⟨k + 1, M, by omega, by go_num, hrF, HN, cF⟩, by simp [intOf]; omega⟩
        · have HN := Lib.hid (done_take hlt HD.out (canon_under hu h4))
          have hd4 : (l[k].k != 4) = true := by simpa using h4
          clear h4
          go_wp2_with fail
          refine HC.mono ?_
          rintro e w1 ⟨rfl, rfl⟩
          have hr2 := hrF
          have cW := cF
          have hr3 : ((wr.alloc (.cells #[.int .i64 l[k].k, .string l[k].p, .string l[k].b, .int .i64 l[k].m, .bool false] 45)).alloc (.cells #[.int .i64 l[k].k, .string l[k].p, .string l[k].b, .int .i64 l[k].m, .bool false] 45)).ownsRow w.heap.size 45 5 (.slice fA M.length fcap) M.length (flat M) := hr2.2.alloc _
          have hsz : (wr.alloc (.cells #[.int .i64 l[k].k, .string l[k].p, .string l[k].b, .int .i64 l[k].m, .bool false] 45)).heap.size = wr.heap.size + 1 := by simp
          have hnews := rec_cells_new (wr.alloc (.cells #[.int .i64 l[k].k, .string l[k].p, .string l[k].b, .int .i64 l[k].m, .bool false] 45)) { l[k] with o := false } 45
          rw [hsz] at hnews
          have hone := rec_one { l[k] with o := false }
          have hbz : w.heap.size ≤ ((wr.alloc (.cells #[.int .i64 l[k].k, .string l[k].p, .string l[k].b, .int .i64 l[k].m, .bool false] 45)).alloc (.cells #[.int .i64 l[k].k, .string l[k].p, .string l[k].b, .int .i64 l[k].m, .bool false] 45)).heap.size := (cW.alloc cW.size _).size
          go_wp2_with (first
            | (at_builtin; refine wpList_append_own _ rfl _ _ 24 rfl w.heap.size 45 i0 (.agg #[.int .i64 0, .string ByteArray.empty, .string ByteArray.empty, .int .i64 0, .bool false]) 5 56 Tryd.underlying24 hi hI0 hI1 hI2 rfl (by decide) _ _ _ rfl hr3 ⟨wr.heap.size + 1, 0, none⟩ 1 1 (R.cs { l[k] with o := false }) rfl rfl hnews hone (by unfold maxLen; omega) (by omega) hbz ?_; intro v' w9 hown' hgrow9 hnil9))
          exact ⟨⟨k + 1, M ++ [{ l[k] with o := false }], by omega, by go_num, row_snoc hown', HN, (cW.alloc cW.size _).grown hgrow9 hbz (fun j hj => (hrow.2.lt j hj).1)⟩, by simp [intOf]; omega⟩
      · rw [hu] at HC
        rcases Bool.eq_false_or_eq_true l[k].o with ho | ho
        · rw [ho] at c4 HC hbA hslA hrA
          go_wp2_with fail
          refine HC.mono ?_
          rintro e w1 ⟨rfl, rfl⟩
          go_wp2_with fail
          refine (l00Cut_any _ _ 47 rfl _ (by have := path_short hp; omega)).mono ?_
          rintro e w2 ⟨v2, rfl, hb2, ho2⟩
          obtain ⟨A2, cap2, rfl⟩ := own_form ho2
          obtain ⟨hc2, hf2⟩ := bcell hb2
          have hz2 : wr.heap.size < w2.heap.size := by have := hb2.size; simp at this; omega
          have cA := hbw.trans (hbA.mono hbw.size)
          have c2 := cA.trans (hb2.mono cA.size)
          have hp4 := (pathB_parts hp).1
          by_cases h4 : (cutAt 47 l[k].p.data.toList).length = 4
          · have HN := Lib.hid (done_take hlt HD.out (canon_deep hu h4))
            rw [h4]
            have hr2 : RowOf (w2.setCell ⟨wr.heap.size, 4, none⟩ (.bool false)) w.heap.size (.slice fA M.length fcap) M.length M := ⟨rfl, ownsRow_setCell_other (hrA.below hb2).2 hrow.ne _⟩
            have cW : Below w.heap.size w (w2.setCell ⟨wr.heap.size, 4, none⟩ (.bool false)) := c2.setCell hbw.size _
            have hr3 : ((w2.setCell ⟨wr.heap.size, 4, none⟩ (.bool false)).alloc (.cells #[.int .i64 l[k].k, .string l[k].p, .string l[k].b, .int .i64 l[k].m, .bool false] 45)).ownsRow w.heap.size 45 5 (.slice fA M.length fcap) M.length (flat M) := hr2.2.alloc _
            have hsz : (w2.setCell ⟨wr.heap.size, 4, none⟩ (.bool false)).heap.size = w2.heap.size := by simp [World.setCell]
            have hnews := rec_cells_new (w2.setCell ⟨wr.heap.size, 4, none⟩ (.bool false)) { l[k] with o := false } 45
            rw [hsz] at hnews
            have hone := rec_one { l[k] with o := false }
            have hbz : w.heap.size ≤ ((w2.setCell ⟨wr.heap.size, 4, none⟩ (.bool false)).alloc (.cells #[.int .i64 l[k].k, .string l[k].p, .string l[k].b, .int .i64 l[k].m, .bool false] 45)).heap.size := (cW.alloc cW.size _).size
            go_wp2_with (first
              | (at_builtin; refine wpList_append_own _ rfl _ _ 24 rfl w.heap.size 45 i0 (.agg #[.int .i64 0, .string ByteArray.empty, .string ByteArray.empty, .int .i64 0, .bool false]) 5 56 Tryd.underlying24 hi hI0 hI1 hI2 rfl (by decide) _ _ _ rfl hr3 ⟨w2.heap.size, 0, none⟩ 1 1 (R.cs { l[k] with o := false }) rfl rfl hnews hone (by unfold maxLen; omega) (by omega) hbz ?_; intro v' w9 hown' hgrow9 hnil9))
            exact ⟨⟨k + 1, M ++ [{ l[k] with o := false }], by omega, by go_num, row_snoc hown', HN, (cW.alloc cW.size _).grown hgrow9 hbz (fun j hj => (hrow.2.lt j hj).1)⟩, by simp [intOf]; omega⟩
          · have HN := Lib.hid (done_take hlt HD.out (canon_shallow hu ho (by omega)))
            have hd4 : decide (((cutAt 47 l[k].p.data.toList).length : Int) < 4) = true := by simp; omega
            have hr2 : RowOf (w2.setCell ⟨wr.heap.size, 4, none⟩ (.bool true)) w.heap.size (.slice fA M.length fcap) M.length M := ⟨rfl, ownsRow_setCell_other (hrA.below hb2).2 hrow.ne _⟩
            have cW : Below w.heap.size w (w2.setCell ⟨wr.heap.size, 4, none⟩ (.bool true)) := c2.setCell hbw.size _
            have hr3 : ((w2.setCell ⟨wr.heap.size, 4, none⟩ (.bool true)).alloc (.cells #[.int .i64 l[k].k, .string l[k].p, .string l[k].b, .int .i64 l[k].m, .bool true] 45)).ownsRow w.heap.size 45 5 (.slice fA M.length fcap) M.length (flat M) := hr2.2.alloc _
            have hsz : (w2.setCell ⟨wr.heap.size, 4, none⟩ (.bool true)).heap.size = w2.heap.size := by simp [World.setCell]
            have hnews := rec_cells_new (w2.setCell ⟨wr.heap.size, 4, none⟩ (.bool true)) { l[k] with o := true } 45
            rw [hsz] at hnews
            have hone := rec_one { l[k] with o := true }
            have hbz : w.heap.size ≤ ((w2.setCell ⟨wr.heap.size, 4, none⟩ (.bool true)).alloc (.cells #[.int .i64 l[k].k, .string l[k].p, .string l[k].b, .int .i64 l[k].m, .bool true] 45)).heap.size := (cW.alloc cW.size _).size
            go_wp2_with (first
              | (at_builtin; refine wpList_append_own _ rfl _ _ 24 rfl w.heap.size 45 i0 (.agg #[.int .i64 0, .string ByteArray.empty, .string ByteArray.empty, .int .i64 0, .bool false]) 5 56 Tryd.underlying24 hi hI0 hI1 hI2 rfl (by decide) _ _ _ rfl hr3 ⟨w2.heap.size, 0, none⟩ 1 1 (R.cs { l[k] with o := true }) rfl rfl hnews hone (by unfold maxLen; omega) (by omega) hbz ?_; intro v' w9 hown' hgrow9 hnil9))
            exact ⟨⟨k + 1, M ++ [{ l[k] with o := true }], by omega, by go_num, row_snoc hown', HN, (cW.alloc cW.size _).grown hgrow9 hbz (fun j hj => (hrow.2.lt j hj).1)⟩, by simp [intOf]; omega⟩
        · have HN := Lib.hid (done_take hlt HD.out (canon_flat hu ho))
          rw [ho] at c4 HC
          go_wp2_with fail
          refine HC.mono ?_
          rintro e w1 ⟨rfl, rfl⟩
          have hr2 := hrF
          have cW := cF
          have hr3 : ((wr.alloc (.cells #[.int .i64 l[k].k, .string l[k].p, .string l[k].b, .int .i64 l[k].m, .bool false] 45)).alloc (.cells #[.int .i64 l[k].k, .string l[k].p, .string l[k].b, .int .i64 l[k].m, .bool false] 45)).ownsRow w.heap.size 45 5 (.slice fA M.length fcap) M.length (flat M) := hr2.2.alloc _
          have hsz : (wr.alloc (.cells #[.int .i64 l[k].k, .string l[k].p, .string l[k].b, .int .i64 l[k].m, .bool false] 45)).heap.size = wr.heap.size + 1 := by simp
          have hnews := rec_cells_new (wr.alloc (.cells #[.int .i64 l[k].k, .string l[k].p, .string l[k].b, .int .i64 l[k].m, .bool false] 45)) { l[k] with o := false } 45
          rw [hsz] at hnews
          have hone := rec_one { l[k] with o := false }
          have hbz : w.heap.size ≤ ((wr.alloc (.cells #[.int .i64 l[k].k, .string l[k].p, .string l[k].b, .int .i64 l[k].m, .bool false] 45)).alloc (.cells #[.int .i64 l[k].k, .string l[k].p, .string l[k].b, .int .i64 l[k].m, .bool false] 45)).heap.size := (cW.alloc cW.size _).size
          go_wp2_with (first
            | (at_builtin; refine wpList_append_own _ rfl _ _ 24 rfl w.heap.size 45 i0 (.agg #[.int .i64 0, .string ByteArray.empty, .string ByteArray.empty, .int .i64 0, .bool false]) 5 56 Tryd.underlying24 hi hI0 hI1 hI2 rfl (by decide) _ _ _ rfl hr3 ⟨wr.heap.size + 1, 0, none⟩ 1 1 (R.cs { l[k] with o := false }) rfl rfl hnews hone (by unfold maxLen; omega) (by omega) hbz ?_; intro v' w9 hown' hgrow9 hnil9))
          exact ⟨⟨k + 1, M ++ [{ l[k] with o := false }], by omega, by go_num, row_snoc hown', HN, (cW.alloc cW.size _).grown hgrow9 hbz (fun j hj => (hrow.2.lt j hj).1)⟩, by simp [intOf]; omega⟩
    · have HE := Lib.hid (done_end (by omega) HD.out)
      go_wp2
      go_ret
      exact ⟨_, rfl, hbw, by rw [HE.out]; exact hrow⟩
theorem l03Canon_any (v : Value) (l : List R) (w : World) (h : RecSl w v l) (hok : layerOK l = true) :
    Calls Tryd.prog 40 #[v] w fun e w' => ∃ x, e = .returned x ∧ Below w.heap.size w w' ∧ RowOf w' w.heap.size x (canonL l).length (canonL l) :=
  l03Canon_gen v l w h (layer_sorted hok) (fun _ hm => layer_rec hok hm) (by have := layer_len hok; omega)
end Go.Proofs.YtcbmnihepeefaaaDoor.Recs

/- Layers: Canonical and IsCanonical, of the program and of its model. Conditions (of the program's): the table of kinds, the two sentinels. -/

namespace Go.Proofs.YtcbmnihepeefaaaDoor.Recs
set_option maxRecDepth 100000
open Go.RowKit Paths Errs

def canC (l : List R) : List R := if codeL l = 0 then canonL l else []
theorem canC_bad {l : List R} (h : codeL l ≠ 0) : canC l = [] := if_neg h
theorem canC_ok {l : List R} (h : codeL l = 0) : canC l = canonL l := if_pos h
theorem codeL_ok {l : List R} (h : codeL l = 0) : layerOK l = true := by
  unfold codeL at h
  split at h
  · cases h
  · split at h
    · assumption
    · cases h
theorem codeL_short {l : List R} (h : codeL l = 0) : ¬ 4096 < l.length := by
  unfold codeL at h
  split at h
  · cases h
  · assumption
theorem canon_len (l : List R) : (canonL l).length ≤ l.length := List.length_filterMap_le _ _
theorem own_le {w : World} {base base' : Nat} {e : TypeId} {size : Nat} {v : Value} {n : Nat} {xs : List Value} (h : w.ownsRow base e size v n xs) (hb : base' ≤ base) : w.ownsRow base' e size v n xs := by
  obtain ⟨h1, h2⟩ := h
  refine ⟨h1, ?_⟩
  rcases h2 with h2 | ⟨g, cap', cur, a, b, c⟩
  · exact .inl h2
  · exact .inr ⟨g, cap', cur, a, Nat.le_trans hb b, c⟩

/-- What Canonical leaves: the form in memory of its own, and the code. -/
def CanPost (l : List R) (w : World) (e : Ending) (w' : World) : Prop :=
  ∃ x, e = .returned (.tuple #[x, .int .i64 (codeL l)]) ∧ Below w.heap.size w w' ∧ RowOf w' w.heap.size x (canC l).length (canC l)

/-- Whether a list is a canonical layer. -/
def isCan (l : List R) : Bool := okL l && decide (canonL l = l)
theorem okL_code (l : List R) : okL l = decide (codeL l = 0) := by
  unfold okL codeL
  by_cases h4 : 4096 < l.length
  · rw [if_pos h4, decide_eq_false (by omega)]; rfl
  · rw [if_neg h4, decide_eq_true (by omega)]
    rcases Bool.eq_false_or_eq_true (layerOK l) with hk | hk <;> rw [hk] <;> rfl

end Go.Proofs.YtcbmnihepeefaaaDoor.Recs
