/- Several texts of mine in one file (each begins with its own remark). -/
import Derived.Test.YtjiljnfiofmpaaaGreatDoorBun8
import Derived.Test.YtjiljnfiofmpaaaGreatDoorBun7
/- The code of the errors of a call's arguments. Conditions: the table of kinds, the two sentinels. -/

namespace Go.Proofs.YtjiljnfiofmpaaaGreatDoor.Recs
set_option maxRecDepth 100000
open Go.RowKit Paths Errs

/-- An error that a check hands back: none, the sentinel of long arguments, or the one that names a record. -/
inductive EK where
  | fine
  | long
  | bad (i c : Int)
def EK.val (x : Addr) : EK → Value
  | .fine => .nilIface
  | .long => errV x
  | .bad i c => recV i c
def argFrom : List EK → Int → Int
  | [], c => c
  | .fine :: t, c => argFrom t c
  | .long :: _, _ => 2
  | .bad _ _ :: t, _ => argFrom t 1
theorem arg_end {L : List EK} {k : Nat} {c : Int} (h : L.length ≤ k) : argFrom (L.drop k) c = c := by rw [List.drop_eq_nil_of_le h]; rfl
theorem arg_fine {L : List EK} {k : Nat} {c : Int} (h : k < L.length) (he : L[k] = .fine) : argFrom (L.drop k) c = argFrom (L.drop (k + 1)) c := by rw [List.drop_eq_getElem_cons h, he]; rfl
theorem arg_long {L : List EK} {k : Nat} {c : Int} (h : k < L.length) (he : L[k] = .long) : argFrom (L.drop k) c = 2 := by rw [List.drop_eq_getElem_cons h, he]; rfl
theorem arg_bad {L : List EK} {k : Nat} {c i d : Int} (h : k < L.length) (he : L[k] = .bad i d) : argFrom (L.drop k) c = argFrom (L.drop (k + 1)) 1 := by rw [List.drop_eq_getElem_cons h, he]; rfl

set_option maxHeartbeats 1600000 in
theorem argumentCode_any (g : Nat) (L : List EK) (x y : Addr) (w : World) (hT : Three w x y) (hg : g < w.heap.size) (hn : L.length ≤ 1000) (hc : ∀ k (h : k < L.length), w.cell? ⟨g, k, none⟩ = some (L[k].val x)) :
    Calls Tryz.prog 61 #[.slice (some ⟨g, 0, none⟩) L.length L.length] w fun e w' => e = .returned (.int .i64 (argFrom L 0)) ∧ Below w.heap.size w w' := by
  have HC := Lib.hid hc
  have HT := Lib.hid hT
  clear hc hT
  go_enter Tryz.func61, Tryz.ntmps61
  go_wp2
  go_loopw [3, 8] (fun c i wr => ∃ (k : Nat) (d : Int), k ≤ L.length ∧ i = .int .i64 k ∧ c = .int .i64 d ∧ Hid (argFrom L 0 = argFrom (L.drop k) d) ∧ Below w.heap.size w wr) (fun _ i _ => L.length - (intOf i).toNat)
  case atStart => exact ⟨0, 0, by omega, rfl, rfl, rfl, Below.refl _ _⟩
  case round =>
    obtain ⟨k, d, hk, rfl, rfl, HK, hbw⟩ := hrel
    by_cases hlt : k < L.length
    · have hcell : wr.cell? ⟨g, k, none⟩ = some (L[k].val x) := (hbw.cell (p := ⟨g, k, none⟩) hg).trans (HC.out k hlt)
      have hTr := HT.out.below hbw (Nat.le_refl _)
      have hx := hTr.long
      have hy := hTr.bad
      have hi1 : (k : Int) < (L.length : Int) := by omega
      have hi0 : (0 : Int) ≤ (k : Int) := by omega
      cases hE : L[k] with
      | fine =>
        have HF := Lib.hid (HK.out.trans (arg_fine hlt hE))
        rw [hE] at hcell
        unfold EK.val at hcell
        have H1 := is_nil x wr
        have H2 := is_nil y wr
        unfold errV at hx hy H1 H2
        go_wp2_with fail
        refine H1.mono ?_
        rintro e w1 ⟨rfl, rfl⟩
        go_wp2_with fail
        refine H2.mono ?_
        rintro e w2 ⟨rfl, rfl⟩
        go_wp2_with fail
        exact ⟨⟨k + 1, d, by omega, by go_num, rfl, HF, hbw⟩, by simp [intOf]; omega⟩
      | long =>
        have HF := Lib.hid (HK.out.trans (arg_long hlt hE))
        rw [hE] at hcell
        unfold EK.val at hcell
        have H1 := is_same x wr
        unfold errV at hx hy H1 hcell
        go_wp2_with fail
        refine H1.mono ?_
        rintro e w1 ⟨rfl, rfl⟩
        go_wp2_with fail
        go_ret
        exact ⟨ret_int HF.out.symm, hbw⟩
      | bad i c =>
        have HF := Lib.hid (HK.out.trans (arg_bad hlt hE))
        rw [hE] at hcell
        unfold EK.val at hcell
        obtain ⟨cx, tx, rx⟩ := hTr.rowx
        obtain ⟨cy, ty, ry⟩ := hTr.rowy
        have H1 := is_rec_other i c y x _ _ _ _ wr hy (Ne.symm hTr.ne) ry rx
        have hxl := World.block_lt_of_cell? wr _ hx
        have hyl := World.block_lt_of_cell? wr _ hy
        have hye := hy
        unfold recV at hcell H1
        unfold errV at hx hy H1
        go_wp2_with fail
        refine H1.mono ?_
        rintro e w1 ⟨rfl, hb1⟩
        have hy1 : w1.cell? ⟨1, 0, none⟩ = some (errV y) := (hb1.cell (p := ⟨1, 0, none⟩) hyl).trans hye
        have H2 := is_rec_same i c y w1 hy1
        unfold recV at H2
        unfold errV at hy1 H2
        go_wp2_with fail
        refine H2.mono ?_
        rintro e w2 ⟨rfl, hb2⟩
        go_wp2_with fail
        exact ⟨⟨k + 1, 1, by omega, by go_num, rfl, HF, (hbw.trans (hb1.mono hbw.size)).trans (hb2.mono (hbw.trans (hb1.mono hbw.size)).size)⟩, by simp [intOf]; omega⟩
    · have HE := Lib.hid (HK.out.trans (arg_end (by omega)))
      go_wp2
      go_ret
      exact ⟨ret_int HE.out.symm, hbw⟩

def textK (s : ByteArray) : EK := if 65536 < s.size then .long else .fine
theorem checkText_any (s : ByteArray) (x : Addr) (w : World) (hx : w.cell? ⟨0, 0, none⟩ = some (errV x)) :
    Calls Tryz.prog 75 #[.string s] w fun e w' => e = .returned ((textK s).val x) ∧ w = w' := by
  unfold errV at hx
  by_cases h : 65536 < s.size
  · have hd : decide ((65536 : Int) < (s.size : Int)) = true := by simp; omega
    have HE : Hid ((textK s).val x = .iface 255 (.pointer (some x))) := by show _ = _; unfold textK; rw [if_pos h]; rfl
    go_enter Tryz.func75, Tryz.ntmps75
    go_wp2_with fail
    refine (longText_any s _).mono ?_
    rintro e w1 ⟨rfl, rfl⟩
    go_wp2_with fail
    go_ret
    exact ⟨ret_eq HE.out.symm, rfl⟩
  · have hd : decide ((65536 : Int) < (s.size : Int)) = false := by simp; omega
    have HE : Hid ((textK s).val x = .nilIface) := by show _ = _; unfold textK; rw [if_neg h]; rfl
    go_enter Tryz.func75, Tryz.ntmps75
    go_wp2_with fail
    refine (longText_any s _).mono ?_
    rintro e w1 ⟨rfl, rfl⟩
    go_wp2_with fail
    go_ret
    exact ⟨ret_eq HE.out.symm, rfl⟩

/-- What checkLayer answers. -/
def checkK (l : List R) : EK := if 4096 < l.length then .long else if (layerFaultL l).2 ≠ 0 then .bad (layerFaultL l).1 (layerFaultL l).2 else .fine
theorem checkK_val (l : List R) (x : Addr) : (checkK l).val x = checkV l x := by
  unfold checkK checkV
  split
  · rfl
  · split <;> rfl
/-- The code of a call with a layer and a text. -/
def codeLT (l : List R) (s : ByteArray) : Int := if 4096 < l.length ∨ 65536 < s.size then 2 else if layerOK l then 0 else 1
theorem arg_lt (l : List R) (s : ByteArray) : argFrom [checkK l, textK s] 0 = codeLT l s := by
  by_cases h1 : 4096 < l.length <;> by_cases h2 : 65536 < s.size <;> by_cases h3 : (layerFaultL l).2 = 0 <;> simp [checkK, textK, codeLT, argFrom, layerOK, h1, h2, h3]
def codeL (l : List R) : Int := if 4096 < l.length then 2 else if layerOK l then 0 else 1
theorem arg_l (l : List R) : argFrom [checkK l] 0 = codeL l := by
  by_cases h1 : 4096 < l.length <;> by_cases h3 : (layerFaultL l).2 = 0 <;> simp [checkK, codeL, argFrom, layerOK, h1, h3]
end Go.Proofs.YtjiljnfiofmpaaaGreatDoor.Recs

/- Layers: FindRecord, of the program and of its model. Conditions (of the program's): the table of kinds, the two sentinels. -/

namespace Go.Proofs.YtjiljnfiofmpaaaGreatDoor.Recs
set_option maxRecDepth 100000
open Go.RowKit Paths Errs

def findF (l : List R) (q : ByteArray) : R × Int := if codeLT l q ≠ 0 then (zR, codeLT l q) else if atL l q < 0 then (zR, 5) else ((l[(atL l q).toNat]?).getD zR, 0)
def findV (l : List R) (q : ByteArray) : Value := .tuple #[(findF l q).1.val, .int .i64 (findF l q).2]
theorem find_code {l : List R} {q : ByteArray} {c : Int} (hc : codeLT l q = c) (h : c ≠ 0) : findV l q = .tuple #[.agg #[.int .i64 0, .string ⟨#[]⟩, .string ⟨#[]⟩, .int .i64 0, .bool false], .int .i64 c] := by
  unfold findV findF; rw [hc, if_pos h]; rfl
theorem find_none {l : List R} {q : ByteArray} (h : codeLT l q = 0) (ha : atL l q = -1) : findV l q = .tuple #[.agg #[.int .i64 0, .string ⟨#[]⟩, .string ⟨#[]⟩, .int .i64 0, .bool false], .int .i64 5] := by
  unfold findV findF; rw [if_neg (by simpa using h), if_pos (by rw [ha]; decide)]; rfl
theorem find_here {l : List R} {q : ByteArray} {j : Nat} (h : codeLT l q = 0) (hj : j < l.length) (ha : atL l q = (j : Int)) : findV l q = .tuple #[.agg #[.int .i64 l[j].k, .string l[j].p, .string l[j].b, .int .i64 l[j].m, .bool l[j].o], .int .i64 0] := by
  unfold findV findF; rw [if_neg (by simpa using h), if_neg (by omega), ha, Int.toNat_natCast, List.getElem?_eq_getElem hj]; rfl
theorem text_not {q : ByteArray} {i c : Int} : textK q ≠ .bad i c := by unfold textK; split <;> simp

/-- The arguments' errors, as the call of a variadic function lays them. -/
theorem arg2_any (a b : EK) (x y : Addr) (w : World) (hT : Three w x y) :
    Calls Tryz.prog 61 #[.slice (some ⟨w.heap.size, 0, none⟩) 2 2] (w.alloc (.cells #[a.val x, b.val x] 85)) fun e w' => e = .returned (.int .i64 (argFrom [a, b] 0)) ∧ Below w.heap.size w w' := by
  have hb0 : Below w.heap.size w (w.alloc (.cells #[a.val x, b.val x] 85)) := (Below.refl _ _).alloc (Nat.le_refl _) _
  have := argumentCode_any w.heap.size [a, b] x y (w.alloc (.cells #[a.val x, b.val x] 85)) (hT.below hb0 (Nat.le_refl _)) (by simp) (by simp) (fun k hk => by
    have hk2 : k < 2 := hk
    match k, hk2 with
    | 0, _ => go_simp
    | 1, _ => go_simp)
  refine this.mono ?_
  rintro e w1 ⟨rfl, hb1⟩
  exact ⟨rfl, hb0.trans (hb1.mono hb0.size)⟩
theorem arg1_any (a : EK) (x y : Addr) (w : World) (hT : Three w x y) :
    Calls Tryz.prog 61 #[.slice (some ⟨w.heap.size, 0, none⟩) 1 1] (w.alloc (.cells #[a.val x] 85)) fun e w' => e = .returned (.int .i64 (argFrom [a] 0)) ∧ Below w.heap.size w w' := by
  have hb0 : Below w.heap.size w (w.alloc (.cells #[a.val x] 85)) := (Below.refl _ _).alloc (Nat.le_refl _) _
  have := argumentCode_any w.heap.size [a] x y (w.alloc (.cells #[a.val x] 85)) (hT.below hb0 (Nat.le_refl _)) (by simp) (by simp) (fun k hk => by
    have hk2 : k < 1 := hk
    match k, hk2 with
    | 0, _ => go_simp)
  refine this.mono ?_
  rintro e w1 ⟨rfl, hb1⟩
  exact ⟨rfl, hb0.trans (hb1.mono hb0.size)⟩

set_option maxHeartbeats 800000 in
theorem findRecord_spec (v : Value) (l : List R) (q : ByteArray) (w : World) (h : RecSl w v l) (hl : l.length ≤ 1048576) :
    Calls Tryz.prog 34 #[v, .string q] w fun e w' => e = .returned (findV l q) ∧ Below w.heap.size w w' := by
  have hb0 : Below w.heap.size w (w.alloc (.cells #[.int .i64 0, .string ByteArray.empty, .string ByteArray.empty, .int .i64 0, .bool false] 26)) := (Below.refl _ _).alloc (Nat.le_refl _) _
  have HC := l03OK_any v l _ (h.below hb0) hl
  have hsl := h
  obtain ⟨A, cap, rfl, hcap, h⟩ := h
  by_cases h4 : 4096 < l.length
  · have HE := Lib.hid (find_code (l := l) (q := q) (c := 2) (by unfold codeLT; rw [if_pos (.inl h4)]) (by decide))
    have hd : decide ((4096 : Int) < (l.length : Int)) = true := by simp; omega
    go_enter Tryz.func34, Tryz.ntmps34
    go_wp2_with fail
    refine bodyPost_ret (v := .tuple #[.agg #[.int .i64 0, .string ⟨#[]⟩, .string ⟨#[]⟩, .int .i64 0, .bool false], .int .i64 2]) (by simp [results, Tryz.results34, go_sem]) rfl ⟨ret_eq HE.out.symm, hb0⟩
  have hd4 : decide ((4096 : Int) < (l.length : Int)) = false := by simp; omega
  by_cases h5 : 65536 < q.size
  · have HE := Lib.hid (find_code (l := l) (q := q) (c := 2) (by unfold codeLT; rw [if_pos (.inr h5)]) (by decide))
    have hd : decide ((65536 : Int) < (q.size : Int)) = true := by simp; omega
    go_enter Tryz.func34, Tryz.ntmps34
    go_wp2_with fail
    refine bodyPost_ret (v := .tuple #[.agg #[.int .i64 0, .string ⟨#[]⟩, .string ⟨#[]⟩, .int .i64 0, .bool false], .int .i64 2]) (by simp [results, Tryz.results34, go_sem]) rfl ⟨ret_eq HE.out.symm, hb0⟩
  have hd5 : decide ((65536 : Int) < (q.size : Int)) = false := by simp; omega
  have HL : Hid (codeLT l q = if layerOK l then 0 else 1) := by show _ = _; unfold codeLT; rw [if_neg (by omega)]
  rcases Bool.eq_false_or_eq_true (layerOK l) with hk | hk
  case inr =>
    have HE := Lib.hid (find_code (l := l) (q := q) (c := 1) (by rw [HL.out, hk]; rfl) (by decide))
    rw [hk] at HC
    go_enter Tryz.func34, Tryz.ntmps34
    go_wp2_with fail
    refine HC.mono ?_
    rintro e w1 ⟨rfl, hb1⟩
    have c1 := hb0.trans (hb1.mono hb0.size)
    obtain ⟨hc1, hf1⟩ := bcell hb1
    have hz1 : w.heap.size < w1.heap.size := by have := hb1.size; simp at this; omega
    go_wp2_with fail
    refine bodyPost_ret (v := .tuple #[.agg #[.int .i64 0, .string ⟨#[]⟩, .string ⟨#[]⟩, .int .i64 0, .bool false], .int .i64 1]) (by simp [results, Tryz.results34, go_sem, hc1]) rfl ⟨ret_eq HE.out.symm, ?_⟩
    repeat (refine Below.setCell ?_ (by simp) _)
    exact c1
  have H0 : Hid (codeLT l q = 0) := by show _ = _; rw [HL.out, hk]; rfl
  rw [hk] at HC
  go_enter Tryz.func34, Tryz.ntmps34
  go_wp2_with fail
  refine HC.mono ?_
  rintro e w1 ⟨rfl, hb1⟩
  have c1 := hb0.trans (hb1.mono hb0.size)
  obtain ⟨hc1, hf1⟩ := bcell hb1
  have hz1 : w.heap.size < w1.heap.size := by have := hb1.size; simp at this; omega
  go_wp2_with fail
  refine (l03At_any _ l _ _ (hsl.below c1) hl).mono ?_
  rintro e w2 ⟨rfl, rfl⟩
  rcases atL_cases l q with ⟨ha, _⟩ | ⟨j, hj, ha, -⟩
  · have HE := Lib.hid (find_none H0.out ha)
    rw [ha]
    go_wp2_with fail
    refine bodyPost_ret (v := .tuple #[.agg #[.int .i64 0, .string ⟨#[]⟩, .string ⟨#[]⟩, .int .i64 0, .bool false], .int .i64 5]) (by simp [results, Tryz.results34, go_sem, hc1]) rfl ⟨ret_eq HE.out.symm, ?_⟩
    repeat (refine Below.setCell ?_ (by simp) _)
    exact c1
  · have HE := Lib.hid (find_here H0.out hj ha)
    obtain ⟨b, off, rfl, hb, hcell⟩ := h (by omega)
    obtain ⟨f0, f1, f2, f3, f4⟩ := (hcell j l[j] (by simp [hj])).below c1 hb
    obtain ⟨e0, e1, e2, e3, e4⟩ := hcell j l[j] (by simp [hj])
    have hbz : b < w.heap.size + 1 := by omega
    have j1 : (0 : Int) ≤ (j : Int) := by omega
    have j2 : (j : Int) < (l.length : Int) := by omega
    have j3 : decide ((j : Int) < 0) = false := by simp
    rw [ha]
    clear ha hcell
    go_wp2_with fail
    refine bodyPost_ret (v := .tuple #[.agg #[.int .i64 l[j].k, .string l[j].p, .string l[j].b, .int .i64 l[j].m, .bool l[j].o], .int .i64 0]) (by simp [results, Tryz.results34, go_sem, hc1]) rfl ⟨ret_eq HE.out.symm, ?_⟩
    repeat (refine Below.setCell ?_ (by simp) _)
    exact c1
end Go.Proofs.YtjiljnfiofmpaaaGreatDoor.Recs
