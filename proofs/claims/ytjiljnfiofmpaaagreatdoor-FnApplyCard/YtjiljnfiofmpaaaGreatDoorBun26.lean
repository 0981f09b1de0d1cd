/- Several texts of mine in one file (each begins with its own remark). -/
import Derived.Test.YtjiljnfiofmpaaaGreatDoorBun8
import Derived.Test.YtjiljnfiofmpaaaGreatDoorBun7
import Derived.Test.YtjiljnfiofmpaaaGreatDoorBun13
import Derived.Test.YtjiljnfiofmpaaaGreatDoorBun25
import Derived.Test.YtjiljnfiofmpaaaGreatDoorBun16
import Derived.Test.YtjiljnfiofmpaaaGreatDoorBun14
/- The code of the errors of a call's arguments, whichever check they come from. Conditions: the table of kinds, the two sentinels. -/

namespace Go.Proofs.YtjiljnfiofmpaaaGreatDoor.Recs
set_option maxRecDepth 100000
open Go.RowKit Paths Errs

/-- An error that a check hands back: none, one of the two sentinels, or the one that names a record. -/
inductive EU where
  | fine
  | long
  | inv
  | bad (i c : Int)
def EU.val (x y : Addr) : EU → Value
  | .fine => .nilIface
  | .long => errV x
  | .inv => errV y
  | .bad i c => recV i c
def EN.u : EN → EU
  | .fine => .fine
  | .long => .long
  | .inv => .inv
theorem EN.u_val (e : EN) (x y : Addr) : e.u.val x y = e.val x y := by cases e <;> rfl
def euFrom : List EU → Int → Int
  | [], c => c
  | .fine :: t, c => euFrom t c
  | .long :: _, _ => 2
  | .inv :: t, _ => euFrom t 1
  | .bad _ _ :: t, _ => euFrom t 1
theorem eu_end {L : List EU} {k : Nat} {c : Int} (h : L.length ≤ k) : euFrom (L.drop k) c = c := by rw [List.drop_eq_nil_of_le h]; rfl
theorem eu_fine {L : List EU} {k : Nat} {c : Int} (h : k < L.length) (he : L[k] = .fine) : euFrom (L.drop k) c = euFrom (L.drop (k + 1)) c := by rw [List.drop_eq_getElem_cons h, he]; rfl
theorem eu_long {L : List EU} {k : Nat} {c : Int} (h : k < L.length) (he : L[k] = .long) : euFrom (L.drop k) c = 2 := by rw [List.drop_eq_getElem_cons h, he]; rfl
theorem eu_inv {L : List EU} {k : Nat} {c : Int} (h : k < L.length) (he : L[k] = .inv) : euFrom (L.drop k) c = euFrom (L.drop (k + 1)) 1 := by rw [List.drop_eq_getElem_cons h, he]; rfl
theorem eu_bad {L : List EU} {k : Nat} {c i d : Int} (h : k < L.length) (he : L[k] = .bad i d) : euFrom (L.drop k) c = euFrom (L.drop (k + 1)) 1 := by rw [List.drop_eq_getElem_cons h, he]; rfl

set_option maxHeartbeats 1600000 in
theorem argumentU_any (g : Nat) (L : List EU) (x y : Addr) (w : World) (hT : Three w x y) (hg : g < w.heap.size) (hn : L.length ≤ 1000) (hc : ∀ k (h : k < L.length), w.cell? ⟨g, k, none⟩ = some (L[k].val x y)) :
    Calls Tryz.prog 61 #[.slice (some ⟨g, 0, none⟩) L.length L.length] w fun e w' => e = .returned (.int .i64 (euFrom L 0)) ∧ Below w.heap.size w w' := by
  have HC := Lib.hid hc
  have HT := Lib.hid hT
  clear hc hT
  go_enter Tryz.func61, Tryz.ntmps61
  go_wp2
  go_loopw [3, 8] (fun c i wr => ∃ (k : Nat) (d : Int), k ≤ L.length ∧ i = .int .i64 k ∧ c = .int .i64 d ∧ Hid (euFrom L 0 = euFrom (L.drop k) d) ∧ Below w.heap.size w wr) (fun _ i _ => L.length - (intOf i).toNat)
  case atStart => exact ⟨0, 0, by omega, rfl, rfl, rfl, Below.refl _ _⟩
  case round =>
    obtain ⟨k, d, hk, rfl, rfl, HK, hbw⟩ := hrel
    by_cases hlt : k < L.length
    · have hcell : wr.cell? ⟨g, k, none⟩ = some (L[k].val x y) := (hbw.cell (p := ⟨g, k, none⟩) hg).trans (HC.out k hlt)
      have hTr := HT.out.below hbw (Nat.le_refl _)
      have hx := hTr.long
      have hy := hTr.bad
      have hi1 : (k : Int) < (L.length : Int) := by omega
      have hi0 : (0 : Int) ≤ (k : Int) := by omega
      cases hE : L[k] with
      | fine =>
        have HF := Lib.hid (HK.out.trans (eu_fine hlt hE))
        rw [hE] at hcell
        unfold EU.val at hcell
        have H1 := is_nil x wr
        have H2 := is_nil y wr
        unfold errV at hx hy H1 H2
        go_wp2_with fail
        refine H1.mono ?_
        rintro e w1 ⟨rfl, rfl⟩
        go_wp2_with fail
        refine H2.mono ?_
        rintro e w2 ⟨rfl, rfl⟩
        go_wp2_with fail
        exact ⟨⟨k + 1, d, by omega, by go_num, rfl, HF, hbw⟩, by simp [intOf]; omega⟩
      | long =>
        have HF := Lib.hid (HK.out.trans (eu_long hlt hE))
        rw [hE] at hcell
        unfold EU.val at hcell
        have H1 := is_same x wr
        unfold errV at hx hy H1 hcell
        go_wp2_with fail
        refine H1.mono ?_
        rintro e w1 ⟨rfl, rfl⟩
        go_wp2_with fail
        go_ret
        exact ⟨ret_int HF.out.symm, hbw⟩
      | inv =>
        have HF := Lib.hid (HK.out.trans (eu_inv hlt hE))
        rw [hE] at hcell
        unfold EU.val at hcell
        obtain ⟨cx, tx, rx⟩ := hTr.rowx
        obtain ⟨cy, ty, ry⟩ := hTr.rowy
        have H1 := is_other y x _ _ _ _ wr (Ne.symm hTr.ne) ry rx
        have H2 := is_same y wr
        unfold errV at hx hy H1 H2 hcell
        go_wp2_with fail
        refine H1.mono ?_
        rintro e w1 ⟨rfl, rfl⟩
        go_wp2_with fail
        refine H2.mono ?_
        rintro e w2 ⟨rfl, rfl⟩
        go_wp2_with fail
        exact ⟨⟨k + 1, 1, by omega, by go_num, rfl, HF, hbw⟩, by simp [intOf]; omega⟩
      | bad i c =>
        have HF := Lib.hid (HK.out.trans (eu_bad hlt hE))
        rw [hE] at hcell
        unfold EU.val at hcell
        obtain ⟨cx, tx, rx⟩ := hTr.rowx
        obtain ⟨cy, ty, ry⟩ := hTr.rowy
        have H1 := is_rec_other i c y x _ _ _ _ wr hy (Ne.symm hTr.ne) ry rx
        have hxl := World.block_lt_of_cell? wr _ hx
        have hyl := World.block_lt_of_cell? wr _ hy
        have hye := hy
        unfold recV at hcell H1
        unfold errV at hx hy H1
        go_wp2_with fail
        refine H1.mono ?_
        rintro e w1 ⟨rfl, hb1⟩
        have hy1 : w1.cell? ⟨1, 0, none⟩ = some (errV y) := (hb1.cell (p := ⟨1, 0, none⟩) hyl).trans hye
        have H2 := is_rec_same i c y w1 hy1
        unfold recV at H2
        unfold errV at hy1 H2
        go_wp2_with fail
        refine H2.mono ?_
        rintro e w2 ⟨rfl, hb2⟩
        go_wp2_with fail
        exact ⟨⟨k + 1, 1, by omega, by go_num, rfl, HF, (hbw.trans (hb1.mono hbw.size)).trans (hb2.mono (hbw.trans (hb1.mono hbw.size)).size)⟩, by simp [intOf]; omega⟩
    · have HE := Lib.hid (HK.out.trans (eu_end (by omega)))
      go_wp2
      go_ret
      exact ⟨ret_int HE.out.symm, hbw⟩

/-- The arguments' errors, as the call of a variadic function lays them. -/
theorem argU2_any (a b : EU) (x y : Addr) (w : World) (hT : Three w x y) :
    Calls Tryz.prog 61 #[.slice (some ⟨w.heap.size, 0, none⟩) 2 2] (w.alloc (.cells #[a.val x y, b.val x y] 85)) fun e w' => e = .returned (.int .i64 (euFrom [a, b] 0)) ∧ Below w.heap.size w w' := by
  have hb0 : Below w.heap.size w (w.alloc (.cells #[a.val x y, b.val x y] 85)) := (Below.refl _ _).alloc (Nat.le_refl _) _
  have := argumentU_any w.heap.size [a, b] x y (w.alloc (.cells #[a.val x y, b.val x y] 85)) (hT.below hb0 (Nat.le_refl _)) (by simp) (by simp) (fun k hk => by
    have hk2 : k < 2 := hk
    match k, hk2 with
    | 0, _ => go_simp
    | 1, _ => go_simp)
  refine this.mono ?_
  rintro e w1 ⟨rfl, hb1⟩
  exact ⟨rfl, hb0.trans (hb1.mono hb0.size)⟩
theorem argU1_any (a : EU) (x y : Addr) (w : World) (hT : Three w x y) :
    Calls Tryz.prog 61 #[.slice (some ⟨w.heap.size, 0, none⟩) 1 1] (w.alloc (.cells #[a.val x y] 85)) fun e w' => e = .returned (.int .i64 (euFrom [a] 0)) ∧ Below w.heap.size w w' := by
  have hb0 : Below w.heap.size w (w.alloc (.cells #[a.val x y] 85)) := (Below.refl _ _).alloc (Nat.le_refl _) _
  have := argumentU_any w.heap.size [a] x y (w.alloc (.cells #[a.val x y] 85)) (hT.below hb0 (Nat.le_refl _)) (by simp) (by simp) (fun k hk => by
    have hk2 : k < 1 := hk
    match k, hk2 with
    | 0, _ => go_simp)
  refine this.mono ?_
  rintro e w1 ⟨rfl, hb1⟩
  exact ⟨rfl, hb0.trans (hb1.mono hb0.size)⟩

/-- What checkLayer answers. -/
def checkU (l : List R) : EU := if 4096 < l.length then .long else if (layerFaultL l).2 ≠ 0 then .bad (layerFaultL l).1 (layerFaultL l).2 else .fine
theorem checkU_val (l : List R) (x y : Addr) : (checkU l).val x y = checkV l x := by
  unfold checkU checkV
  split
  · rfl
  · split <;> rfl
theorem checkU_any (v : Value) (l : List R) (x y : Addr) (w : World) (h : RecSl w v l) (hl : l.length ≤ 1048576) (hr : ∀ r ∈ l, r.p.size ≤ maxLen) (hT : Three w x y) :
    Calls Tryz.prog 87 #[v] w fun e w' => e = .returned ((checkU l).val x y) ∧ Below w.heap.size w w' := by
  rw [checkU_val]
  exact checkLayer_any v l x w h hl hr hT.tab hT.long
theorem growU_any (v : Value) (l : List R) (x y : Addr) (w : World) (h : NodSl w v l) (hl : l.length ≤ 1048576) (hr : ∀ r ∈ l, r.p.size ≤ maxLen) (hT : Three w x y) :
    Calls Tryz.prog 73 #[v] w fun e w' => e = .returned ((growK l).u.val x y) ∧ Below w.heap.size w w' := by
  rw [EN.u_val]
  exact checkTree_any v l x y w h hl hr hT
/-- The code of a call with a layer and a tree. -/
def codeLN (l t : List R) : Int := if 4096 < l.length ∨ 4096 < t.length then 2 else if layerOK l && treeOK t then 0 else 1
theorem arg_ln (l t : List R) : euFrom [checkU l, (growK t).u] 0 = codeLN l t := by
  by_cases h1 : 4096 < l.length <;> by_cases h2 : 4096 < t.length <;> by_cases h3 : (layerFaultL l).2 = 0 <;> cases h4 : treeOK t <;> simp [checkU, growK, EN.u, codeLN, euFrom, layerOK, h1, h2, h3, h4]
def codeLL (a b : List R) : Int := if 4096 < a.length ∨ 4096 < b.length then 2 else if layerOK a && layerOK b then 0 else 1
theorem arg_ll (a b : List R) : euFrom [checkU a, checkU b] 0 = codeLL a b := by
  by_cases h1 : 4096 < a.length <;> by_cases h2 : 4096 < b.length <;> by_cases h3 : (layerFaultL a).2 = 0 <;> by_cases h4 : (layerFaultL b).2 = 0 <;> simp [checkU, codeLL, euFrom, layerOK, h1, h2, h3, h4]
end Go.Proofs.YtjiljnfiofmpaaaGreatDoor.Recs

/- Apply, Changes of the program. Conditions: the table of kinds, the two sentinels. -/

namespace Go.Proofs.YtjiljnfiofmpaaaGreatDoor.Recs
set_option maxRecDepth 100000
open Go.RowKit Paths Errs

def appC (l t : List R) : Int := if codeLN l t ≠ 0 then codeLN l t else limC (applyL l t)
def appR (l t : List R) : List R := if codeLN l t ≠ 0 then [] else limL (applyL l t)
/-- The code of a call with a stack and a tree, of one with a stack. -/
def codeSN (LL : List (List R)) (t : List R) : Int := if 4096 < LL.length ∨ 4096 < t.length then 2 else if stackOK LL && treeOK t then 0 else 1
def codeS (LL : List (List R)) : Int := if 4096 < LL.length then 2 else if stackOK LL then 0 else 1
theorem arg_sn (LL : List (List R)) (t : List R) : euFrom [(stkE LL).u, (growK t).u] 0 = codeSN LL t := by
  by_cases h1 : 4096 < LL.length <;> by_cases h2 : 4096 < t.length <;> cases h3 : stackOK LL <;> cases h4 : treeOK t <;> simp [stkE, growK, EN.u, codeSN, euFrom, h1, h2, h3, h4]
theorem arg_s (LL : List (List R)) : euFrom [(stkE LL).u] 0 = codeS LL := by
  by_cases h1 : 4096 < LL.length <;> cases h3 : stackOK LL <;> simp [stkE, EN.u, codeS, euFrom, h1, h3]
def allC (LL : List (List R)) (t : List R) : Int := if codeSN LL t ≠ 0 then codeSN LL t else limC (applyAllL LL t)
def allR (LL : List (List R)) (t : List R) : List R := if codeSN LL t ≠ 0 then [] else limL (applyAllL LL t)
def viewR (LL : List (List R)) : List R := if codeS LL ≠ 0 then [] else applyAllL LL []
def chgB (l t : List R) : Bool := if codeLN l t ≠ 0 then false else !decide (applyL l t = t)
theorem fine_ln {l t : List R} (h : codeLN l t = 0) : checkU l = .fine ∧ growK t = .fine ∧ layerOK l = true ∧ treeOK t = true := by
  unfold codeLN at h
  split at h
  · cases h
  · rename_i hn
    split at h
    · rename_i hk
      rw [Bool.and_eq_true] at hk
      have h3 : (layerFaultL l).2 = 0 := by have := hk.1; unfold layerOK at this; simpa using this
      exact ⟨by unfold checkU; rw [if_neg (fun e => hn (.inl e)), if_neg (by simpa using h3)], by unfold growK; rw [if_neg (fun e => hn (.inr e)), if_pos hk.2], hk.1, hk.2⟩
    · cases h
theorem fine_sn {LL : List (List R)} {t : List R} (h : codeSN LL t = 0) : stkE LL = .fine ∧ growK t = .fine ∧ stackOK LL = true ∧ treeOK t = true := by
  unfold codeSN at h
  split at h
  · cases h
  · rename_i hn
    split at h
    · rename_i hk
      rw [Bool.and_eq_true] at hk
      exact ⟨by unfold stkE; rw [if_neg (fun e => hn (.inl e)), if_pos hk.1], by unfold growK; rw [if_neg (fun e => hn (.inr e)), if_pos hk.2], hk.1, hk.2⟩
    · cases h
theorem fine_s {LL : List (List R)} (h : codeS LL = 0) : stkE LL = .fine ∧ stackOK LL = true := by
  unfold codeS at h
  split at h
  · cases h
  · rename_i hn
    split at h
    · rename_i hk
      exact ⟨by unfold stkE; rw [if_neg hn, if_pos hk], hk⟩
    · cases h
theorem stack_of {LL : List (List R)} (h : stackOK LL = true) : LL.length ≤ 5 ∧ ∀ l ∈ LL, layerOK l = true := by
  unfold stackOK at h
  rw [Bool.and_eq_true] at h
  exact ⟨by simpa using h.1, fun l hm => (List.all_eq_true.1 h.2) l hm⟩
theorem layer_16 {l : List R} (h : layerOK l = true) : l.length ≤ 16 := layer_len h
theorem RecSl.form {w : World} {v : Value} {l : List R} (h : RecSl w v l) : ∃ A cap, v = .slice A l.length cap := by
  obtain ⟨A, cap, rfl, _⟩ := h
  exact ⟨A, cap, rfl⟩
theorem stackU_any (v : Value) (LL : List (List R)) (x y : Addr) (w : World) (h : StkSl w v LL) (hl : LL.length ≤ 1048576) (hll : ∀ l ∈ LL, l.length ≤ 1048576 ∧ ∀ r ∈ l, r.p.size ≤ maxLen) (hT : Three w x y) :
    Calls Tryz.prog 107 #[v] w fun e w' => e = .returned ((stkE LL).u.val x y) ∧ Below w.heap.size w w' := by
  rw [EN.u_val]
  exact checkStack_any v LL x y w h hl hll hT
/-- One slice laid in a row of its own. -/
theorem stk_one {w : World} {v : Value} {l : List R} (h : RecSl w v l) : StkSl (w.alloc (.cells #[v] 45)) (.slice (some ⟨w.heap.size, 0, none⟩) 1 1) [l] := by
  refine ⟨_, 1, rfl, Nat.le_refl _, fun _ => ⟨w.heap.size, 0, rfl, by simp, fun i q hi => ?_⟩⟩
  match i, hi with
  | 0, hi =>
    cases hi
    exact ⟨v, cell_one_new w _ _ 0 _ rfl, h.below ((Below.refl _ _).alloc (Nat.le_refl _) _)⟩
  | i + 1, hi => simp at hi

set_option maxHeartbeats 1000000 in
theorem apply_impl (v u : Value) (l t : List R) (x y : Addr) (w : World) (h : RecSl w v l) (hn : NodSl w u t) (hl : l.length ≤ 1048576) (htl : t.length ≤ 1048576) (hr : ∀ r ∈ l, r.p.size ≤ maxLen) (htr : ∀ r ∈ t, r.p.size ≤ maxLen) (hT : Three w x y) :
    Calls Tryz.prog 28 #[v, u] w fun e w' => ∃ z, e = .returned (.tuple #[z, .int .i64 (appC l t)]) ∧ Below w.heap.size w w' ∧ RowN w' w.heap.size z (appR l t).length (appR l t) := by
  have HARG : euFrom [checkU l, (growK t).u] 0 = codeLN l t := arg_ln l t
  by_cases h0 : codeLN l t = 0
  · obtain ⟨hc, hg, hLO, hTO⟩ := fine_ln h0
    have HRES : Hid (appC l t = limC (applyL l t) ∧ appR l t = limL (applyL l t)) := ⟨if_neg (by simpa using h0), if_neg (by simpa using h0)⟩
    obtain ⟨vA, vcap, rfl⟩ := h.form
    have hLY := layer_is hLO
    have h16 := layer_16 hLO
    have hTR := (tree_of hTO).is
    have h24 := (tree_of hTO).len
    have HC := checkU_any _ l x y w h hl hr hT
    rw [hc] at HC
    unfold EU.val at HC
    have HARG2 := Lib.hid HARG
    clear HARG h0
    go_enter Tryz.func28, Tryz.ntmps28
    go_wp2_with fail
    refine HC.mono ?_
    rintro e w1 ⟨rfl, hb1⟩
    have hT1 := hT.below hb1 (Nat.le_refl _)
    have HG := growU_any u t x y w1 (hn.below hb1) htl htr hT1
    rw [hg] at HG
    unfold EN.u EU.val at HG
    go_wp2_with fail
    refine HG.mono ?_
    rintro e w2 ⟨rfl, hb2⟩
    have c2 := hb1.trans (hb2.mono hb1.size)
    have HA := argU2_any .fine .fine x y w2 (hT.below c2 (Nat.le_refl _))
    unfold EU.val at HA
    go_wp2_with fail
    refine HA.mono ?_
    rintro e w3 ⟨rfl, hb3⟩
    have c3 := c2.trans (hb3.mono c2.size)
    have hcode : euFrom [.fine, .fine] 0 = 0 := rfl
    rw [hcode]
    clear hcode
    have hSt := stk_one (h.below c3)
    have hbS : Below w3.heap.size w3 (w3.alloc (.cells #[.slice vA l.length vcap] 45)) := (Below.refl _ _).alloc (Nat.le_refl _) _
    have cS := c3.trans (hbS.mono c3.size)
    have HAL := afterLayers_any u _ t [l] _ (hn.below cS) hSt hTR (by omega) (fun l' hm => by rw [List.mem_singleton.1 hm]; exact ⟨hLY, h16⟩) (by simp)
    change Calls _ _ _ _ (fun e w' => ∃ x, e = .returned x ∧ _ ∧ RowN w' _ x (applyL l t).length (applyL l t)) at HAL
    clear hSt hbS
    go_wp2_with fail
    generalize w3.alloc (.cells #[.slice vA l.length vcap] 45) = W4 at *
    refine HAL.mono ?_
    rintro e w5 ⟨z, rfl, hb5, hrow⟩
    have c5 := cS.trans (hb5.mono cS.size)
    have HLM := limitNodes_any z _ _ w5 (hrow.down cS.size)
    clear hrow
    go_wp2_with fail
    refine HLM.mono ?_
    rintro e w6 ⟨z2, rfl, rfl, hrow2⟩
    have HR2 := Lib.hid hrow2
    clear hrow2
    go_wp2_with fail
    go_ret2
    exact ⟨z2, by rw [HRES.out.1]; rfl, c5, by rw [HRES.out.2]; exact HR2.out⟩
  · have HRES : Hid (appC l t = codeLN l t ∧ appR l t = []) := ⟨if_pos h0, if_pos h0⟩
    cases hc : checkU l <;> cases hg : growK t <;> (
      rw [hc, hg] at HARG
      first
      | exact absurd (HARG.symm.trans rfl) h0
      | (have HC := checkU_any _ l x y w h hl hr hT
         rw [hc] at HC
         unfold EU.val at HC
         try unfold errV at HC
         try unfold recV at HC
         go_enter Tryz.func28, Tryz.ntmps28
         go_wp2_with fail
         refine HC.mono ?_
         rintro e w1 ⟨rfl, hb1⟩
         have hT1 := hT.below hb1 (Nat.le_refl _)
         have HG := growU_any u t x y w1 (hn.below hb1) htl htr hT1
         rw [hg] at HG
         unfold EN.u EU.val at HG
         try unfold errV at HG
         go_wp2_with fail
         refine HG.mono ?_
         rintro e w2 ⟨rfl, hb2⟩
         have c2 := hb1.trans (hb2.mono hb1.size)
         have HA := argU2_any (checkU l) ((growK t).u) x y w2 (hT.below c2 (Nat.le_refl _))
         rw [hc, hg] at HA
         have hne : (codeLN l t != 0) = true := (by simpa using h0)
         rw [HARG] at HA
         try unfold EN.u at HA
         unfold EU.val at HA
         try unfold errV at HA
         try unfold recV at HA
         generalize hC : codeLN l t = C at *
         have HCC := Lib.hid hC
         clear HARG h0 hC
         go_wp2_with fail
         refine HA.mono ?_
         rintro e w3 ⟨rfl, hb3⟩
         have c3 := c2.trans (hb3.mono c2.size)
         go_wp2_with fail
         go_ret2
         exact ⟨_, by rw [HRES.out.1]; rfl, c3, by rw [HRES.out.2]; exact nilN _ _⟩))

set_option maxHeartbeats 1000000 in
theorem changes_impl (v u : Value) (l t : List R) (x y : Addr) (w : World) (h : RecSl w v l) (hn : NodSl w u t) (hl : l.length ≤ 1048576) (htl : t.length ≤ 1048576) (hr : ∀ r ∈ l, r.p.size ≤ maxLen) (htr : ∀ r ∈ t, r.p.size ≤ maxLen) (hT : Three w x y) :
    Calls Tryz.prog 33 #[v, u] w fun e w' => e = .returned (.tuple #[.bool (chgB l t), .int .i64 (codeLN l t)]) ∧ Below w.heap.size w w' := by
  have HARG : euFrom [checkU l, (growK t).u] 0 = codeLN l t := arg_ln l t
  by_cases h0 : codeLN l t = 0
  · obtain ⟨hc, hg, hLO, hTO⟩ := fine_ln h0
    have HRES : Hid (chgB l t = !decide (applyL l t = t) ∧ codeLN l t = 0) := ⟨if_neg (by simpa using h0), h0⟩
    obtain ⟨vA, vcap, rfl⟩ := h.form
    have hLY := layer_is hLO
    have h16 := layer_16 hLO
    have hTR := (tree_of hTO).is
    have h24 := (tree_of hTO).len
    have HC := checkU_any _ l x y w h hl hr hT
    rw [hc] at HC
    unfold EU.val at HC
    have HARG2 := Lib.hid HARG
    clear HARG h0
    go_enter Tryz.func33, Tryz.ntmps33
    go_wp2_with fail
    refine HC.mono ?_
    rintro e w1 ⟨rfl, hb1⟩
    have hT1 := hT.below hb1 (Nat.le_refl _)
    have HG := growU_any u t x y w1 (hn.below hb1) htl htr hT1
    rw [hg] at HG
    unfold EN.u EU.val at HG
    go_wp2_with fail
    refine HG.mono ?_
    rintro e w2 ⟨rfl, hb2⟩
    have c2 := hb1.trans (hb2.mono hb1.size)
    have HA := argU2_any .fine .fine x y w2 (hT.below c2 (Nat.le_refl _))
    unfold EU.val at HA
    go_wp2_with fail
    refine HA.mono ?_
    rintro e w3 ⟨rfl, hb3⟩
    have c3 := c2.trans (hb3.mono c2.size)
    have hcode : euFrom [.fine, .fine] 0 = 0 := rfl
    rw [hcode]
    clear hcode
    have hSt := stk_one (h.below c3)
    have hbS : Below w3.heap.size w3 (w3.alloc (.cells #[.slice vA l.length vcap] 45)) := (Below.refl _ _).alloc (Nat.le_refl _) _
    have cS := c3.trans (hbS.mono c3.size)
    have HAL := afterLayers_any u _ t [l] _ (hn.below cS) hSt hTR (by omega) (fun l' hm => by rw [List.mem_singleton.1 hm]; exact ⟨hLY, h16⟩) (by simp)
    change Calls _ _ _ _ (fun e w' => ∃ x, e = .returned x ∧ _ ∧ RowN w' _ x (applyL l t).length (applyL l t)) at HAL
    clear hSt hbS
    go_wp2_with fail
    generalize w3.alloc (.cells #[.slice vA l.length vcap] 45) = W4 at *
    refine HAL.mono ?_
    rintro e w5 ⟨z, rfl, hb5, hrow⟩
    have c5 := cS.trans (hb5.mono cS.size)
    have HEQ := equalN_any z u (applyL l t) t w5 hrow.sl ((hn.below c5)) (by have := apply_le l t; omega)
    clear hrow
    go_wp2_with fail
    refine HEQ.mono ?_
    rintro e w6 ⟨rfl, n6, rfl⟩
    go_wp2_with fail
    go_ret2
    exact ⟨by rw [HRES.out.1, HRES.out.2]; rfl, below_drewN c5 n6⟩
  · have HRES : Hid (chgB l t = false) := if_pos h0
    cases hc : checkU l <;> cases hg : growK t <;> (
      rw [hc, hg] at HARG
      first
      | exact absurd (HARG.symm.trans rfl) h0
      | (have HC := checkU_any _ l x y w h hl hr hT
         rw [hc] at HC
         unfold EU.val at HC
         try unfold errV at HC
         try unfold recV at HC
         go_enter Tryz.func33, Tryz.ntmps33
         go_wp2_with fail
         refine HC.mono ?_
         rintro e w1 ⟨rfl, hb1⟩
         have hT1 := hT.below hb1 (Nat.le_refl _)
         have HG := growU_any u t x y w1 (hn.below hb1) htl htr hT1
         rw [hg] at HG
         unfold EN.u EU.val at HG
         try unfold errV at HG
         go_wp2_with fail
         refine HG.mono ?_
         rintro e w2 ⟨rfl, hb2⟩
         have c2 := hb1.trans (hb2.mono hb1.size)
         have HA := argU2_any (checkU l) ((growK t).u) x y w2 (hT.below c2 (Nat.le_refl _))
         rw [hc, hg] at HA
         have hne : (codeLN l t != 0) = true := (by simpa using h0)
         rw [HARG] at HA
         try unfold EN.u at HA
         unfold EU.val at HA
         try unfold errV at HA
         try unfold recV at HA
         generalize hC : codeLN l t = C at *
         have HCC := Lib.hid hC
         clear HARG h0 hC
         go_wp2_with fail
         refine HA.mono ?_
         rintro e w3 ⟨rfl, hb3⟩
         have c3 := c2.trans (hb3.mono c2.size)
         go_wp2_with fail
         go_ret2
         exact ⟨by rw [HRES.out, HCC.out]; rfl, c3⟩))
end Go.Proofs.YtjiljnfiofmpaaaGreatDoor.Recs

/- Apply, Changes of the model. -/

namespace Go.Proofs.YtjiljnfiofmpaaaGreatDoor.Recs
set_option maxRecDepth 100000
open Go.RowKit Paths

theorem emptyN (w : World) {base : Nat} (hb : base ≤ w.heap.size) : RowN (w.alloc (.cells #[] 29)) base (.slice (some ⟨w.heap.size, 0, none⟩) 0 0) ([] : List R).length [] := ⟨rfl, World.ownsRow_lit w #[] 0 hb (Nat.zero_le _) rfl, fun x hx => by cases hx⟩
theorem ln_long {l t : List R} (h : 4096 < l.length ∨ 4096 < t.length) : codeLN l t = 2 := if_pos h
theorem ln_bad {l t : List R} (h : ¬ (4096 < l.length ∨ 4096 < t.length)) (hb : layerOK l = false ∨ treeOK t = false) : codeLN l t = 1 := by
  unfold codeLN
  rw [if_neg h, if_neg]
  rcases hb with hb | hb <;> simp [hb]
theorem ln_fine {l t : List R} (h : ¬ (4096 < l.length ∨ 4096 < t.length)) (h1 : layerOK l = true) (h2 : treeOK t = true) : codeLN l t = 0 := by
  unfold codeLN
  rw [if_neg h, if_pos (by simp [h1, h2])]
theorem app_code {l t : List R} {c : Int} (h : codeLN l t = c) (hc : c ≠ 0) : appC l t = c ∧ appR l t = [] := by
  unfold appC appR
  rw [h, if_pos hc, if_pos hc]
  exact ⟨rfl, rfl⟩
theorem app_fine {l t : List R} (h : codeLN l t = 0) : appC l t = limC (applyL l t) ∧ appR l t = limL (applyL l t) := by
  unfold appC appR
  rw [h, if_neg (by decide), if_neg (by decide)]
  exact ⟨rfl, rfl⟩
theorem chg_code {l t : List R} {c : Int} (h : codeLN l t = c) (hc : c ≠ 0) : chgB l t = false := by
  unfold chgB
  rw [h, if_pos hc]
theorem chg_fine {l t : List R} (h : codeLN l t = 0) : chgB l t = !decide (applyL l t = t) := by
  unfold chgB
  rw [h, if_neg (by decide)]
theorem sn_long {LL : List (List R)} {t : List R} (h : 4096 < LL.length ∨ 4096 < t.length) : codeSN LL t = 2 := if_pos h
theorem sn_bad {LL : List (List R)} {t : List R} (h : ¬ (4096 < LL.length ∨ 4096 < t.length)) (hb : stackOK LL = false ∨ treeOK t = false) : codeSN LL t = 1 := by
  unfold codeSN
  rw [if_neg h, if_neg]
  rcases hb with hb | hb <;> simp [hb]
theorem sn_fine {LL : List (List R)} {t : List R} (h : ¬ (4096 < LL.length ∨ 4096 < t.length)) (h1 : stackOK LL = true) (h2 : treeOK t = true) : codeSN LL t = 0 := by
  unfold codeSN
  rw [if_neg h, if_pos (by simp [h1, h2])]
theorem all_code {LL : List (List R)} {t : List R} {c : Int} (h : codeSN LL t = c) (hc : c ≠ 0) : allC LL t = c ∧ allR LL t = [] := by
  unfold allC allR
  rw [h, if_pos hc, if_pos hc]
  exact ⟨rfl, rfl⟩
theorem all_fine {LL : List (List R)} {t : List R} (h : codeSN LL t = 0) : allC LL t = limC (applyAllL LL t) ∧ allR LL t = limL (applyAllL LL t) := by
  unfold allC allR
  rw [h, if_neg (by decide), if_neg (by decide)]
  exact ⟨rfl, rfl⟩
theorem s_code {LL : List (List R)} {c : Int} (h : codeS LL = c) (hc : c ≠ 0) : viewR LL = [] := by
  unfold viewR
  rw [h, if_pos hc]
theorem s_long {LL : List (List R)} (h : 4096 < LL.length) : codeS LL = 2 := if_pos h
theorem s_bad {LL : List (List R)} (h : ¬ 4096 < LL.length) (hb : stackOK LL = false) : codeS LL = 1 := by
  unfold codeS
  rw [if_neg h, hb]
  rfl
theorem s_fine {LL : List (List R)} (h : ¬ 4096 < LL.length) (h1 : stackOK LL = true) : codeS LL = 0 ∧ viewR LL = applyAllL LL [] := by
  have h0 : codeS LL = 0 := by
    unfold codeS
    rw [if_neg h, h1]
    rfl
  refine ⟨h0, ?_⟩
  unfold viewR
  rw [h0, if_neg (by decide)]

theorem chg_both {l t : List R} {c : Int} (h : codeLN l t = c) (hc : c ≠ 0) : chgB l t = false ∧ codeLN l t = c := ⟨chg_code h hc, h⟩
theorem StkSl.form {w : World} {v : Value} {LL : List (List R)} (h : StkSl w v LL) : ∃ A cap, v = .slice A LL.length cap := by
  obtain ⟨A, cap, rfl, _⟩ := h
  exact ⟨A, cap, rfl⟩

set_option maxHeartbeats 1000000 in
theorem apply_spec (v u : Value) (l t : List R) (base : Nat) (w : World) (h : RecSl w v l) (hn : RowN w base u t.length t) (hl : l.length ≤ 1048576) (htl : t.length ≤ 1048576) :
    Calls Tryz.prog 32 #[v, u] w fun e w' => ∃ z, e = .returned (.tuple #[z, .int .i64 (appC l t)]) ∧ Below w.heap.size w w' ∧ RowN w' w.heap.size z (appR l t).length (appR l t) := by
  obtain ⟨vA, vcap, rfl⟩ := h.form
  obtain ⟨uA, ucap, rfl⟩ := own_form hn.2.1
  have HOK := l03OK_any _ l w h hl
  by_cases h1 : 4096 < l.length
  · have hd : decide ((4096 : Int) < (l.length : Int)) = true := by simp; omega
    have HRES := Lib.hid (app_code (show codeLN l t = 2 from ln_long (.inl h1)) (by decide))
    clear h1
    go_enter Tryz.func32, Tryz.ntmps32
    go_wp2_with fail
    go_ret2
    exact ⟨_, by rw [HRES.out.1]; rfl, (Below.refl _ _).alloc (Nat.le_refl _) _, by rw [HRES.out.2]; exact emptyN _ (Nat.le_refl _)⟩
  have hd1 : decide ((4096 : Int) < (l.length : Int)) = false := by simp; omega
  by_cases h2 : 4096 < t.length
  · have hd : decide ((4096 : Int) < (t.length : Int)) = true := by simp; omega
    have HRES := Lib.hid (app_code (show codeLN l t = 2 from ln_long (.inr h2)) (by decide))
    clear h1 h2
    go_enter Tryz.func32, Tryz.ntmps32
    go_wp2_with fail
    go_ret2
    exact ⟨_, by rw [HRES.out.1]; rfl, (Below.refl _ _).alloc (Nat.le_refl _) _, by rw [HRES.out.2]; exact emptyN _ (Nat.le_refl _)⟩
  have hd2 : decide ((4096 : Int) < (t.length : Int)) = false := by simp; omega
  have h12 : ¬ (4096 < l.length ∨ 4096 < t.length) := by omega
  cases ho : layerOK l with
  | false =>
    have HRES := Lib.hid (app_code (ln_bad h12 (.inl ho)) (by decide))
    rw [ho] at HOK
    clear h1 h2 h12 ho
    go_enter Tryz.func32, Tryz.ntmps32
    go_wp2_with fail
    refine HOK.mono ?_
    rintro e w1 ⟨rfl, hb1⟩
    have c0 := hb1
    go_wp2_with fail
    go_ret2
    exact ⟨_, by rw [HRES.out.1]; rfl, (c0).alloc c0.size _, by rw [HRES.out.2]; exact emptyN _ c0.size⟩
  | true =>
    rw [ho] at HOK
    have HTK : ∀ w', Below w.heap.size w w' → Calls Tryz.prog 66 #[.slice uA t.length ucap] w' fun e w'' => e = .returned (.bool (treeOK t)) ∧ Below w'.heap.size w' w'' := fun w' hb => l04OK_any _ t w' (hn.below hb).sl htl
    cases hto : treeOK t with
    | false =>
      have HRES := Lib.hid (app_code (ln_bad h12 (.inr hto)) (by decide))
      rw [hto] at HTK
      clear h1 h2 h12 ho hto
      go_enter Tryz.func32, Tryz.ntmps32
      go_wp2_with fail
      refine HOK.mono ?_
      rintro e w1 ⟨rfl, hb1⟩
      go_wp2_with fail
      refine (HTK _ hb1).mono ?_
      rintro e w2 ⟨rfl, hb2⟩
      have c0 := hb1.trans (hb2.mono hb1.size)
      go_wp2_with fail
      go_ret2
      exact ⟨_, by rw [HRES.out.1]; rfl, (c0).alloc c0.size _, by rw [HRES.out.2]; exact emptyN _ c0.size⟩
    | true =>
      have HRES := Lib.hid (app_fine (ln_fine h12 ho hto))
      have HZ0 := Lib.hid (ln_fine h12 ho hto)
      have HTR := Lib.hid (tree_of hto)
      have HLO := Lib.hid ho
      rw [hto] at HTK
      clear h1 h2 h12 ho hto
      go_enter Tryz.func32, Tryz.ntmps32
      go_wp2_with fail
      refine HOK.mono ?_
      rintro e w1 ⟨rfl, hb1⟩
      go_wp2_with fail
      refine (HTK _ hb1).mono ?_
      rintro e w2 ⟨rfl, hb2⟩
      have c0 := hb1.trans (hb2.mono hb1.size)
      have HAP := l05Apply_any _ _ l t base w2 (h.below c0) (hn.below c0) (layer_is HLO.out).path HTR.out.sorted HTR.out.is.path (by have h1 := layer_16 HLO.out; have h2 := HTR.out.len; omega)
      clear HTK HOK
      go_wp2_with fail
      refine HAP.mono ?_
      rintro e w3 ⟨z, rfl, hb3, hrow, hz⟩
      have c3 := c0.trans (hb3.mono c0.size)
      obtain ⟨zg, zcap, rfl, _, _, _, _⟩ := notnil hrow hz
      have HR := Lib.hid hrow
      clear hrow hz
      by_cases h24 : 24 < (applyL l t).length
      · have hd : decide ((24 : Int) < ((applyL l t).length : Int)) = true := by simp; omega
        have HX : Hid (limC (applyL l t) = 7 ∧ limL (applyL l t) = []) := ⟨if_pos h24, if_pos h24⟩
        clear h24
        go_wp2_with fail
        go_ret2
        exact ⟨_, by rw [HRES.out.1, HX.out.1]; rfl, c3.alloc c3.size _, by rw [HRES.out.2, HX.out.2]; exact emptyN _ c3.size⟩
      · have hd : decide ((24 : Int) < ((applyL l t).length : Int)) = false := by simp; omega
        have HX : Hid (limC (applyL l t) = 0 ∧ limL (applyL l t) = applyL l t) := ⟨if_neg h24, if_neg h24⟩
        clear h24
        go_wp2_with fail
        go_ret2
        exact ⟨_, by rw [HRES.out.1, HX.out.1]; rfl, c3, by rw [HRES.out.2, HX.out.2]; exact HR.out.down c0.size⟩

set_option maxHeartbeats 1000000 in
theorem changes_spec (v u : Value) (l t : List R) (base : Nat) (w : World) (h : RecSl w v l) (hn : RowN w base u t.length t) (hl : l.length ≤ 1048576) (htl : t.length ≤ 1048576) :
    Calls Tryz.prog 55 #[v, u] w fun e w' => e = .returned (.tuple #[.bool (chgB l t), .int .i64 (codeLN l t)]) ∧ Below w.heap.size w w' := by
  obtain ⟨vA, vcap, rfl⟩ := h.form
  obtain ⟨uA, ucap, rfl⟩ := own_form hn.2.1
  have HOK := l03OK_any _ l w h hl
  by_cases h1 : 4096 < l.length
  · have hd : decide ((4096 : Int) < (l.length : Int)) = true := by simp; omega
    have HRES := Lib.hid (chg_both (show codeLN l t = 2 from ln_long (.inl h1)) (by decide))
    clear h1
    go_enter Tryz.func55, Tryz.ntmps55
    go_wp2_with fail
    go_ret2
    exact ⟨by rw [HRES.out.1, HRES.out.2]; rfl, Below.refl _ _⟩
  have hd1 : decide ((4096 : Int) < (l.length : Int)) = false := by simp; omega
  by_cases h2 : 4096 < t.length
  · have hd : decide ((4096 : Int) < (t.length : Int)) = true := by simp; omega
    have HRES := Lib.hid (chg_both (show codeLN l t = 2 from ln_long (.inr h2)) (by decide))
    clear h1 h2
    go_enter Tryz.func55, Tryz.ntmps55
    go_wp2_with fail
    go_ret2
    exact ⟨by rw [HRES.out.1, HRES.out.2]; rfl, Below.refl _ _⟩
  have hd2 : decide ((4096 : Int) < (t.length : Int)) = false := by simp; omega
  have h12 : ¬ (4096 < l.length ∨ 4096 < t.length) := by omega
  cases ho : layerOK l with
  | false =>
    have HRES := Lib.hid (chg_both (ln_bad h12 (.inl ho)) (by decide))
    rw [ho] at HOK
    clear h1 h2 h12 ho
    go_enter Tryz.func55, Tryz.ntmps55
    go_wp2_with fail
    refine HOK.mono ?_
    rintro e w1 ⟨rfl, hb1⟩
    have c0 := hb1
    go_wp2_with fail
    go_ret2
    exact ⟨by rw [HRES.out.1, HRES.out.2]; rfl, c0⟩
  | true =>
    rw [ho] at HOK
    have HTK : ∀ w', Below w.heap.size w w' → Calls Tryz.prog 66 #[.slice uA t.length ucap] w' fun e w'' => e = .returned (.bool (treeOK t)) ∧ Below w'.heap.size w' w'' := fun w' hb => l04OK_any _ t w' (hn.below hb).sl htl
    cases hto : treeOK t with
    | false =>
      have HRES := Lib.hid (chg_both (ln_bad h12 (.inr hto)) (by decide))
      rw [hto] at HTK
      clear h1 h2 h12 ho hto
      go_enter Tryz.func55, Tryz.ntmps55
      go_wp2_with fail
      refine HOK.mono ?_
      rintro e w1 ⟨rfl, hb1⟩
      go_wp2_with fail
      refine (HTK _ hb1).mono ?_
      rintro e w2 ⟨rfl, hb2⟩
      have c0 := hb1.trans (hb2.mono hb1.size)
      go_wp2_with fail
      go_ret2
      exact ⟨by rw [HRES.out.1, HRES.out.2]; rfl, c0⟩
    | true =>
      have HRES := Lib.hid (chg_fine (ln_fine h12 ho hto))
      have HZ0 := Lib.hid (ln_fine h12 ho hto)
      have HTR := Lib.hid (tree_of hto)
      have HLO := Lib.hid ho
      rw [hto] at HTK
      clear h1 h2 h12 ho hto
      go_enter Tryz.func55, Tryz.ntmps55
      go_wp2_with fail
      refine HOK.mono ?_
      rintro e w1 ⟨rfl, hb1⟩
      go_wp2_with fail
      refine (HTK _ hb1).mono ?_
      rintro e w2 ⟨rfl, hb2⟩
      have c0 := hb1.trans (hb2.mono hb1.size)
      have HAP := l05Apply_any _ _ l t base w2 (h.below c0) (hn.below c0) (layer_is HLO.out).path HTR.out.sorted HTR.out.is.path (by have h1 := layer_16 HLO.out; have h2 := HTR.out.len; omega)
      clear HTK HOK
      go_wp2_with fail
      refine HAP.mono ?_
      rintro e w3 ⟨z, rfl, hb3, hrow, hz⟩
      have c3 := c0.trans (hb3.mono c0.size)
      have HSA := l04Same_any z _ (applyL l t) t w3 hrow.sl (hn.below c3).sl (by have h1 := layer_16 HLO.out; have h2 := HTR.out.len; have h3 := apply_le l t; omega)
      clear hrow hz
      go_wp2_with fail
      refine HSA.mono ?_
      rintro e w4 ⟨rfl, n4, rfl⟩
      go_wp2_with fail
      go_ret2
      exact ⟨by rw [HRES.out, HZ0.out]; rfl, below_drewN c3 n4⟩

theorem lim_le (T : List R) : (limL T).length ≤ 24 := by
  unfold limL
  split
  · simp
  · omega
theorem app_len (l t : List R) (_h : t.length ≤ 1048576) : (appR l t).length ≤ 1048576 := by
  unfold appR
  split
  · simp
  · have := lim_le (applyL l t); omega
end Go.Proofs.YtjiljnfiofmpaaaGreatDoor.Recs
