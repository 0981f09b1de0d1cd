/- Parts of several texts of mine in one file (each begins with its own remark). -/
import Derived.Test.YtibekkfbpmloiabGreatDoorGA1
import Derived.Test.YtibekkfbpmloiabGreatDoorGA12
import Derived.Test.YtibekkfbpmloiabGreatDoorGA14
import Derived.Test.YtibekkfbpmloiabGreatDoorGA15
import Derived.Test.YtibekkfbpmloiabGreatDoorGA16
import Derived.Test.YtibekkfbpmloiabGreatDoorGA2
import Derived.Test.YtibekkfbpmloiabGreatDoorGA3
import Derived.Test.YtibekkfbpmloiabGreatDoorGA4
import Derived.Test.YtibekkfbpmloiabGreatDoorGA5
import Derived.Test.YtibekkfbpmloiabGreatDoorGA6
import Derived.Test.YtibekkfbpmloiabGreatDoorGA7
import Derived.Test.YtibekkfbpmloiabGreatDoorGA8
import Derived.Test.YtibekkfbpmloiabGreatDoorGA9
import Derived.Test.YtibekkfbpmloiabGreatDoorChecked
import Derived.Test.YtibekkfbpmloiabGreatDoorShelf
import Derived.Test.YtibekkfbpmloiabGreatDoorProg
import Derived.Test.YtibekkfbpmloiabGreatDoorRows
import Derived.Deep.RegionLaw
import Derived.Stop.LaidErr
import Derived.StillTailTactics
import Derived.Laws.OwnMore
import Derived.BigQuiet
import Derived.BigRegion
import Derived.Deep.QuietTactic
import Derived.Deep.RegionHeld3
import Derived.Deep.Slices
import Derived.OpenShut
import Derived.ShutString
import Derived.ChangeArms
import Derived.WideShapes
import Derived.Lib.LaidTab
import Derived.Deep.Draws
import Derived.Deep.LoopGhost
import Derived.WalkKit
import Derived.WalkSpells
import Derived.WalkSmall
import Derived.Lib.OthersKept
import Derived.Lib.Hide
import Derived.Lib.Strings
import Derived.Lib.Join
import Derived.Laws.BytesArg
import Derived.WalkLawsBesides
import Derived.LaidEql
import Derived.Stop.Asserts
import Derived.Below
import Derived.Stop.LaidTwo
import Derived.ChangeVars
import Derived.Deep.DeepHandedRow
/- Combining two layers, of the model. -/
namespace Go.Proofs.YtibekkfbpmloiabGreatDoor.Recs
set_option maxRecDepth 100000
open Go.RowKit Paths Errs

theorem step_append_rec {P : Program} (w : World) {ops : Array Oper} {o : Oper} {a : Act} {K : Act → World → Prop} {Q : Exit → Act → World → Prop} {E : Prop} (hgd : o.guard = none) (s x : Operand) (t : TypeId)
    (ho : o.op = .call { callee := .builtin .append, args := #[s, x], argTypes := #[t, t] })
    (base : Nat) (e : TypeId) (i : TypeInfo) (z : Value) (size bytes : Nat) (ht : P.underlying t = some (.slice e)) (hi : P.info? e = some i) (hz : i.zero = some z)
    (hsize : i.size = size) (hby : i.bytes = bytes) (hzs : z.cells.size = size) (hsz : 0 < size)
    (v : Value) (n : Nat) (xs : List Value) (hs : a.eval s = v) (hown : w.ownsRow base e size v n xs)
    (ad : Addr) (m c : Nat) (news : List Value) (hx : a.eval x = .slice (some ad) m c) (hl : news.length = m * size) (hnews : ∀ j u, news[j]? = some u → w.cell? (ad.add j) = some u) (h1 : ∀ u ∈ news, u.oneCell' = true)
    (h63 : n + m ≤ maxLen) (hbytes : (n + m) * bytes ≤ 140737488355328) (hbase : base ≤ w.heap.size)
    (h : ∀ v' w', w'.ownsRow base e size v' (n + m) (xs ++ news) → w.grownBy w' v.ownBlock → (v' = .slice none 0 0 ↔ v = .slice none 0 0 ∧ m = 0) → K (a.put o.dst v') w') :
    if Region.wanted o (yielded ops a.tmps) = true then Oper.wp P o a w K Q else E := by
  have hw : Region.wanted o (yielded ops a.tmps) = true := by simp [Region.wanted, hgd]
  rw [if_pos hw]
  exact wp_append_own w s x t ho base e i z size bytes ht hi hz hsize hby hzs hsz v n xs hs hown ad m c news hx hl hnews h1 h63 hbytes hbase h
theorem path_64 {p : ByteArray} (h : pathB p.data.toList = true) : p.size ≤ 65536 := by
  have := path_short h
  omega
theorem over_any (x y : R) (w : World) :
    Calls Tryz.prog 198 #[x.val, y.val] w fun e w' => e = .returned (overR x y).val ∧ Below w.heap.size w w' := by
  have HST := l06Stops_any x
  obtain ⟨xk, xm, xp, xb, xo⟩ := x
  obtain ⟨rk, rm, rp, rb, ro⟩ := y
  unfold R.val at HST ⊢
  dsimp only at HST ⊢
  have hbA : Below w.heap.size w (((w.alloc (.cells #[.int .i64 xk, .string xp, .string xb, .int .i64 xm, .bool xo] 53)).alloc (.cells #[.int .i64 rk, .string rp, .string rb, .int .i64 rm, .bool ro] 53)).alloc (.cells #[.int .i64 0, .string ByteArray.empty, .string ByteArray.empty, .int .i64 0, .bool false] 53)) := (((Below.refl _ _).alloc (Nat.le_refl _) _).alloc (by simp) _).alloc (by simp; omega) _
  by_cases h3 : rk = 3
  · have q3 : (rk == 3) = true := by simp [h3]
    cases hs : stops ⟨xk, xm, xp, xb, xo⟩ with
    | true =>
      have HE : Hid (overR ⟨xk, xm, xp, xb, xo⟩ ⟨rk, rm, rp, rb, ro⟩ = ⟨rk, rm, rp, rb, true⟩) := if_pos ⟨h3, hs⟩
      rw [hs] at HST
      clear h3 hs
      go_enter Tryz.func198, Tryz.ntmps198
      go_wp2_with fail
      refine (HST _).mono ?_
      rintro e w1 ⟨rfl, hb1⟩
      obtain ⟨hc1, hf1⟩ := bcell hb1
      have hz1 : w.heap.size + 2 < w1.heap.size := by have := hb1.size; simp at this; omega
      have c1 := hbA.trans (hb1.mono hbA.size)
      go_wp2_with fail
      refine bodyPost_ret (v := .agg #[.int .i64 rk, .string rp, .string rb, .int .i64 rm, .bool true]) (by simp [results, Tryz.results198, go_sem, hc1]) rfl ⟨by rw [HE.out], ?_⟩
      repeat (refine Below.setCell ?_ (by simp; try omega) _)
      exact c1
    | false =>
      have HE : Hid (overR ⟨xk, xm, xp, xb, xo⟩ ⟨rk, rm, rp, rb, ro⟩ = ⟨rk, rm, rp, rb, ro⟩) := if_neg (fun h => by rw [hs] at h; cases h.2)
      rw [hs] at HST
      clear h3 hs
      go_enter Tryz.func198, Tryz.ntmps198
      go_wp2_with fail
      refine (HST _).mono ?_
      rintro e w1 ⟨rfl, hb1⟩
      obtain ⟨hc1, hf1⟩ := bcell hb1
      have hz1 : w.heap.size + 2 < w1.heap.size := by have := hb1.size; simp at this; omega
      have c1 := hbA.trans (hb1.mono hbA.size)
      go_wp2_with fail
      refine bodyPost_ret (v := .agg #[.int .i64 rk, .string rp, .string rb, .int .i64 rm, .bool ro]) (by simp [results, Tryz.results198, go_sem, hc1]) rfl ⟨by rw [HE.out], ?_⟩
      repeat (refine Below.setCell ?_ (by simp; try omega) _)
      exact c1
  · have q3 : (rk == 3) = false := by simp [h3]
    have HE : Hid (overR ⟨xk, xm, xp, xb, xo⟩ ⟨rk, rm, rp, rb, ro⟩ = ⟨rk, rm, rp, rb, ro⟩) := if_neg (fun h => h3 h.1)
    clear h3
    go_enter Tryz.func198, Tryz.ntmps198
    go_wp2_with fail
    refine bodyPost_ret (v := .agg #[.int .i64 rk, .string rp, .string rb, .int .i64 rm, .bool ro]) (by simp [results, Tryz.results198, go_sem]) rfl ⟨by rw [HE.out], ?_⟩
    exact (((Below.refl _ _).alloc (Nat.le_refl _) _).alloc (by simp) _).alloc (by simp; omega) _

set_option maxHeartbeats 6400000 in
theorem l06Two_any (v1 v2 : Value) (L U : List R) (w : World) (h1 : RecSl w v1 L) (h2 : RecSl w v2 U) (hL : Fine L) (hU : Fine U) (hl : L.length + U.length ≤ 1024) :
    Calls Tryz.prog 146 #[v1, v2] w fun e w' => ∃ x, e = .returned x ∧ Below w.heap.size w w' ∧ RowOf w' w.heap.size x (squashL L U).length (squashL L U) := by
  obtain ⟨i0, hi, hI0, hI1, hI2⟩ := info_parts recInfo
  have hpL : ∀ r ∈ L, pathB r.p.data.toList = true := hL.layer.path
  have hpU : ∀ r ∈ U, pathB r.p.data.toList = true := hU.layer.path
  have HCU : Hid (∀ r ∈ L, ∀ w', Below w.heap.size w w' → Calls Tryz.prog 163 #[v2, .string r.p] w' fun e w'' => e = .returned (.bool (cutsL U r.p)) ∧ Below w'.heap.size w' w'') := fun r hm w' hb => l06Cuts_any v2 U r.p w' (h2.below hb) (by omega) (hpL r hm)
  have HLS : Hid (∀ x ∈ L, ∀ y ∈ U, ∀ w', Calls Tryz.prog 76 #[.string x.p, .string y.p] w' fun e w'' => e = .returned (.bool (lessR x y)) ∧ Below w'.heap.size w' w'') := fun x hx y hy w' => l01Less_any x.p y.p w' (path_64 (hpL x hx)) (path_64 (hpU y hy))
  have HLT : Hid (∀ x ∈ L, ∀ y ∈ U, ∀ w', Calls Tryz.prog 76 #[.string y.p, .string x.p] w' fun e w'' => e = .returned (.bool (lessR y x)) ∧ Below w'.heap.size w' w'') := fun x hx y hy w' => l01Less_any y.p x.p w' (path_64 (hpU y hy)) (path_64 (hpL x hx))
  have HF2 := Lib.hid (two_fine hL hU)
  obtain ⟨a1, cap1, rfl, hcap1, hs1⟩ := h1
  obtain ⟨a2, cap2, rfl, hcap2, hs2⟩ := h2
  have HS1 := Lib.hid hs1
  have HS2 := Lib.hid hs2
  clear hpL hpU hL hU hs1 hs2
  have hown0 : (w.alloc (.cells #[] 53)).ownsRow w.heap.size 53 5 (.slice (some ⟨w.heap.size, 0, none⟩) 0 0) 0 [] := World.ownsRow_lit w #[] 0 (Nat.le_refl _) (Nat.zero_le _) rfl
  go_enter Tryz.func146, Tryz.ntmps146
  go_wp2
  go_loopw [5, 6, 7] (fun f iv kv wr => ∃ (i k : Nat) (M : List R), i ≤ L.length ∧ k ≤ U.length ∧ iv = .int .i64 i ∧ kv = .int .i64 k ∧ M.length ≤ i + k ∧ RowOf wr w.heap.size f M.length M ∧ Hid (two L U = M ++ twoL U (L.drop i) (U.drop k)) ∧ Below w.heap.size w wr) (fun _ iv kv _ => (L.length - (intOf iv).toNat) + (U.length - (intOf kv).toNat))
  case atStart => exact ⟨0, 0, [], by omega, by omega, rfl, rfl, by simp, ⟨rfl, hown0⟩, rfl, (Below.refl _ _).alloc (Nat.le_refl _) _⟩
  case round =>
    obtain ⟨i, k, M, hil, hkl, rfl, rfl, hMik, hrow, HD, hbw⟩ := hrel
    obtain ⟨fA, fcap, rfl⟩ := hrow.form
    have hszr := hbw.size
    have hMl : M.length ≤ 1024 := by omega
    have hi0 : (0 : Int) ≤ (i : Int) := by omega
    have hk0 : (0 : Int) ≤ (k : Int) := by omega
    by_cases hlt2 : k < U.length
    · have HUy : Hid (U.drop k = U[k] :: U.drop (k + 1)) := List.drop_eq_getElem_cons hlt2
      have hym := List.getElem_mem hlt2
      obtain ⟨b2, off2, rfl, hb2, hcell2⟩ := HS2.out (by omega)
      have HY : Hid (∀ W, Below w.heap.size w W → RecCells W b2 (off2 + k * 5) U[k]) := fun W hW => (hcell2 k U[k] (by simp [hlt2])).below hW hb2
      clear hcell2
      have hy1 : (k : Int) < (U.length : Int) := by omega
      have hdy : decide ((k : Int) < (U.length : Int)) = true := by simp; omega
      have hey : ((k : Int) == (U.length : Int)) = false := by simp; omega
      by_cases hlt1 : i < L.length
      · have HLx : Hid (L.drop i = L[i] :: L.drop (i + 1)) := List.drop_eq_getElem_cons hlt1
        have hxm := List.getElem_mem hlt1
        obtain ⟨b1, off1, rfl, hb1, hcell1⟩ := HS1.out (by omega)
        have HX : Hid (∀ W, Below w.heap.size w W → RecCells W b1 (off1 + i * 5) L[i]) := fun W hW => (hcell1 i L[i] (by simp [hlt1])).below hW hb1
        clear hcell1
        have hx1 : (i : Int) < (L.length : Int) := by omega
        have hdx : decide ((i : Int) < (L.length : Int)) = true := by simp; omega
        have hex : ((i : Int) == (L.length : Int)) = false := by simp; omega
        have HLE := fun W => HLS.out L[i] hxm U[k] hym W
        rcases Bool.eq_false_or_eq_true (lessR L[i] U[k]) with hls | hls
        · rw [hls] at HLE
          obtain ⟨_, x1, _, _, _⟩ := HX.out _ hbw
          obtain ⟨_, y1, _, _, _⟩ := HY.out _ hbw
          have hgr1 : b1 < wr.heap.size := by have := hbw.size; omega
          have hgr2 : b2 < wr.heap.size := by have := hbw.size; omega
          go_wp2
          go_region_held3 (fun w' => w'.cell? ⟨b1, off1 + i * 5 + 1, none⟩ = some (.string L[i].p) ∧ w'.cell? ⟨b2, off2 + k * 5 + 1, none⟩ = some (.string U[k].p)) (first | exact ⟨x1, y1⟩ | exact ⟨(hb3.cell (p := ⟨b1, off1 + i * 5 + 1, none⟩) hgr1).trans x1, (hb3.cell (p := ⟨b2, off2 + k * 5 + 1, none⟩) hgr2).trans y1⟩ | go_keep) (first | (go_at_call 76; refine (HLE _).mono ?_; rintro e wt ⟨rfl, hb3⟩))
          have ht : Below w.heap.size w wt := hbw.drew.trans (hb3.mono hbw.size)
          have hrt : RowOf wt w.heap.size (.slice fA M.length fcap) M.length M := (hrow.below (Below.refl _ _).drew).below hb3
          clear x1 y1 hgr1 hgr2 hb3
          have HC := HCU.out L[i] hxm _ ht
          obtain ⟨c0, c1, c2, c3, c4⟩ := HX.out _ ht
          rcases Bool.eq_false_or_eq_true (cutsL U L[i].p) with hc | hc
          · have HN : Hid (two L U = M ++ twoL U (L.drop (i + 1)) (U.drop k)) := HD.out.trans (by rw [HLx.out, HUy.out, two_cut1 hls hc])
            rw [hc] at HC
            go_wp2_with fail
            refine HC.mono ?_
            rintro e w5 ⟨rfl, hb5⟩
            have d5 := ht.trans (hb5.mono ht.size)
            have hr5 := hrt.below hb5
            go_wp2_with fail
            exact ⟨⟨i + 1, k, M, by omega, by omega, by go_num, rfl, by omega, hr5, HN, d5⟩, by simp [intOf]; omega⟩
          · have HN : Hid (two L U = M ++ [L[i]] ++ twoL U (L.drop (i + 1)) (U.drop k)) := HD.out.trans (by rw [HLx.out, HUy.out, two_take1 hls hc]; simp)
            rw [hc] at HC
            go_wp2_with fail
            refine HC.mono ?_
            rintro e w5 ⟨rfl, hb5⟩
            have d5 := ht.trans (hb5.mono ht.size)
            have hr5 := hrt.below hb5
            clear c0 c1 c2 c3 c4
            obtain ⟨c0, c1, c2, c3, c4⟩ := HX.out _ d5
            have hr3 : (w5.alloc (.cells #[.int .i64 L[i].k, .string L[i].p, .string L[i].b, .int .i64 L[i].m, .bool L[i].o] 53)).ownsRow w.heap.size 53 5 (.slice fA M.length fcap) M.length (flat M) := hr5.2.alloc _
            have hnews := rec_cells_new w5 L[i] 53
            have hone := rec_one L[i]
            have hbz : w.heap.size ≤ (w5.alloc (.cells #[.int .i64 L[i].k, .string L[i].p, .string L[i].b, .int .i64 L[i].m, .bool L[i].o] 53)).heap.size := (d5.alloc d5.size _).size
            go_wp2_with (first
              | (at_builtin; refine wpList_append_own _ rfl _ _ 27 rfl w.heap.size 53 i0 (.agg #[.int .i64 0, .string ByteArray.empty, .string ByteArray.empty, .int .i64 0, .bool false]) 5 56 Tryz.underlying27 hi hI0 hI1 hI2 rfl (by decide) _ _ _ rfl hr3 ⟨w5.heap.size, 0, none⟩ 1 1 (R.cs L[i]) rfl rfl hnews hone (by unfold maxLen; omega) (by omega) hbz ?_; intro v' w9 hown' hgrow9 hnil9))
            have hrow9 := row_snoc hown'
            have hb9 : Below w.heap.size w w9 := (d5.alloc d5.size _).grown hgrow9 hbz (fun j hj => (hrow.2.lt j hj).1)
            exact ⟨⟨i + 1, k, M ++ [L[i]], by omega, by omega, by go_num, rfl, by simp; omega, hrow9, HN, hb9⟩, by simp [intOf]; omega⟩
        rw [hls] at HLE
        have HLF := fun W => HLT.out L[i] hxm U[k] hym W
        rcases Bool.eq_false_or_eq_true (lessR U[k] L[i]) with hlt | hlt
        · have HNE : Hid (L[i].p ≠ U[k].p) := fun e => less_ne hlt e.symm
          have HNL := Lib.hid hls
          rw [hlt] at HLF
          obtain ⟨_, x1, _, _, _⟩ := HX.out _ hbw
          obtain ⟨_, y1, _, _, _⟩ := HY.out _ hbw
          have hgr1 : b1 < wr.heap.size := by have := hbw.size; omega
          have hgr2 : b2 < wr.heap.size := by have := hbw.size; omega
          go_wp2
          go_region_held3 (fun w' => w'.cell? ⟨b1, off1 + i * 5 + 1, none⟩ = some (.string L[i].p) ∧ w'.cell? ⟨b2, off2 + k * 5 + 1, none⟩ = some (.string U[k].p)) (first | exact ⟨x1, y1⟩ | exact ⟨(hb3.cell (p := ⟨b1, off1 + i * 5 + 1, none⟩) hgr1).trans x1, (hb3.cell (p := ⟨b2, off2 + k * 5 + 1, none⟩) hgr2).trans y1⟩ | go_keep) (first | (go_at_call 76; refine (HLE _).mono ?_; rintro e w3 ⟨rfl, hb3⟩))
          have d3 : Below w.heap.size w w3 := hbw.drew.trans (hb3.mono hbw.size)
          have hr3 : RowOf w3 w.heap.size (.slice fA M.length fcap) M.length M := (hrow.below (Below.refl _ _).drew).below hb3
          clear x1 y1 hgr1 hgr2 hb3
          obtain ⟨_, x1, _, _, _⟩ := HX.out _ d3
          obtain ⟨_, y1, _, _, _⟩ := HY.out _ d3
          have hgr1 : b1 < w3.heap.size := by have := d3.size; omega
          have hgr2 : b2 < w3.heap.size := by have := d3.size; omega
          go_wp2
          go_region_held3 (fun w' => w'.cell? ⟨b1, off1 + i * 5 + 1, none⟩ = some (.string L[i].p) ∧ w'.cell? ⟨b2, off2 + k * 5 + 1, none⟩ = some (.string U[k].p)) (first | exact ⟨x1, y1⟩ | exact ⟨(hb3.cell (p := ⟨b1, off1 + i * 5 + 1, none⟩) hgr1).trans x1, (hb3.cell (p := ⟨b2, off2 + k * 5 + 1, none⟩) hgr2).trans y1⟩ | go_keep) (first | (go_at_call 76; refine (HLF _).mono ?_; rintro e wt ⟨rfl, hb3⟩))
          have ht : Below w.heap.size w wt := d3.drew.trans (hb3.mono d3.size)
          have hrt : RowOf wt w.heap.size (.slice fA M.length fcap) M.length M := (hr3.below (Below.refl _ _).drew).below hb3
          clear x1 y1 hgr1 hgr2 hb3
          obtain ⟨e0, e1, e2, e3, e4⟩ := HY.out _ ht
          have HN : Hid (two L U = M ++ [U[k]] ++ twoL U (L.drop i) (U.drop (k + 1))) := HD.out.trans (by rw [HLx.out, HUy.out, two_high HNL.out HNE.out]; simp)
          have hr3 : (wt.alloc (.cells #[.int .i64 U[k].k, .string U[k].p, .string U[k].b, .int .i64 U[k].m, .bool U[k].o] 53)).ownsRow w.heap.size 53 5 (.slice fA M.length fcap) M.length (flat M) := hrt.2.alloc _
          have hnews := rec_cells_new wt U[k] 53
          have hone := rec_one U[k]
          have hbz : w.heap.size ≤ (wt.alloc (.cells #[.int .i64 U[k].k, .string U[k].p, .string U[k].b, .int .i64 U[k].m, .bool U[k].o] 53)).heap.size := (ht.alloc ht.size _).size
          go_wp2_with (first
            | (at_builtin; refine wpList_append_own _ rfl _ _ 27 rfl w.heap.size 53 i0 (.agg #[.int .i64 0, .string ByteArray.empty, .string ByteArray.empty, .int .i64 0, .bool false]) 5 56 Tryz.underlying27 hi hI0 hI1 hI2 rfl (by decide) _ _ _ rfl hr3 ⟨wt.heap.size, 0, none⟩ 1 1 (R.cs U[k]) rfl rfl hnews hone (by unfold maxLen; omega) (by omega) hbz ?_; intro v' w9 hown' hgrow9 hnil9))
          have hrow9 := row_snoc hown'
          have hb9 : Below w.heap.size w w9 := (ht.alloc ht.size _).grown hgrow9 hbz (fun j hj => (hrow.2.lt j hj).1)
          exact ⟨⟨i, k + 1, M ++ [U[k]], by omega, by omega, rfl, by go_num, by simp; omega, hrow9, HN, hb9⟩, by simp [intOf]; omega⟩
        · have HEQ : Hid (L[i].p = U[k].p) := (by
            refine Classical.byContradiction fun hne => ?_
            rcases less_or hne with h | h
            · rw [hls] at h; cases h
            · rw [hlt] at h; cases h)
          rw [hlt] at HLF
          clear hls hlt
          obtain ⟨_, x1, _, _, _⟩ := HX.out _ hbw
          obtain ⟨_, y1, _, _, _⟩ := HY.out _ hbw
          have hgr1 : b1 < wr.heap.size := by have := hbw.size; omega
          have hgr2 : b2 < wr.heap.size := by have := hbw.size; omega
          go_wp2
          go_region_held3 (fun w' => w'.cell? ⟨b1, off1 + i * 5 + 1, none⟩ = some (.string L[i].p) ∧ w'.cell? ⟨b2, off2 + k * 5 + 1, none⟩ = some (.string U[k].p)) (first | exact ⟨x1, y1⟩ | exact ⟨(hb3.cell (p := ⟨b1, off1 + i * 5 + 1, none⟩) hgr1).trans x1, (hb3.cell (p := ⟨b2, off2 + k * 5 + 1, none⟩) hgr2).trans y1⟩ | go_keep) (first | (go_at_call 76; refine (HLE _).mono ?_; rintro e w3 ⟨rfl, hb3⟩))
          have d3 : Below w.heap.size w w3 := hbw.drew.trans (hb3.mono hbw.size)
          have hr3 : RowOf w3 w.heap.size (.slice fA M.length fcap) M.length M := (hrow.below (Below.refl _ _).drew).below hb3
          clear x1 y1 hgr1 hgr2 hb3
          obtain ⟨_, x1, _, _, _⟩ := HX.out _ d3
          obtain ⟨_, y1, _, _, _⟩ := HY.out _ d3
          have hgr1 : b1 < w3.heap.size := by have := d3.size; omega
          have hgr2 : b2 < w3.heap.size := by have := d3.size; omega
          go_wp2
          go_region_held3 (fun w' => w'.cell? ⟨b1, off1 + i * 5 + 1, none⟩ = some (.string L[i].p) ∧ w'.cell? ⟨b2, off2 + k * 5 + 1, none⟩ = some (.string U[k].p)) (first | exact ⟨x1, y1⟩ | exact ⟨(hb3.cell (p := ⟨b1, off1 + i * 5 + 1, none⟩) hgr1).trans x1, (hb3.cell (p := ⟨b2, off2 + k * 5 + 1, none⟩) hgr2).trans y1⟩ | go_keep) (first | (go_at_call 76; refine (HLF _).mono ?_; rintro e w4 ⟨rfl, hb3⟩))
          have d4 : Below w.heap.size w w4 := d3.drew.trans (hb3.mono d3.size)
          have hr4 : RowOf w4 w.heap.size (.slice fA M.length fcap) M.length M := (hr3.below (Below.refl _ _).drew).below hb3
          clear x1 y1 hgr1 hgr2 hb3
          have HN : Hid (two L U = M ++ [overR L[i] U[k]] ++ twoL U (L.drop (i + 1)) (U.drop (k + 1))) := HD.out.trans (by rw [HLx.out, HUy.out, two_eq HEQ.out]; simp)
          have HO := fun W => over_any L[i] U[k] W
          unfold R.val at HO
          generalize overR L[i] U[k] = z at *
          obtain ⟨x0, x1, x2, x3, x4⟩ := HX.out _ d4
          obtain ⟨y0, y1, y2, y3, y4⟩ := HY.out _ d4
          have HR3 : Hid (∀ w6, Below w4.heap.size w4.drew w6 → Below w.heap.size w (w6.alloc (.cells #[.int .i64 z.k, .string z.p, .string z.b, .int .i64 z.m, .bool z.o] 53)) ∧ (w6.alloc (.cells #[.int .i64 z.k, .string z.p, .string z.b, .int .i64 z.m, .bool z.o] 53)).ownsRow w.heap.size 53 5 (.slice fA M.length fcap) M.length (flat M) ∧ w.heap.size ≤ (w6.alloc (.cells #[.int .i64 z.k, .string z.p, .string z.b, .int .i64 z.m, .bool z.o] 53)).heap.size ∧ ∀ j u, (R.cs z)[j]? = some u → (w6.alloc (.cells #[.int .i64 z.k, .string z.p, .string z.b, .int .i64 z.m, .bool z.o] 53)).cell? ((⟨w6.heap.size, 0, none⟩ : Addr).add j) = some u) := fun w6 hb6 => (by
            have e1 : Below w.heap.size w w6 := d4.drew.trans (hb6.mono d4.size)
            exact ⟨e1.alloc e1.size _, (((hr4.below (Below.refl _ _).drew).below hb6).2.alloc _), (e1.alloc e1.size _).size, rec_cells_new w6 z _⟩)
          have HOh := Lib.hid HO
          have hone := rec_one z
          clear HO
          go_wp2
          go_region_law (first
            | (refine step_append_rec _ (by rfl) (.tmp 19) (.tmp 29) 27 (by rfl) w.heap.size 53 i0 (.agg #[.int .i64 0, .string ByteArray.empty, .string ByteArray.empty, .int .i64 0, .bool false]) 5 56 Tryz.underlying27 hi hI0 hI1 hI2 rfl (by decide) (.slice fA M.length fcap) M.length (flat M) (by simp [Act.eval]) hr3 ⟨w6.heap.size, 0, none⟩ 1 1 (R.cs z) (by simp [Act.eval]) rfl hnews hone (by unfold maxLen; omega) (by omega) hbz ?_; intro v' w9 hown' hgrow9 hnil9; have HR9 := Lib.hid (row_snoc hown'); have hb9 : Below w.heap.size w w9 := e2.grown hgrow9 hbz (fun j hj => (hrow.2.lt j hj).1); clear hown' hgrow9 hnil9)
            | (go_simp; go_at_call 198; refine (HOh.out _).mono ?_; rintro e w6 ⟨rfl, hb6⟩; obtain ⟨e2, hr3, hbz, hnews⟩ := HR3.out w6 (by simpa using hb6)))
          all_goals (go_wp2; exact ⟨⟨i + 1, k + 1, M ++ [z], by omega, by omega, by go_num, by go_num, by simp; omega, HR9.out, HN, hb9⟩, by simp [intOf]; omega⟩)
      · have hie : i = L.length := by omega
        have HLx : Hid (L.drop i = []) := List.drop_eq_nil_of_le (by omega)
        have hdx : decide ((i : Int) < (L.length : Int)) = false := by simp; omega
        have hex : ((i : Int) == (L.length : Int)) = true := by simp; omega
        clear hie
        go_wp2
        go_quiet (fail)
        have hq : Below w.heap.size w (wr.drewN nq) := below_drewN hbw nq
        have hrq : RowOf (wr.drewN nq) w.heap.size (.slice fA M.length fcap) M.length M := hrow.below (below_drewN (Below.refl _ _) nq)
        generalize wr.drewN nq = wq at *
        go_wp2
        go_quiet (fail)
        have ht : Below w.heap.size w (wq.drewN nq) := below_drewN hq nq
        have hrt : RowOf (wq.drewN nq) w.heap.size (.slice fA M.length fcap) M.length M := hrq.below (below_drewN (Below.refl _ _) nq)
        generalize wq.drewN nq = wt at *
        obtain ⟨e0, e1, e2, e3, e4⟩ := HY.out _ ht
        have HN : Hid (two L U = M ++ [U[k]] ++ twoL U (L.drop i) (U.drop (k + 1))) := HD.out.trans (by rw [HLx.out, HUy.out, two_up]; simp)
        have hr3 : (wt.alloc (.cells #[.int .i64 U[k].k, .string U[k].p, .string U[k].b, .int .i64 U[k].m, .bool U[k].o] 53)).ownsRow w.heap.size 53 5 (.slice fA M.length fcap) M.length (flat M) := hrt.2.alloc _
        have hnews := rec_cells_new wt U[k] 53
        have hone := rec_one U[k]
        have hbz : w.heap.size ≤ (wt.alloc (.cells #[.int .i64 U[k].k, .string U[k].p, .string U[k].b, .int .i64 U[k].m, .bool U[k].o] 53)).heap.size := (ht.alloc ht.size _).size
        go_wp2_with (first
          | (at_builtin; refine wpList_append_own _ rfl _ _ 27 rfl w.heap.size 53 i0 (.agg #[.int .i64 0, .string ByteArray.empty, .string ByteArray.empty, .int .i64 0, .bool false]) 5 56 Tryz.underlying27 hi hI0 hI1 hI2 rfl (by decide) _ _ _ rfl hr3 ⟨wt.heap.size, 0, none⟩ 1 1 (R.cs U[k]) rfl rfl hnews hone (by unfold maxLen; omega) (by omega) hbz ?_; intro v' w9 hown' hgrow9 hnil9))
        have hrow9 := row_snoc hown'
        have hb9 : Below w.heap.size w w9 := (ht.alloc ht.size _).grown hgrow9 hbz (fun j hj => (hrow.2.lt j hj).1)
        exact ⟨⟨i, k + 1, M ++ [U[k]], by omega, by omega, rfl, by go_num, by simp; omega, hrow9, HN, hb9⟩, by simp [intOf]; omega⟩
    · have hke : k = U.length := by omega
      have HUy : Hid (U.drop k = []) := List.drop_eq_nil_of_le (by omega)
      have hdy : decide ((k : Int) < (U.length : Int)) = false := by simp; omega
      have hey : ((k : Int) == (U.length : Int)) = true := by simp; omega
      clear hke
      by_cases hlt1 : i < L.length
      · have HLx : Hid (L.drop i = L[i] :: L.drop (i + 1)) := List.drop_eq_getElem_cons hlt1
        have hxm := List.getElem_mem hlt1
        obtain ⟨b1, off1, rfl, hb1, hcell1⟩ := HS1.out (by omega)
        have HX : Hid (∀ W, Below w.heap.size w W → RecCells W b1 (off1 + i * 5) L[i]) := fun W hW => (hcell1 i L[i] (by simp [hlt1])).below hW hb1
        clear hcell1
        have hx1 : (i : Int) < (L.length : Int) := by omega
        have hdx : decide ((i : Int) < (L.length : Int)) = true := by simp; omega
        have hex : ((i : Int) == (L.length : Int)) = false := by simp; omega
        go_wp2
        go_quiet (fail)
        have ht : Below w.heap.size w (wr.drewN nq) := below_drewN hbw nq
        have hrt : RowOf (wr.drewN nq) w.heap.size (.slice fA M.length fcap) M.length M := hrow.below (below_drewN (Below.refl _ _) nq)
        generalize wr.drewN nq = wt at *
        have HC := HCU.out L[i] hxm _ ht
        obtain ⟨c0, c1, c2, c3, c4⟩ := HX.out _ ht
        rcases Bool.eq_false_or_eq_true (cutsL U L[i].p) with hc | hc
        · have HN : Hid (two L U = M ++ twoL U (L.drop (i + 1)) (U.drop k)) := HD.out.trans (by rw [HLx.out, HUy.out, two_cut0 hc])
          rw [hc] at HC
          go_wp2_with fail
          refine HC.mono ?_
          rintro e w5 ⟨rfl, hb5⟩
          have d5 := ht.trans (hb5.mono ht.size)
          have hr5 := hrt.below hb5
          go_wp2_with fail
          exact ⟨⟨i + 1, k, M, by omega, by omega, by go_num, rfl, by omega, hr5, HN, d5⟩, by simp [intOf]; omega⟩
        · have HN : Hid (two L U = M ++ [L[i]] ++ twoL U (L.drop (i + 1)) (U.drop k)) := HD.out.trans (by rw [HLx.out, HUy.out, two_take0 hc]; simp)
          rw [hc] at HC
          go_wp2_with fail
          refine HC.mono ?_
          rintro e w5 ⟨rfl, hb5⟩
          have d5 := ht.trans (hb5.mono ht.size)
          have hr5 := hrt.below hb5
          clear c0 c1 c2 c3 c4
          obtain ⟨c0, c1, c2, c3, c4⟩ := HX.out _ d5
          have hr3 : (w5.alloc (.cells #[.int .i64 L[i].k, .string L[i].p, .string L[i].b, .int .i64 L[i].m, .bool L[i].o] 53)).ownsRow w.heap.size 53 5 (.slice fA M.length fcap) M.length (flat M) := hr5.2.alloc _
          have hnews := rec_cells_new w5 L[i] 53
          have hone := rec_one L[i]
          have hbz : w.heap.size ≤ (w5.alloc (.cells #[.int .i64 L[i].k, .string L[i].p, .string L[i].b, .int .i64 L[i].m, .bool L[i].o] 53)).heap.size := (d5.alloc d5.size _).size
          go_wp2_with (first
            | (at_builtin; refine wpList_append_own _ rfl _ _ 27 rfl w.heap.size 53 i0 (.agg #[.int .i64 0, .string ByteArray.empty, .string ByteArray.empty, .int .i64 0, .bool false]) 5 56 Tryz.underlying27 hi hI0 hI1 hI2 rfl (by decide) _ _ _ rfl hr3 ⟨w5.heap.size, 0, none⟩ 1 1 (R.cs L[i]) rfl rfl hnews hone (by unfold maxLen; omega) (by omega) hbz ?_; intro v' w9 hown' hgrow9 hnil9))
          have hrow9 := row_snoc hown'
          have hb9 : Below w.heap.size w w9 := (d5.alloc d5.size _).grown hgrow9 hbz (fun j hj => (hrow.2.lt j hj).1)
          exact ⟨⟨i + 1, k, M ++ [L[i]], by omega, by omega, by go_num, rfl, by simp; omega, hrow9, HN, hb9⟩, by simp [intOf]; omega⟩
      · have HLx : Hid (L.drop i = []) := List.drop_eq_nil_of_le (by omega)
        have hdx : decide ((i : Int) < (L.length : Int)) = false := by simp; omega
        have HM : Hid (two L U = M) := HD.out.trans (by rw [HLx.out, HUy.out, two_end]; simp)
        have HFM : Hid (Fine M) := by have := HF2.out; rw [HM.out] at this; exact this
        have HC4 := l03Canon_gen _ M wr hrow.sl HFM.out.layer.sorted HFM.out.fine (by omega)
        go_wp2_with fail
        refine HC4.mono ?_
        rintro e w4 ⟨f, rfl, hb4, hf⟩
        go_wp2_with fail
        go_ret
        exact ⟨f, rfl, hbw.trans (hb4.mono hbw.size), by show RowOf w4 w.heap.size f (canonL (two L U)).length (canonL (two L U)); rw [HM.out]; exact ⟨hf.1, own_le hf.2 hbw.size⟩⟩
end Go.Proofs.YtibekkfbpmloiabGreatDoor.Recs
