/- Several texts of mine in one file (each begins with its own remark). -/
import Derived.Test.YtcbmnihepeefaaaDoorBun38
import Derived.Test.YtcbmnihepeefaaaDoorBun33
import Derived.Test.YtcbmnihepeefaaaDoorBun36
import Derived.Deep.RegionLaw
/- Combining two layers, of the program. -/

namespace Go.Proofs.YtcbmnihepeefaaaDoor.Recs
set_option maxRecDepth 100000
open Go.RowKit Paths Errs

/-- The length of a slice. -/
def lenV : Value → Nat
  | .slice _ n _ => n
  | _ => 0
theorem path_max {p : ByteArray} (h : pathB p.data.toList = true) : p.size ≤ maxLen := by
  have := path_short h
  unfold maxLen
  omega
theorem sl_of {w : World} {a : Option Addr} {n cap : Nat} {l : List R} (hn : l.length = n) (hc : n ≤ cap) (h : 0 < n → ∃ b off, a = some ⟨b, off, none⟩ ∧ b < w.heap.size ∧ ∀ i r, l[i]? = some r → RecCells w b (off + i * 5) r) : RecSl w (.slice a n cap) l := by
  subst hn
  exact ⟨a, cap, rfl, hc, h⟩
/-- A slice without its first record. -/
theorem tail_more {w : World} {b off n cap : Nat} {x : R} {t : List R} (h : RecSl w (.slice (some ⟨b, off, none⟩) n cap) (x :: t)) : RecSl w (.slice (some ⟨b, off + 5, none⟩) (n - 1) (cap - 1)) t := by
  obtain ⟨A, c, e, hc, h⟩ := h
  cases e
  obtain ⟨b', off', e, hb, hcell⟩ := h (by simp)
  cases e
  refine ⟨_, _, rfl, by simp at hc; omega, fun _ => ⟨b, off + 5, rfl, hb, fun i r hi => ?_⟩⟩
  have := hcell (i + 1) r (by simpa using hi)
  have e : off + (i + 1) * 5 = off + 5 + i * 5 := by omega
  rw [e] at this
  exact this
theorem tail_one {w : World} {b off n cap : Nat} {x : R} {t : List R} (h : RecSl w (.slice (some ⟨b, off, none⟩) n cap) (x :: t)) (hc1 : cap = 1) : RecSl w (.slice (some ⟨b, off, none⟩) 0 0) t := by
  obtain ⟨A, c, e, hc, h⟩ := h
  cases e
  have : t = [] := List.eq_nil_of_length_eq_zero (by simp at hc; omega)
  subst this
  exact ⟨_, 0, rfl, Nat.le_refl _, fun h => by cases h⟩
/-- An upper record over a covered one. -/
def placed (y : R) (c : Bool) : R := if y.k = 3 ∧ c = true then { y with o := true } else y
theorem placed_any (y : R) (c : Bool) (w : World) :
    Calls Tryd.prog 50 #[y.val, .bool c] w fun e w' => e = .returned (placed y c).val ∧ Below w.heap.size w w' := by
  obtain ⟨rk, rm, rp, rb, ro⟩ := y
  unfold R.val
  dsimp only
  by_cases h3 : rk = 3
  · have q3 : (rk == 3) = true := by simp [h3]
    cases c with
    | true =>
      have HE : Hid (placed ⟨rk, rm, rp, rb, ro⟩ true = ⟨rk, rm, rp, rb, true⟩) := if_pos ⟨h3, rfl⟩
      clear h3
      go_enter Tryd.func50, Tryd.ntmps50
      go_wp2_with fail
      refine bodyPost_ret (v := .agg #[.int .i64 rk, .string rp, .string rb, .int .i64 rm, .bool true]) (by simp [results, Tryd.results50, go_sem]) rfl ⟨by rw [HE.out], ?_⟩
      repeat (refine Below.setCell ?_ (by simp) _)
      exact ((Below.refl _ _).alloc (Nat.le_refl _) _).alloc (by simp) _
    | false =>
      have HE : Hid (placed ⟨rk, rm, rp, rb, ro⟩ false = ⟨rk, rm, rp, rb, ro⟩) := if_neg (fun h => by cases h.2)
      clear h3
      go_enter Tryd.func50, Tryd.ntmps50
      go_wp2_with fail
      refine bodyPost_ret (v := .agg #[.int .i64 rk, .string rp, .string rb, .int .i64 rm, .bool ro]) (by simp [results, Tryd.results50, go_sem]) rfl ⟨by rw [HE.out], ?_⟩
      repeat (refine Below.setCell ?_ (by simp) _)
      exact ((Below.refl _ _).alloc (Nat.le_refl _) _).alloc (by simp) _
  · have q3 : (rk == 3) = false := by simp [h3]
    have HE : Hid (placed ⟨rk, rm, rp, rb, ro⟩ c = ⟨rk, rm, rp, rb, ro⟩) := if_neg (fun h => h3 h.1)
    clear h3
    go_enter Tryd.func50, Tryd.ntmps50
    go_wp2_with fail
    refine bodyPost_ret (v := .agg #[.int .i64 rk, .string rp, .string rb, .int .i64 rm, .bool ro]) (by simp [results, Tryd.results50, go_sem]) rfl ⟨by rw [HE.out], ?_⟩
    repeat (refine Below.setCell ?_ (by simp) _)
    exact ((Below.refl _ _).alloc (Nat.le_refl _) _).alloc (by simp) _

set_option maxHeartbeats 6400000 in
theorem combination_any (v1 v2 : Value) (L U : List R) (w : World) (h1 : RecSl w v1 L) (h2 : RecSl w v2 U) (hL : Fine L) (hU : Fine U) (hl : L.length + U.length ≤ 1024) :
    Calls Tryd.prog 30 #[v1, v2] w fun e w' => ∃ x, e = .returned x ∧ Below w.heap.size w w' ∧ RowOf w' w.heap.size x (squashL L U).length (squashL L U) := by
  obtain ⟨i0, hi, hI0, hI1, hI2⟩ := info_parts recInfo
  have hpL : ∀ r ∈ L, pathB r.p.data.toList = true := hL.layer.path
  have hpU : ∀ r ∈ U, pathB r.p.data.toList = true := hU.layer.path
  have HCU : Hid (∀ r ∈ L, ∀ w', Below w.heap.size w w' → Calls Tryd.prog 35 #[v2, .string r.p] w' fun e w'' => e = .returned (.bool (cutsL U r.p)) ∧ Below w'.heap.size w' w'') := fun r hm w' hb => by
    rw [← cuts_same hU.layer.sorted hU.fine (hpL r hm)]
    exact cutsOff_any v2 U r.p w' (h2.below hb) (by omega) (path_max (hpL r hm)) (fun x hx => path_max (hpU x hx))
  have HLS : Hid (∀ x ∈ L, ∀ y ∈ U, ∀ w', Calls Tryd.prog 48 #[.string x.p, .string y.p] w' fun e w'' => e = .returned (.bool (lessR x y)) ∧ Below w'.heap.size w' w'') := fun x hx y hy w' => by
    have := pathLess_impl x.p y.p w' (path_max (hpL x hx)) (path_max (hpU y hy))
    rw [lessB_yes (hpL x hx) (hpU y hy)] at this
    exact this
  have HF2 := Lib.hid (two_fine hL hU)
  have HT2 := Lib.hid (two_len U L U)
  have HV1 := Lib.hid h1
  have HV2 := Lib.hid h2
  obtain ⟨a01, cap01, rfl, -⟩ := h1
  obtain ⟨a02, cap02, rfl, -⟩ := h2
  clear hpL hpU hL hU
  go_enter Tryd.func30, Tryd.ntmps30
  go_wp2
  go_loopw [0, 1, 6] (fun l u f wr => ∃ (As Bs M : List R), RecSl w l As ∧ RecSl w u Bs ∧ (∀ r ∈ As, r ∈ L) ∧ (∀ r ∈ Bs, r ∈ U) ∧ M.length + As.length + Bs.length ≤ 1024 ∧ RowOf wr w.heap.size f M.length M ∧ Hid (two L U = M ++ twoL U As Bs) ∧ Below w.heap.size w wr) (fun l u _ _ => lenV l + lenV u)
  case atStart => exact ⟨L, U, [], HV1.out, HV2.out, fun _ h => h, fun _ h => h, by simpa using hl, ⟨rfl, World.ownsRow_nil _ _ _ _⟩, rfl, Below.refl _ _⟩
  case round =>
    obtain ⟨As, Bs, M, hs1, hs2, hm1, hm2, hlen, hrow, HD, hbw⟩ := hrel
    obtain ⟨a1, cap1, rfl, hcap1, hs1⟩ := hs1
    obtain ⟨a2, cap2, rfl, hcap2, hs2⟩ := hs2
    obtain ⟨fA, fcap, rfl⟩ := hrow.form
    have hszr := hbw.size
    generalize hn1 : As.length = n1 at *
    generalize hn2 : Bs.length = n2 at *
    have HN1 := Lib.hid hn1
    have HN2 := Lib.hid hn2
    have HS2 := Lib.hid hs2
    have HS1 := Lib.hid hs1
    have hMl : M.length ≤ 1024 := by omega
    clear hn1 hn2 hs1 hs2
    by_cases hz2 : n2 = 0
    · obtain rfl : Bs = [] := List.eq_nil_of_length_eq_zero (by have := HN2.out; omega)
      have HR2 := Lib.hid (sl_of HN2.out hcap2 HS2.out)
      subst hz2
      by_cases hz1 : n1 = 0
      · obtain rfl : As = [] := List.eq_nil_of_length_eq_zero (by have := HN1.out; omega)
        subst hz1
        have HM : Hid (two L U = M) := HD.out.trans (by rw [two_end]; simp)
        have HFM : Hid (Fine M) := by have := HF2.out; rw [HM.out] at this; exact this
        have HC4 := canonicalForm_gen _ M wr hrow.sl HFM.out.layer.sorted HFM.out.fine (by omega) (fun r hr => path_max (HFM.out.layer.path r hr))
        go_wp2_with fail
        refine HC4.mono ?_
        rintro e w4 ⟨f, rfl, hb4, hf⟩
        go_wp2_with fail
        go_ret
        exact ⟨f, rfl, hbw.trans (hb4.mono hbw.size), by show RowOf w4 w.heap.size f (canonL (two L U)).length (canonL (two L U)); rw [HM.out]; exact ⟨hf.1, own_le hf.2 hbw.size⟩⟩
      · obtain ⟨x, a, rfl⟩ : ∃ x a, As = x :: a := by
          cases As with
          | nil => have := HN1.out; simp at this; omega
          | cons x a => exact ⟨x, a, rfl⟩
        have HR1 := Lib.hid (sl_of HN1.out hcap1 HS1.out)
        obtain ⟨b1, off1, rfl, hb1, hcell1⟩ := HS1.out (by omega)
        have HX : Hid (∀ W, Below w.heap.size w W → RecCells W b1 off1 x) := fun W hW => by have := (hcell1 0 x rfl).below hW hb1; simpa using this
        clear HS1 hcell1
        have HA1 : Hid (a.length + 1 = n1) := HN1.out
        have hq0n : 0 < n1 := by omega
        have hw0 : IntKind.i64.wrap (n1 : Int) = (n1 : Int) := by rw [IntKind.wrap_i64]; omega
        have hp0 : decide ((0 : Int) < (n1 : Int)) = true := by simp; omega
        have hq0 : (0 : Int) < (n1 : Int) := by omega
        have hq1 : (1 : Int) ≤ (n1 : Int) := by omega
        have hq2 : (1 : Int) ≤ (cap1 : Int) := by omega
        go_wp2
        go_quiet (fail)
        have ht : Below w.heap.size w (wr.drewN nq) := below_drewN hbw nq
        have hrt : RowOf (wr.drewN nq) w.heap.size (.slice fA M.length fcap) M.length M := hrow.below (below_drewN (Below.refl _ _) nq)
        generalize wr.drewN nq = wt at *
        have HC := HCU.out x (hm1 x (List.mem_cons_self ..)) _ ht
        obtain ⟨c0, c1, c2, c3, c4⟩ := HX.out _ ht
        rcases Bool.eq_false_or_eq_true (cutsL U x.p) with hc | hc
        · have HN : Hid (two L U = M ++ twoL U a []) := HD.out.trans (by rw [two_cut0 hc])
          rw [hc] at HC
          by_cases hcc : cap1 = 1
          · have HT1 := Lib.hid (tail_one (HR1.out) hcc)
            have hn0 : n1 = 1 := by omega
            subst hcc
            subst hn0
            clear hcap1
            go_wp2_with fail
            refine HC.mono ?_
            rintro e w5 ⟨rfl, hb5⟩
            have d5 := ht.trans (hb5.mono ht.size)
            have hr5 := hrt.below hb5
            go_wp2_with fail
            exact ⟨⟨a, [], M, HT1.out, HR2.out, fun r hr => hm1 r (List.mem_cons_of_mem _ hr), hm2, by have h0 := HA1.out; show M.length + a.length + 0 ≤ 1024; omega, hr5, HN, d5⟩, by simp only [lenV] <;> omega⟩
          · have HT1 := Lib.hid (tail_more (HR1.out) )
            go_wp2_with fail
            refine HC.mono ?_
            rintro e w5 ⟨rfl, hb5⟩
            have d5 := ht.trans (hb5.mono ht.size)
            have hr5 := hrt.below hb5
            go_wp2_with fail
            exact ⟨⟨a, [], M, HT1.out, HR2.out, fun r hr => hm1 r (List.mem_cons_of_mem _ hr), hm2, by have h0 := HA1.out; show M.length + a.length + 0 ≤ 1024; omega, hr5, HN, d5⟩, by simp only [lenV] <;> omega⟩
        · have HN : Hid (two L U = M ++ [x] ++ twoL U a []) := HD.out.trans (by rw [two_take0 hc]; simp)
          rw [hc] at HC
          by_cases hcc : cap1 = 1
          · have HT1 := Lib.hid (tail_one (HR1.out) hcc)
            have hn0 : n1 = 1 := by omega
            subst hcc
            subst hn0
            clear hcap1
            go_wp2_with fail
            refine HC.mono ?_
            rintro e w5 ⟨rfl, hb5⟩
            have d5 := ht.trans (hb5.mono ht.size)
            have hr5 := hrt.below hb5
            obtain ⟨c0, c1, c2, c3, c4⟩ := HX.out _ d5
            have hr3 : (w5.alloc (.cells #[.int .i64 x.k, .string x.p, .string x.b, .int .i64 x.m, .bool x.o] 45)).ownsRow w.heap.size 45 5 (.slice fA M.length fcap) M.length (flat M) := hr5.2.alloc _
            have hnews := rec_cells_new w5 x 45
            have hone := rec_one x
            have hbz : w.heap.size ≤ (w5.alloc (.cells #[.int .i64 x.k, .string x.p, .string x.b, .int .i64 x.m, .bool x.o] 45)).heap.size := (d5.alloc d5.size _).size
            go_wp2_with (first
              | (at_builtin; refine wpList_append_own _ rfl _ _ 24 rfl w.heap.size 45 i0 (.agg #[.int .i64 0, .string ByteArray.empty, .string ByteArray.empty, .int .i64 0, .bool false]) 5 56 Tryd.underlying24 hi hI0 hI1 hI2 rfl (by decide) _ _ _ rfl hr3 ⟨w5.heap.size, 0, none⟩ 1 1 (R.cs x) rfl rfl hnews hone (by unfold maxLen; omega) (by omega) hbz ?_; intro v' w9 hown' hgrow9 hnil9))
            have hrow9 := row_snoc hown'
            have hb9 : Below w.heap.size w w9 := (d5.alloc d5.size _).grown hgrow9 hbz (fun j hj => (hrow.2.lt j hj).1)
            exact ⟨⟨a, [], M ++ [x], HT1.out, HR2.out, fun r hr => hm1 r (List.mem_cons_of_mem _ hr), hm2, by have h0 := HA1.out; rw [List.length_append]; show M.length + 1 + a.length + 0 ≤ 1024; omega, hrow9, HN, hb9⟩, by simp only [lenV] <;> omega⟩
          · have HT1 := Lib.hid (tail_more (HR1.out) )
            go_wp2_with fail
            refine HC.mono ?_
            rintro e w5 ⟨rfl, hb5⟩
            have d5 := ht.trans (hb5.mono ht.size)
            have hr5 := hrt.below hb5
            obtain ⟨c0, c1, c2, c3, c4⟩ := HX.out _ d5
            have hr3 : (w5.alloc (.cells #[.int .i64 x.k, .string x.p, .string x.b, .int .i64 x.m, .bool x.o] 45)).ownsRow w.heap.size 45 5 (.slice fA M.length fcap) M.length (flat M) := hr5.2.alloc _
            have hnews := rec_cells_new w5 x 45
            have hone := rec_one x
            have hbz : w.heap.size ≤ (w5.alloc (.cells #[.int .i64 x.k, .string x.p, .string x.b, .int .i64 x.m, .bool x.o] 45)).heap.size := (d5.alloc d5.size _).size
            go_wp2_with (first
              | (at_builtin; refine wpList_append_own _ rfl _ _ 24 rfl w.heap.size 45 i0 (.agg #[.int .i64 0, .string ByteArray.empty, .string ByteArray.empty, .int .i64 0, .bool false]) 5 56 Tryd.underlying24 hi hI0 hI1 hI2 rfl (by decide) _ _ _ rfl hr3 ⟨w5.heap.size, 0, none⟩ 1 1 (R.cs x) rfl rfl hnews hone (by unfold maxLen; omega) (by omega) hbz ?_; intro v' w9 hown' hgrow9 hnil9))
            have hrow9 := row_snoc hown'
            have hb9 : Below w.heap.size w w9 := (d5.alloc d5.size _).grown hgrow9 hbz (fun j hj => (hrow.2.lt j hj).1)
            exact ⟨⟨a, [], M ++ [x], HT1.out, HR2.out, fun r hr => hm1 r (List.mem_cons_of_mem _ hr), hm2, by have h0 := HA1.out; rw [List.length_append]; show M.length + 1 + a.length + 0 ≤ 1024; omega, hrow9, HN, hb9⟩, by simp only [lenV] <;> omega⟩
    obtain ⟨y, b, rfl⟩ : ∃ y b, Bs = y :: b := by
      cases Bs with
      | nil => have := HN2.out; simp at this; omega
      | cons y b => exact ⟨y, b, rfl⟩
    have HR2 := Lib.hid (sl_of HN2.out hcap2 HS2.out)
    obtain ⟨b2, off2, rfl, hb2, hcell2⟩ := HS2.out (by omega)
    have HY : Hid (∀ W, Below w.heap.size w W → RecCells W b2 off2 y) := fun W hW => by have := (hcell2 0 y rfl).below hW hb2; simpa using this
    clear HS2 hcell2
    have HB2 : Hid (b.length + 1 = n2) := HN2.out
    have hu0n : 0 < n2 := by omega
    have hz2' : ((n2 : Int) == 0) = false := by simp; omega
    have hu0 : (0 : Int) < (n2 : Int) := by omega
    have hu1 : (1 : Int) ≤ (n2 : Int) := by omega
    have hu2 : (1 : Int) ≤ (cap2 : Int) := by omega
    by_cases hz1 : n1 = 0
    · obtain rfl : As = [] := List.eq_nil_of_length_eq_zero (by have := HN1.out; omega)
      have HR1 := Lib.hid (sl_of HN1.out hcap1 HS1.out)
      subst hz1
      have hw0 : IntKind.i64.wrap (n2 : Int) = (n2 : Int) := by rw [IntKind.wrap_i64]; omega
      have hp0 : decide ((0 : Int) < (n2 : Int)) = true := by simp; omega
      go_wp2
      go_quiet (fail)
      have hq : Below w.heap.size w (wr.drewN nq) := below_drewN hbw nq
      have hrq : RowOf (wr.drewN nq) w.heap.size (.slice fA M.length fcap) M.length M := hrow.below (below_drewN (Below.refl _ _) nq)
      generalize wr.drewN nq = wq at *
      go_wp2
      go_quiet (fail)
      have ht : Below w.heap.size w (wq.drewN nq) := below_drewN hq nq
      have hrt : RowOf (wq.drewN nq) w.heap.size (.slice fA M.length fcap) M.length M := hrq.below (below_drewN (Below.refl _ _) nq)
      generalize wq.drewN nq = wt at *
      obtain ⟨e0, e1, e2, e3, e4⟩ := HY.out _ ht
      have HPL := placed_any y false wt
      unfold R.val at HPL
      generalize hz : placed y false = z at HPL
      have HZ := Lib.hid hz
      clear hz
      have HN : Hid (two L U = M ++ [z] ++ twoL U [] b) := HD.out.trans (by rw [two_up, ← HZ.out]; simp [placed])
      by_cases hcd : cap2 = 1
      · have HT2 := Lib.hid (tail_one (HR2.out) hcd)
        have hn0 : n2 = 1 := by omega
        subst hcd
        subst hn0
        clear hcap2
        go_wp2_with fail
        refine HPL.mono ?_
        rintro e w6 ⟨rfl, hb6⟩
        have d6 := ht.trans (hb6.mono ht.size)
        have hr6 := hrt.below hb6
        have hr3 : (w6.alloc (.cells #[.int .i64 z.k, .string z.p, .string z.b, .int .i64 z.m, .bool z.o] 45)).ownsRow w.heap.size 45 5 (.slice fA M.length fcap) M.length (flat M) := hr6.2.alloc _
        have hnews := rec_cells_new w6 z 45
        have hone := rec_one z
        have hbz : w.heap.size ≤ (w6.alloc (.cells #[.int .i64 z.k, .string z.p, .string z.b, .int .i64 z.m, .bool z.o] 45)).heap.size := (d6.alloc d6.size _).size
        go_wp2_with (first
          | (at_builtin; refine wpList_append_own _ rfl _ _ 24 rfl w.heap.size 45 i0 (.agg #[.int .i64 0, .string ByteArray.empty, .string ByteArray.empty, .int .i64 0, .bool false]) 5 56 Tryd.underlying24 hi hI0 hI1 hI2 rfl (by decide) _ _ _ rfl hr3 ⟨w6.heap.size, 0, none⟩ 1 1 (R.cs z) rfl rfl hnews hone (by unfold maxLen; omega) (by omega) hbz ?_; intro v' w9 hown' hgrow9 hnil9))
        have hrow9 := row_snoc hown'
        have hb9 : Below w.heap.size w w9 := (d6.alloc d6.size _).grown hgrow9 hbz (fun j hj => (hrow.2.lt j hj).1)
        exact ⟨⟨[], b, M ++ [z], HR1.out, HT2.out, hm1, fun r hr => hm2 r (List.mem_cons_of_mem _ hr), by have h0 := HB2.out; rw [List.length_append]; show M.length + 1 + 0 + b.length ≤ 1024; omega, hrow9, HN, hb9⟩, by simp only [lenV] <;> omega⟩
      · have HT2 := Lib.hid (tail_more (HR2.out) )
        go_wp2_with fail
        refine HPL.mono ?_
        rintro e w6 ⟨rfl, hb6⟩
        have d6 := ht.trans (hb6.mono ht.size)
        have hr6 := hrt.below hb6
        have hr3 : (w6.alloc (.cells #[.int .i64 z.k, .string z.p, .string z.b, .int .i64 z.m, .bool z.o] 45)).ownsRow w.heap.size 45 5 (.slice fA M.length fcap) M.length (flat M) := hr6.2.alloc _
        have hnews := rec_cells_new w6 z 45
        have hone := rec_one z
        have hbz : w.heap.size ≤ (w6.alloc (.cells #[.int .i64 z.k, .string z.p, .string z.b, .int .i64 z.m, .bool z.o] 45)).heap.size := (d6.alloc d6.size _).size
        go_wp2_with (first
          | (at_builtin; refine wpList_append_own _ rfl _ _ 24 rfl w.heap.size 45 i0 (.agg #[.int .i64 0, .string ByteArray.empty, .string ByteArray.empty, .int .i64 0, .bool false]) 5 56 Tryd.underlying24 hi hI0 hI1 hI2 rfl (by decide) _ _ _ rfl hr3 ⟨w6.heap.size, 0, none⟩ 1 1 (R.cs z) rfl rfl hnews hone (by unfold maxLen; omega) (by omega) hbz ?_; intro v' w9 hown' hgrow9 hnil9))
        have hrow9 := row_snoc hown'
        have hb9 : Below w.heap.size w w9 := (d6.alloc d6.size _).grown hgrow9 hbz (fun j hj => (hrow.2.lt j hj).1)
        exact ⟨⟨[], b, M ++ [z], HR1.out, HT2.out, hm1, fun r hr => hm2 r (List.mem_cons_of_mem _ hr), by have h0 := HB2.out; rw [List.length_append]; show M.length + 1 + 0 + b.length ≤ 1024; omega, hrow9, HN, hb9⟩, by simp only [lenV] <;> omega⟩
    obtain ⟨x, a, rfl⟩ : ∃ x a, As = x :: a := by
      cases As with
      | nil => have := HN1.out; simp at this; omega
      | cons x a => exact ⟨x, a, rfl⟩
    have HR1 := Lib.hid (sl_of HN1.out hcap1 HS1.out)
    obtain ⟨b1, off1, rfl, hb1, hcell1⟩ := HS1.out (by omega)
    have HX : Hid (∀ W, Below w.heap.size w W → RecCells W b1 off1 x) := fun W hW => by have := (hcell1 0 x rfl).below hW hb1; simpa using this
    clear HS1 hcell1
    have HA1 : Hid (a.length + 1 = n1) := HN1.out
    have hq0n : 0 < n1 := by omega
    have hw0 : IntKind.i64.wrap ((n1 : Int) + (n2 : Int)) = (n1 : Int) + (n2 : Int) := by rw [IntKind.wrap_i64]; omega
    have hp0 : decide ((0 : Int) < (n1 : Int) + (n2 : Int)) = true := by simp; omega
    have hp1 : decide ((0 : Int) < (n1 : Int)) = true := by simp; omega
    have hq0 : (0 : Int) < (n1 : Int) := by omega
    have hq1 : (1 : Int) ≤ (n1 : Int) := by omega
    have hq2 : (1 : Int) ≤ (cap1 : Int) := by omega
    have HLE := fun W => HLS.out x (hm1 x (List.mem_cons_self ..)) y (hm2 y (List.mem_cons_self ..)) W
    rcases Bool.eq_false_or_eq_true (lessR x y) with hls | hls
    · rw [hls] at HLE
      obtain ⟨_, x1, _, _, _⟩ := HX.out _ hbw
      obtain ⟨_, y1, _, _, _⟩ := HY.out _ hbw
      have hgr1 : b1 < wr.heap.size := by omega
      have hgr2 : b2 < wr.heap.size := by omega
      go_wp2
      go_region_held3 (fun w' => w'.cell? ⟨b1, off1 + 1, none⟩ = some (.string x.p) ∧ w'.cell? ⟨b2, off2 + 1, none⟩ = some (.string y.p)) (first | exact ⟨x1, y1⟩ | exact ⟨(hb3.cell (p := ⟨b1, off1 + 1, none⟩) hgr1).trans x1, (hb3.cell (p := ⟨b2, off2 + 1, none⟩) hgr2).trans y1⟩ | go_keep) (first | (go_at_call 48; refine (HLE _).mono ?_; rintro e w3 ⟨rfl, hb3⟩))
      have d3 : Below w.heap.size w w3 := hbw.drew.trans (hb3.mono hbw.size)
      have hr3 : RowOf w3 w.heap.size (.slice fA M.length fcap) M.length M := (hrow.below (Below.refl _ _).drew).below hb3
      clear x1 y1
      have ht := d3
      have hrt := hr3
      generalize w3 = wt at *
      have HC := HCU.out x (hm1 x (List.mem_cons_self ..)) _ ht
      obtain ⟨c0, c1, c2, c3, c4⟩ := HX.out _ ht
      rcases Bool.eq_false_or_eq_true (cutsL U x.p) with hc | hc
      · have HN : Hid (two L U = M ++ twoL U a (y :: b)) := HD.out.trans (by rw [two_cut1 hls hc])
        rw [hc] at HC
        by_cases hcc : cap1 = 1
        · have HT1 := Lib.hid (tail_one (HR1.out) hcc)
          have hn0 : n1 = 1 := by omega
          subst hcc
          subst hn0
          clear hcap1
          go_wp2_with fail
          refine HC.mono ?_
          rintro e w5 ⟨rfl, hb5⟩
          have d5 := ht.trans (hb5.mono ht.size)
          have hr5 := hrt.below hb5
          go_wp2_with fail
          exact ⟨⟨a, (y :: b), M, HT1.out, HR2.out, fun r hr => hm1 r (List.mem_cons_of_mem _ hr), hm2, by have h0 := HA1.out; have h1 := HB2.out; show M.length + a.length + (b.length + 1) ≤ 1024; omega, hr5, HN, d5⟩, by simp only [lenV] <;> omega⟩
        · have HT1 := Lib.hid (tail_more (HR1.out) )
          go_wp2_with fail
          refine HC.mono ?_
          rintro e w5 ⟨rfl, hb5⟩
          have d5 := ht.trans (hb5.mono ht.size)
          have hr5 := hrt.below hb5
          go_wp2_with fail
          exact ⟨⟨a, (y :: b), M, HT1.out, HR2.out, fun r hr => hm1 r (List.mem_cons_of_mem _ hr), hm2, by have h0 := HA1.out; have h1 := HB2.out; show M.length + a.length + (b.length + 1) ≤ 1024; omega, hr5, HN, d5⟩, by simp only [lenV] <;> omega⟩
      · have HN : Hid (two L U = M ++ [x] ++ twoL U a (y :: b)) := HD.out.trans (by rw [two_take1 hls hc]; simp)
        rw [hc] at HC
        by_cases hcc : cap1 = 1
        · have HT1 := Lib.hid (tail_one (HR1.out) hcc)
          have hn0 : n1 = 1 := by omega
          subst hcc
          subst hn0
          clear hcap1
          go_wp2_with fail
          refine HC.mono ?_
          rintro e w5 ⟨rfl, hb5⟩
          have d5 := ht.trans (hb5.mono ht.size)
          have hr5 := hrt.below hb5
          obtain ⟨c0, c1, c2, c3, c4⟩ := HX.out _ d5
          have hr3 : (w5.alloc (.cells #[.int .i64 x.k, .string x.p, .string x.b, .int .i64 x.m, .bool x.o] 45)).ownsRow w.heap.size 45 5 (.slice fA M.length fcap) M.length (flat M) := hr5.2.alloc _
          have hnews := rec_cells_new w5 x 45
          have hone := rec_one x
          have hbz : w.heap.size ≤ (w5.alloc (.cells #[.int .i64 x.k, .string x.p, .string x.b, .int .i64 x.m, .bool x.o] 45)).heap.size := (d5.alloc d5.size _).size
          go_wp2_with (first
            | (at_builtin; refine wpList_append_own _ rfl _ _ 24 rfl w.heap.size 45 i0 (.agg #[.int .i64 0, .string ByteArray.empty, .string ByteArray.empty, .int .i64 0, .bool false]) 5 56 Tryd.underlying24 hi hI0 hI1 hI2 rfl (by decide) _ _ _ rfl hr3 ⟨w5.heap.size, 0, none⟩ 1 1 (R.cs x) rfl rfl hnews hone (by unfold maxLen; omega) (by omega) hbz ?_; intro v' w9 hown' hgrow9 hnil9))
          have hrow9 := row_snoc hown'
          have hb9 : Below w.heap.size w w9 := (d5.alloc d5.size _).grown hgrow9 hbz (fun j hj => (hrow.2.lt j hj).1)
          exact ⟨⟨a, (y :: b), M ++ [x], HT1.out, HR2.out, fun r hr => hm1 r (List.mem_cons_of_mem _ hr), hm2, by have h0 := HA1.out; have h1 := HB2.out; rw [List.length_append]; show M.length + 1 + a.length + (b.length + 1) ≤ 1024; omega, hrow9, HN, hb9⟩, by simp only [lenV] <;> omega⟩
        · have HT1 := Lib.hid (tail_more (HR1.out) )
          go_wp2_with fail
          refine HC.mono ?_
          rintro e w5 ⟨rfl, hb5⟩
          have d5 := ht.trans (hb5.mono ht.size)
          have hr5 := hrt.below hb5
          obtain ⟨c0, c1, c2, c3, c4⟩ := HX.out _ d5
          have hr3 : (w5.alloc (.cells #[.int .i64 x.k, .string x.p, .string x.b, .int .i64 x.m, .bool x.o] 45)).ownsRow w.heap.size 45 5 (.slice fA M.length fcap) M.length (flat M) := hr5.2.alloc _
          have hnews := rec_cells_new w5 x 45
          have hone := rec_one x
          have hbz : w.heap.size ≤ (w5.alloc (.cells #[.int .i64 x.k, .string x.p, .string x.b, .int .i64 x.m, .bool x.o] 45)).heap.size := (d5.alloc d5.size _).size
          go_wp2_with (first
            | (at_builtin; refine wpList_append_own _ rfl _ _ 24 rfl w.heap.size 45 i0 (.agg #[.int .i64 0, .string ByteArray.empty, .string ByteArray.empty, .int .i64 0, .bool false]) 5 56 Tryd.underlying24 hi hI0 hI1 hI2 rfl (by decide) _ _ _ rfl hr3 ⟨w5.heap.size, 0, none⟩ 1 1 (R.cs x) rfl rfl hnews hone (by unfold maxLen; omega) (by omega) hbz ?_; intro v' w9 hown' hgrow9 hnil9))
          have hrow9 := row_snoc hown'
          have hb9 : Below w.heap.size w w9 := (d5.alloc d5.size _).grown hgrow9 hbz (fun j hj => (hrow.2.lt j hj).1)
          exact ⟨⟨a, (y :: b), M ++ [x], HT1.out, HR2.out, fun r hr => hm1 r (List.mem_cons_of_mem _ hr), hm2, by have h0 := HA1.out; have h1 := HB2.out; rw [List.length_append]; show M.length + 1 + a.length + (b.length + 1) ≤ 1024; omega, hrow9, HN, hb9⟩, by simp only [lenV] <;> omega⟩
    · rw [hls] at HLE
      have HNL := Lib.hid hls
      clear hls
      rcases Bool.eq_false_or_eq_true (x.p.toList == y.p.toList) with heq | heq
      · have HEQ := Lib.hid (str_eq_of heq)
        obtain ⟨_, x1, _, _, _⟩ := HX.out _ hbw
        obtain ⟨_, y1, _, _, _⟩ := HY.out _ hbw
        have hgr1 : b1 < wr.heap.size := by omega
        have hgr2 : b2 < wr.heap.size := by omega
        go_wp2
        go_region_held3 (fun w' => w'.cell? ⟨b1, off1 + 1, none⟩ = some (.string x.p) ∧ w'.cell? ⟨b2, off2 + 1, none⟩ = some (.string y.p)) (first | exact ⟨x1, y1⟩ | exact ⟨(hb3.cell (p := ⟨b1, off1 + 1, none⟩) hgr1).trans x1, (hb3.cell (p := ⟨b2, off2 + 1, none⟩) hgr2).trans y1⟩ | go_keep) (first | (go_at_call 48; refine (HLE _).mono ?_; rintro e w3 ⟨rfl, hb3⟩))
        have d3 : Below w.heap.size w w3 := hbw.drew.trans (hb3.mono hbw.size)
        have hr3 : RowOf w3 w.heap.size (.slice fA M.length fcap) M.length M := (hrow.below (Below.refl _ _).drew).below hb3
        clear x1 y1
        obtain ⟨x0, x1, x2, x3, x4⟩ := HX.out _ d3
        obtain ⟨_, y1, _, _, _⟩ := HY.out _ d3
        go_wp2
        go_quiet (fail)
        have hq : Below w.heap.size w (w3.drewN nq) := below_drewN d3 nq
        have hrq : RowOf (w3.drewN nq) w.heap.size (.slice fA M.length fcap) M.length M := hr3.below (below_drewN (Below.refl _ _) nq)
        generalize w3.drewN nq = wq at *
        clear x0 x1 x2 x3 x4 y1
        obtain ⟨x0, x1, x2, x3, x4⟩ := HX.out _ hq
        have HSP := stops_any x wq
        unfold R.val at HSP
        by_cases hcc : cap1 = 1
        · have HT1 := Lib.hid (tail_one (HR1.out) hcc)
          have hn0 : n1 = 1 := by omega
          subst hcc
          subst hn0
          clear hcap1
          go_wp2_with fail
          refine HSP.mono ?_
          rintro e wt ⟨rfl, hbt⟩
          have ht : Below w.heap.size w wt := hq.trans (hbt.mono hq.size)
          have hrt := hrq.below hbt
          obtain ⟨e0, e1, e2, e3, e4⟩ := HY.out _ ht
          have HPL := placed_any y (stops x) wt
          unfold R.val at HPL
          generalize hz : placed y (stops x) = z at HPL
          have HZ := Lib.hid hz
          clear hz
          have HN : Hid (two L U = M ++ [z] ++ twoL U a b) := HD.out.trans (by rw [two_eq HEQ.out, ← HZ.out]; simp [placed, overR])
          by_cases hcd : cap2 = 1
          · have HT2 := Lib.hid (tail_one (HR2.out) hcd)
            have hn0 : n2 = 1 := by omega
            subst hcd
            subst hn0
            clear hcap2
            go_wp2_with fail
            refine HPL.mono ?_
            rintro e w6 ⟨rfl, hb6⟩
            have d6 := ht.trans (hb6.mono ht.size)
            have hr6 := hrt.below hb6
            have hr3 : (w6.alloc (.cells #[.int .i64 z.k, .string z.p, .string z.b, .int .i64 z.m, .bool z.o] 45)).ownsRow w.heap.size 45 5 (.slice fA M.length fcap) M.length (flat M) := hr6.2.alloc _
            have hnews := rec_cells_new w6 z 45
            have hone := rec_one z
            have hbz : w.heap.size ≤ (w6.alloc (.cells #[.int .i64 z.k, .string z.p, .string z.b, .int .i64 z.m, .bool z.o] 45)).heap.size := (d6.alloc d6.size _).size
            go_wp2_with (first
              | (at_builtin; refine wpList_append_own _ rfl _ _ 24 rfl w.heap.size 45 i0 (.agg #[.int .i64 0, .string ByteArray.empty, .string ByteArray.empty, .int .i64 0, .bool false]) 5 56 Tryd.underlying24 hi hI0 hI1 hI2 rfl (by decide) _ _ _ rfl hr3 ⟨w6.heap.size, 0, none⟩ 1 1 (R.cs z) rfl rfl hnews hone (by unfold maxLen; omega) (by omega) hbz ?_; intro v' w9 hown' hgrow9 hnil9))
            have hrow9 := row_snoc hown'
            have hb9 : Below w.heap.size w w9 := (d6.alloc d6.size _).grown hgrow9 hbz (fun j hj => (hrow.2.lt j hj).1)
            exact ⟨⟨a, b, M ++ [z], HT1.out, HT2.out, fun r hr => hm1 r (List.mem_cons_of_mem _ hr), fun r hr => hm2 r (List.mem_cons_of_mem _ hr), by have h0 := HB2.out; have h1 := HA1.out; rw [List.length_append]; show M.length + 1 + a.length + b.length ≤ 1024; omega, hrow9, HN, hb9⟩, by simp only [lenV] <;> omega⟩
          · have HT2 := Lib.hid (tail_more (HR2.out) )
            go_wp2_with fail
            refine HPL.mono ?_
            rintro e w6 ⟨rfl, hb6⟩
            have d6 := ht.trans (hb6.mono ht.size)
            have hr6 := hrt.below hb6
            have hr3 : (w6.alloc (.cells #[.int .i64 z.k, .string z.p, .string z.b, .int .i64 z.m, .bool z.o] 45)).ownsRow w.heap.size 45 5 (.slice fA M.length fcap) M.length (flat M) := hr6.2.alloc _
            have hnews := rec_cells_new w6 z 45
            have hone := rec_one z
            have hbz : w.heap.size ≤ (w6.alloc (.cells #[.int .i64 z.k, .string z.p, .string z.b, .int .i64 z.m, .bool z.o] 45)).heap.size := (d6.alloc d6.size _).size
            go_wp2_with (first
              | (at_builtin; refine wpList_append_own _ rfl _ _ 24 rfl w.heap.size 45 i0 (.agg #[.int .i64 0, .string ByteArray.empty, .string ByteArray.empty, .int .i64 0, .bool false]) 5 56 Tryd.underlying24 hi hI0 hI1 hI2 rfl (by decide) _ _ _ rfl hr3 ⟨w6.heap.size, 0, none⟩ 1 1 (R.cs z) rfl rfl hnews hone (by unfold maxLen; omega) (by omega) hbz ?_; intro v' w9 hown' hgrow9 hnil9))
            have hrow9 := row_snoc hown'
            have hb9 : Below w.heap.size w w9 := (d6.alloc d6.size _).grown hgrow9 hbz (fun j hj => (hrow.2.lt j hj).1)
            exact ⟨⟨a, b, M ++ [z], HT1.out, HT2.out, fun r hr => hm1 r (List.mem_cons_of_mem _ hr), fun r hr => hm2 r (List.mem_cons_of_mem _ hr), by have h0 := HB2.out; have h1 := HA1.out; rw [List.length_append]; show M.length + 1 + a.length + b.length ≤ 1024; omega, hrow9, HN, hb9⟩, by simp only [lenV] <;> omega⟩
        · have HT1 := Lib.hid (tail_more (HR1.out) )
          go_wp2_with fail
          refine HSP.mono ?_
          rintro e wt ⟨rfl, hbt⟩
          have ht : Below w.heap.size w wt := hq.trans (hbt.mono hq.size)
          have hrt := hrq.below hbt
          obtain ⟨e0, e1, e2, e3, e4⟩ := HY.out _ ht
          have HPL := placed_any y (stops x) wt
          unfold R.val at HPL
          generalize hz : placed y (stops x) = z at HPL
          have HZ := Lib.hid hz
          clear hz
          have HN : Hid (two L U = M ++ [z] ++ twoL U a b) := HD.out.trans (by rw [two_eq HEQ.out, ← HZ.out]; simp [placed, overR])
          by_cases hcd : cap2 = 1
          · have HT2 := Lib.hid (tail_one (HR2.out) hcd)
            have hn0 : n2 = 1 := by omega
            subst hcd
            subst hn0
            clear hcap2
            go_wp2_with fail
            refine HPL.mono ?_
            rintro e w6 ⟨rfl, hb6⟩
            have d6 := ht.trans (hb6.mono ht.size)
            have hr6 := hrt.below hb6
            have hr3 : (w6.alloc (.cells #[.int .i64 z.k, .string z.p, .string z.b, .int .i64 z.m, .bool z.o] 45)).ownsRow w.heap.size 45 5 (.slice fA M.length fcap) M.length (flat M) := hr6.2.alloc _
            have hnews := rec_cells_new w6 z 45
            have hone := rec_one z
            have hbz : w.heap.size ≤ (w6.alloc (.cells #[.int .i64 z.k, .string z.p, .string z.b, .int .i64 z.m, .bool z.o] 45)).heap.size := (d6.alloc d6.size _).size
            go_wp2_with (first
              | (at_builtin; refine wpList_append_own _ rfl _ _ 24 rfl w.heap.size 45 i0 (.agg #[.int .i64 0, .string ByteArray.empty, .string ByteArray.empty, .int .i64 0, .bool false]) 5 56 Tryd.underlying24 hi hI0 hI1 hI2 rfl (by decide) _ _ _ rfl hr3 ⟨w6.heap.size, 0, none⟩ 1 1 (R.cs z) rfl rfl hnews hone (by unfold maxLen; omega) (by omega) hbz ?_; intro v' w9 hown' hgrow9 hnil9))
            have hrow9 := row_snoc hown'
            have hb9 : Below w.heap.size w w9 := (d6.alloc d6.size _).grown hgrow9 hbz (fun j hj => (hrow.2.lt j hj).1)
            exact ⟨⟨a, b, M ++ [z], HT1.out, HT2.out, fun r hr => hm1 r (List.mem_cons_of_mem _ hr), fun r hr => hm2 r (List.mem_cons_of_mem _ hr), by have h0 := HB2.out; have h1 := HA1.out; rw [List.length_append]; show M.length + 1 + a.length + b.length ≤ 1024; omega, hrow9, HN, hb9⟩, by simp only [lenV] <;> omega⟩
          · have HT2 := Lib.hid (tail_more (HR2.out) )
            go_wp2_with fail
            refine HPL.mono ?_
            rintro e w6 ⟨rfl, hb6⟩
            have d6 := ht.trans (hb6.mono ht.size)
            have hr6 := hrt.below hb6
            have hr3 : (w6.alloc (.cells #[.int .i64 z.k, .string z.p, .string z.b, .int .i64 z.m, .bool z.o] 45)).ownsRow w.heap.size 45 5 (.slice fA M.length fcap) M.length (flat M) := hr6.2.alloc _
            have hnews := rec_cells_new w6 z 45
            have hone := rec_one z
            have hbz : w.heap.size ≤ (w6.alloc (.cells #[.int .i64 z.k, .string z.p, .string z.b, .int .i64 z.m, .bool z.o] 45)).heap.size := (d6.alloc d6.size _).size
            go_wp2_with (first
              | (at_builtin; refine wpList_append_own _ rfl _ _ 24 rfl w.heap.size 45 i0 (.agg #[.int .i64 0, .string ByteArray.empty, .string ByteArray.empty, .int .i64 0, .bool false]) 5 56 Tryd.underlying24 hi hI0 hI1 hI2 rfl (by decide) _ _ _ rfl hr3 ⟨w6.heap.size, 0, none⟩ 1 1 (R.cs z) rfl rfl hnews hone (by unfold maxLen; omega) (by omega) hbz ?_; intro v' w9 hown' hgrow9 hnil9))
            have hrow9 := row_snoc hown'
            have hb9 : Below w.heap.size w w9 := (d6.alloc d6.size _).grown hgrow9 hbz (fun j hj => (hrow.2.lt j hj).1)
            exact ⟨⟨a, b, M ++ [z], HT1.out, HT2.out, fun r hr => hm1 r (List.mem_cons_of_mem _ hr), fun r hr => hm2 r (List.mem_cons_of_mem _ hr), by have h0 := HB2.out; have h1 := HA1.out; rw [List.length_append]; show M.length + 1 + a.length + b.length ≤ 1024; omega, hrow9, HN, hb9⟩, by simp only [lenV] <;> omega⟩
      · have HNE : Hid (x.p ≠ y.p) := fun e => by rw [e] at heq; simp at heq
        obtain ⟨_, x1, _, _, _⟩ := HX.out _ hbw
        obtain ⟨_, y1, _, _, _⟩ := HY.out _ hbw
        have hgr1 : b1 < wr.heap.size := by omega
        have hgr2 : b2 < wr.heap.size := by omega
        go_wp2
        go_region_held3 (fun w' => w'.cell? ⟨b1, off1 + 1, none⟩ = some (.string x.p) ∧ w'.cell? ⟨b2, off2 + 1, none⟩ = some (.string y.p)) (first | exact ⟨x1, y1⟩ | exact ⟨(hb3.cell (p := ⟨b1, off1 + 1, none⟩) hgr1).trans x1, (hb3.cell (p := ⟨b2, off2 + 1, none⟩) hgr2).trans y1⟩ | go_keep) (first | (go_at_call 48; refine (HLE _).mono ?_; rintro e w3 ⟨rfl, hb3⟩))
        have d3 : Below w.heap.size w w3 := hbw.drew.trans (hb3.mono hbw.size)
        have hr3 : RowOf w3 w.heap.size (.slice fA M.length fcap) M.length M := (hrow.below (Below.refl _ _).drew).below hb3
        clear x1 y1
        obtain ⟨x0, x1, x2, x3, x4⟩ := HX.out _ d3
        obtain ⟨_, y1, _, _, _⟩ := HY.out _ d3
        go_wp2
        go_quiet (fail)
        have ht : Below w.heap.size w (w3.drewN nq) := below_drewN d3 nq
        have hrt : RowOf (w3.drewN nq) w.heap.size (.slice fA M.length fcap) M.length M := hr3.below (below_drewN (Below.refl _ _) nq)
        generalize w3.drewN nq = wt at *
        clear x0 x1 x2 x3 x4 y1
        obtain ⟨e0, e1, e2, e3, e4⟩ := HY.out _ ht
        have HPL := placed_any y false wt
        unfold R.val at HPL
        generalize hz : placed y false = z at HPL
        have HZ := Lib.hid hz
        clear hz
        have HN : Hid (two L U = M ++ [z] ++ twoL U (x :: a) b) := HD.out.trans (by rw [two_high HNL.out HNE.out, ← HZ.out]; simp [placed])
        by_cases hcd : cap2 = 1
        · have HT2 := Lib.hid (tail_one (HR2.out) hcd)
          have hn0 : n2 = 1 := by omega
          subst hcd
          subst hn0
          clear hcap2
          go_wp2_with fail
          refine HPL.mono ?_
          rintro e w6 ⟨rfl, hb6⟩
          have d6 := ht.trans (hb6.mono ht.size)
          have hr6 := hrt.below hb6
          have hr3 : (w6.alloc (.cells #[.int .i64 z.k, .string z.p, .string z.b, .int .i64 z.m, .bool z.o] 45)).ownsRow w.heap.size 45 5 (.slice fA M.length fcap) M.length (flat M) := hr6.2.alloc _
          have hnews := rec_cells_new w6 z 45
          have hone := rec_one z
          have hbz : w.heap.size ≤ (w6.alloc (.cells #[.int .i64 z.k, .string z.p, .string z.b, .int .i64 z.m, .bool z.o] 45)).heap.size := (d6.alloc d6.size _).size
          go_wp2_with (first
            | (at_builtin; refine wpList_append_own _ rfl _ _ 24 rfl w.heap.size 45 i0 (.agg #[.int .i64 0, .string ByteArray.empty, .string ByteArray.empty, .int .i64 0, .bool false]) 5 56 Tryd.underlying24 hi hI0 hI1 hI2 rfl (by decide) _ _ _ rfl hr3 ⟨w6.heap.size, 0, none⟩ 1 1 (R.cs z) rfl rfl hnews hone (by unfold maxLen; omega) (by omega) hbz ?_; intro v' w9 hown' hgrow9 hnil9))
          have hrow9 := row_snoc hown'
          have hb9 : Below w.heap.size w w9 := (d6.alloc d6.size _).grown hgrow9 hbz (fun j hj => (hrow.2.lt j hj).1)
          exact ⟨⟨(x :: a), b, M ++ [z], HR1.out, HT2.out, hm1, fun r hr => hm2 r (List.mem_cons_of_mem _ hr), by have h0 := HB2.out; have h1 := HA1.out; rw [List.length_append]; show M.length + 1 + (a.length + 1) + b.length ≤ 1024; omega, hrow9, HN, hb9⟩, by simp only [lenV] <;> omega⟩
        · have HT2 := Lib.hid (tail_more (HR2.out) )
          go_wp2_with fail
          refine HPL.mono ?_
          rintro e w6 ⟨rfl, hb6⟩
          have d6 := ht.trans (hb6.mono ht.size)
          have hr6 := hrt.below hb6
          have hr3 : (w6.alloc (.cells #[.int .i64 z.k, .string z.p, .string z.b, .int .i64 z.m, .bool z.o] 45)).ownsRow w.heap.size 45 5 (.slice fA M.length fcap) M.length (flat M) := hr6.2.alloc _
          have hnews := rec_cells_new w6 z 45
          have hone := rec_one z
          have hbz : w.heap.size ≤ (w6.alloc (.cells #[.int .i64 z.k, .string z.p, .string z.b, .int .i64 z.m, .bool z.o] 45)).heap.size := (d6.alloc d6.size _).size
          go_wp2_with (first
            | (at_builtin; refine wpList_append_own _ rfl _ _ 24 rfl w.heap.size 45 i0 (.agg #[.int .i64 0, .string ByteArray.empty, .string ByteArray.empty, .int .i64 0, .bool false]) 5 56 Tryd.underlying24 hi hI0 hI1 hI2 rfl (by decide) _ _ _ rfl hr3 ⟨w6.heap.size, 0, none⟩ 1 1 (R.cs z) rfl rfl hnews hone (by unfold maxLen; omega) (by omega) hbz ?_; intro v' w9 hown' hgrow9 hnil9))
          have hrow9 := row_snoc hown'
          have hb9 : Below w.heap.size w w9 := (d6.alloc d6.size _).grown hgrow9 hbz (fun j hj => (hrow.2.lt j hj).1)
          exact ⟨⟨(x :: a), b, M ++ [z], HR1.out, HT2.out, hm1, fun r hr => hm2 r (List.mem_cons_of_mem _ hr), by have h0 := HB2.out; have h1 := HA1.out; rw [List.length_append]; show M.length + 1 + (a.length + 1) + b.length ≤ 1024; omega, hrow9, HN, hb9⟩, by simp only [lenV] <;> omega⟩
end Go.Proofs.YtcbmnihepeefaaaDoor.Recs

/- Combining two layers, of the model. -/

namespace Go.Proofs.YtcbmnihepeefaaaDoor.Recs
set_option maxRecDepth 100000
open Go.RowKit Paths Errs

theorem step_append_rec {P : Program} (w : World) {ops : Array Oper} {o : Oper} {a : Act} {K : Act → World → Prop} {Q : Exit → Act → World → Prop} {E : Prop} (hgd : o.guard = none) (s x : Operand) (t : TypeId)
    (ho : o.op = .call { callee := .builtin .append, args := #[s, x], argTypes := #[t, t] })
    (base : Nat) (e : TypeId) (i : TypeInfo) (z : Value) (size bytes : Nat) (ht : P.underlying t = some (.slice e)) (hi : P.info? e = some i) (hz : i.zero = some z)
    (hsize : i.size = size) (hby : i.bytes = bytes) (hzs : z.cells.size = size) (hsz : 0 < size)
    (v : Value) (n : Nat) (xs : List Value) (hs : a.eval s = v) (hown : w.ownsRow base e size v n xs)
    (ad : Addr) (m c : Nat) (news : List Value) (hx : a.eval x = .slice (some ad) m c) (hl : news.length = m * size) (hnews : ∀ j u, news[j]? = some u → w.cell? (ad.add j) = some u) (h1 : ∀ u ∈ news, u.oneCell' = true)
    (h63 : n + m ≤ maxLen) (hbytes : (n + m) * bytes ≤ 140737488355328) (hbase : base ≤ w.heap.size)
    (h : ∀ v' w', w'.ownsRow base e size v' (n + m) (xs ++ news) → w.grownBy w' v.ownBlock → (v' = .slice none 0 0 ↔ v = .slice none 0 0 ∧ m = 0) → K (a.put o.dst v') w') :
    if Region.wanted o (yielded ops a.tmps) = true then Oper.wp P o a w K Q else E := by
  have hw : Region.wanted o (yielded ops a.tmps) = true := by simp [Region.wanted, hgd]
  rw [if_pos hw]
  exact wp_append_own w s x t ho base e i z size bytes ht hi hz hsize hby hzs hsz v n xs hs hown ad m c news hx hl hnews h1 h63 hbytes hbase h
theorem path_64 {p : ByteArray} (h : pathB p.data.toList = true) : p.size ≤ 65536 := by
  have := path_short h
  omega
theorem over_any (x y : R) (w : World) :
    Calls Tryd.prog 45 #[x.val, y.val] w fun e w' => e = .returned (overR x y).val ∧ Below w.heap.size w w' := by
  have HST := l06Stops_any x
  obtain ⟨xk, xm, xp, xb, xo⟩ := x
  obtain ⟨rk, rm, rp, rb, ro⟩ := y
  unfold R.val at HST ⊢
  dsimp only at HST ⊢
  have hbA : Below w.heap.size w (((w.alloc (.cells #[.int .i64 xk, .string xp, .string xb, .int .i64 xm, .bool xo] 45)).alloc (.cells #[.int .i64 rk, .string rp, .string rb, .int .i64 rm, .bool ro] 45)).alloc (.cells #[.int .i64 0, .string ByteArray.empty, .string ByteArray.empty, .int .i64 0, .bool false] 45)) := (((Below.refl _ _).alloc (Nat.le_refl _) _).alloc (by simp) _).alloc (by simp; omega) _
  by_cases h3 : rk = 3
  · have q3 : (rk == 3) = true := by simp [h3]
    cases hs : stops ⟨xk, xm, xp, xb, xo⟩ with
    | true =>
      have HE : Hid (overR ⟨xk, xm, xp, xb, xo⟩ ⟨rk, rm, rp, rb, ro⟩ = ⟨rk, rm, rp, rb, true⟩) := if_pos ⟨h3, hs⟩
      rw [hs] at HST
      clear h3 hs
      go_enter Tryd.func45, Tryd.ntmps45
      go_wp2_with fail
      refine (HST _).mono ?_
      rintro e w1 ⟨rfl, hb1⟩
      obtain ⟨hc1, hf1⟩ := bcell hb1
      have hz1 : w.heap.size + 2 < w1.heap.size := by have := hb1.size; simp at this; omega
      have c1 := hbA.trans (hb1.mono hbA.size)
      go_wp2_with fail
      refine bodyPost_ret (v := .agg #[.int .i64 rk, .string rp, .string rb, .int .i64 rm, .bool true]) (by simp [results, Tryd.results45, go_sem, hc1]) rfl ⟨by rw [HE.out], ?_⟩
      repeat (refine Below.setCell ?_ (by simp; try omega) _)
      exact c1
    | false =>
      have HE : Hid (overR ⟨xk, xm, xp, xb, xo⟩ ⟨rk, rm, rp, rb, ro⟩ = ⟨rk, rm, rp, rb, ro⟩) := if_neg (fun h => by rw [hs] at h; cases h.2)
      rw [hs] at HST
      clear h3 hs
      go_enter Tryd.func45, Tryd.ntmps45
      go_wp2_with fail
      refine (HST _).mono ?_
      rintro e w1 ⟨rfl, hb1⟩
      obtain ⟨hc1, hf1⟩ := bcell hb1
      have hz1 : w.heap.size + 2 < w1.heap.size := by have := hb1.size; simp at this; omega
      have c1 := hbA.trans (hb1.mono hbA.size)
      go_wp2_with fail
      refine bodyPost_ret (v := .agg #[.int .i64 rk, .string rp, .string rb, .int .i64 rm, .bool ro]) (by simp [results, Tryd.results45, go_sem, hc1]) rfl ⟨by rw [HE.out], ?_⟩
      repeat (refine Below.setCell ?_ (by simp; try omega) _)
      exact c1
  · have q3 : (rk == 3) = false := by simp [h3]
    have HE : Hid (overR ⟨xk, xm, xp, xb, xo⟩ ⟨rk, rm, rp, rb, ro⟩ = ⟨rk, rm, rp, rb, ro⟩) := if_neg (fun h => h3 h.1)
    clear h3
    go_enter Tryd.func45, Tryd.ntmps45
    go_wp2_with fail
    refine bodyPost_ret (v := .agg #[.int .i64 rk, .string rp, .string rb, .int .i64 rm, .bool ro]) (by simp [results, Tryd.results45, go_sem]) rfl ⟨by rw [HE.out], ?_⟩
    exact (((Below.refl _ _).alloc (Nat.le_refl _) _).alloc (by simp) _).alloc (by simp; omega) _

set_option maxHeartbeats 6400000 in
theorem l06Two_any (v1 v2 : Value) (L U : List R) (w : World) (h1 : RecSl w v1 L) (h2 : RecSl w v2 U) (hL : Fine L) (hU : Fine U) (hl : L.length + U.length ≤ 1024) :
    Calls Tryd.prog 25 #[v1, v2] w fun e w' => ∃ x, e = .returned x ∧ Below w.heap.size w w' ∧ RowOf w' w.heap.size x (squashL L U).length (squashL L U) := by
  obtain ⟨i0, hi, hI0, hI1, hI2⟩ := info_parts recInfo
  have hpL : ∀ r ∈ L, pathB r.p.data.toList = true := hL.layer.path
  have hpU : ∀ r ∈ U, pathB r.p.data.toList = true := hU.layer.path
  have HCU : Hid (∀ r ∈ L, ∀ w', Below w.heap.size w w' → Calls Tryd.prog 33 #[v2, .string r.p] w' fun e w'' => e = .returned (.bool (cutsL U r.p)) ∧ Below w'.heap.size w' w'') := fun r hm w' hb => l06Cuts_any v2 U r.p w' (h2.below hb) (by omega) (hpL r hm)
  have HLS : Hid (∀ x ∈ L, ∀ y ∈ U, ∀ w', Calls Tryd.prog 44 #[.string x.p, .string y.p] w' fun e w'' => e = .returned (.bool (lessR x y)) ∧ Below w'.heap.size w' w'') := fun x hx y hy w' => l01Less_any x.p y.p w' (path_64 (hpL x hx)) (path_64 (hpU y hy))
  have HLT : Hid (∀ x ∈ L, ∀ y ∈ U, ∀ w', Calls Tryd.prog 44 #[.string y.p, .string x.p] w' fun e w'' => e = .returned (.bool (lessR y x)) ∧ Below w'.heap.size w' w'') := fun x hx y hy w' => l01Less_any y.p x.p w' (path_64 (hpU y hy)) (path_64 (hpL x hx))
  have HF2 := Lib.hid (two_fine hL hU)
  obtain ⟨a1, cap1, rfl, hcap1, hs1⟩ := h1
  obtain ⟨a2, cap2, rfl, hcap2, hs2⟩ := h2
  have HS1 := Lib.hid hs1
  have HS2 := Lib.hid hs2
  clear hpL hpU hL hU hs1 hs2
  have hown0 : (w.alloc (.cells #[] 45)).ownsRow w.heap.size 45 5 (.slice (some ⟨w.heap.size, 0, none⟩) 0 0) 0 [] := World.ownsRow_lit w #[] 0 (Nat.le_refl _) (Nat.zero_le _) rfl
  go_enter Tryd.func25, Tryd.ntmps25
  go_wp2
  go_loopw [5, 6, 7] (fun f iv kv wr => ∃ (i k : Nat) (M : List R), i ≤ L.length ∧ k ≤ U.length ∧ iv = .int .i64 i ∧ kv = .int .i64 k ∧ M.length ≤ i + k ∧ RowOf wr w.heap.size f M.length M ∧ Hid (two L U = M ++ twoL U (L.drop i) (U.drop k)) ∧ Below w.heap.size w wr) (fun _ iv kv _ => (L.length - (intOf iv).toNat) + (U.length - (intOf kv).toNat))
  case atStart => exact ⟨0, 0, [], by omega, by omega, rfl, rfl, by simp, ⟨rfl, hown0⟩, rfl, (Below.refl _ _).alloc (Nat.le_refl _) _⟩
  case round =>
    obtain ⟨i, k, M, hil, hkl, rfl, rfl, hMik, hrow, HD, hbw⟩ := hrel
    obtain ⟨fA, fcap, rfl⟩ := hrow.form
    have hszr := hbw.size
    have hMl : M.length ≤ 1024 := by omega
    have hi0 : (0 : Int) ≤ (i : Int) := by omega
    have hk0 : (0 : Int) ≤ (k : Int) := by omega
    by_cases hlt2 : k < U.length
    · have HUy : Hid (U.drop k = U[k] :: U.drop (k + 1)) := List.drop_eq_getElem_cons hlt2
      have hym := List.getElem_mem hlt2
      obtain ⟨b2, off2, rfl, hb2, hcell2⟩ := HS2.out (by omega)
      have HY : Hid (∀ W, Below w.heap.size w W → RecCells W b2 (off2 + k * 5) U[k]) := fun W hW => (hcell2 k U[k] (by simp [hlt2])).below hW hb2
      clear hcell2
      have hy1 : (k : Int) < (U.length : Int) := by omega
      have hdy : decide ((k : Int) < (U.length : Int)) = true := by simp; omega
      have hey : ((k : Int) == (U.length : Int)) = false := by simp; omega
      by_cases hlt1 : i < L.length
      · have HLx : Hid (L.drop i = L[i] :: L.drop (i + 1)) := List.drop_eq_getElem_cons hlt1
        have hxm := List.getElem_mem hlt1
        obtain ⟨b1, off1, rfl, hb1, hcell1⟩ := HS1.out (by omega)
        have HX : Hid (∀ W, Below w.heap.size w W → RecCells W b1 (off1 + i * 5) L[i]) := fun W hW => (hcell1 i L[i] (by simp [hlt1])).below hW hb1
        clear hcell1
        have hx1 : (i : Int) < (L.length : Int) := by omega
        have hdx : decide ((i : Int) < (L.length : Int)) = true := by simp; omega
        have hex : ((i : Int) == (L.length : Int)) = false := by simp; omega
        have HLE := fun W => HLS.out L[i] hxm U[k] hym W
        rcases Bool.eq_false_or_eq_true (lessR L[i] U[k]) with hls | hls
        · rw [hls] at HLE
          obtain ⟨_, x1, _, _, _⟩ := HX.out _ hbw
          obtain ⟨_, y1, _, _, _⟩ := HY.out _ hbw
          have hgr1 : b1 < wr.heap.size := by have := hbw.size; omega
          have hgr2 : b2 < wr.heap.size := by have := hbw.size; omega
          go_wp2
          go_region_held3 (fun w' => w'.cell? ⟨b1, off1 + i * 5 + 1, none⟩ = some (.string L[i].p) ∧ w'.cell? ⟨b2, off2 + k * 5 + 1, none⟩ = some (.string U[k].p)) (first | exact ⟨x1, y1⟩ | exact ⟨(hb3.cell (p := ⟨b1, off1 + i * 5 + 1, none⟩) hgr1).trans x1, (hb3.cell (p := ⟨b2, off2 + k * 5 + 1, none⟩) hgr2).trans y1⟩ | go_keep) (first | (go_at_call 44; refine (HLE _).mono ?_; rintro e wt ⟨rfl, hb3⟩))
          have ht : Below w.heap.size w wt := hbw.drew.trans (hb3.mono hbw.size)
          have hrt : RowOf wt w.heap.size (.slice fA M.length fcap) M.length M := (hrow.below (Below.refl _ _).drew).below hb3
          clear x1 y1 hgr1 hgr2 hb3
          have HC := HCU.out L[i] hxm _ ht
          obtain ⟨c0, c1, c2, c3, c4⟩ := HX.out _ ht
          rcases Bool.eq_false_or_eq_true (cutsL U L[i].p) with hc | hc
          · have HN : Hid (two L U = M ++ twoL U (L.drop (i + 1)) (U.drop k)) := HD.out.trans (by rw [HLx.out, HUy.out, two_cut1 hls hc])
            rw [hc] at HC
            go_wp2_with fail
            refine HC.mono ?_
            rintro e w5 ⟨rfl, hb5⟩
            have d5 := ht.trans (hb5.mono ht.size)
            have hr5 := hrt.below hb5
            go_wp2_with fail
            exact ⟨⟨i + 1, k, M, by omega, by omega, by go_num, rfl, by omega, hr5, HN, d5⟩, by simp [intOf]; omega⟩
          · have HN : Hid (two L U = M ++ [L[i]] ++ twoL U (L.drop (i + 1)) (U.drop k)) := HD.out.trans (by rw [HLx.out, HUy.out, two_take1 hls hc]; simp)
            rw [hc] at HC
            go_wp2_with fail
            refine HC.mono ?_
            rintro e w5 ⟨rfl, hb5⟩
            have d5 := ht.trans (hb5.mono ht.size)
            have hr5 := hrt.below hb5
            clear c0 c1 c2 c3 c4
            obtain ⟨c0, c1, c2, c3, c4⟩ := HX.out _ d5
            have hr3 : (w5.alloc (.cells #[.int .i64 L[i].k, .string L[i].p, .string L[i].b, .int .i64 L[i].m, .bool L[i].o] 45)).ownsRow w.heap.size 45 5 (.slice fA M.length fcap) M.length (flat M) := hr5.2.alloc _
            have hnews := rec_cells_new w5 L[i] 45
            have hone := rec_one L[i]
            have hbz : w.heap.size ≤ (w5.alloc (.cells #[.int .i64 L[i].k, .string L[i].p, .string L[i].b, .int .i64 L[i].m, .bool L[i].o] 45)).heap.size := (d5.alloc d5.size _).size
            go_wp2_with (first
              | (at_builtin; refine wpList_append_own _ rfl _ _ 24 rfl w.heap.size 45 i0 (.agg #[.int .i64 0, .string ByteArray.empty, .string ByteArray.empty, .int .i64 0, .bool false]) 5 56 Tryd.underlying24 hi hI0 hI1 hI2 rfl (by decide) _ _ _ rfl hr3 ⟨w5.heap.size, 0, none⟩ 1 1 (R.cs L[i]) rfl rfl hnews hone (by unfold maxLen; omega) (by omega) hbz ?_; intro v' w9 hown' hgrow9 hnil9))
            have hrow9 := row_snoc hown'
            have hb9 : Below w.heap.size w w9 := (d5.alloc d5.size _).grown hgrow9 hbz (fun j hj => (hrow.2.lt j hj).1)
            exact ⟨⟨i + 1, k, M ++ [L[i]], by omega, by omega, by go_num, rfl, by simp; omega, hrow9, HN, hb9⟩, by simp [intOf]; omega⟩
        rw [hls] at HLE
        have HLF := fun W => HLT.out L[i] hxm U[k] hym W
        rcases Bool.eq_false_or_eq_true (lessR U[k] L[i]) with hlt | hlt
        · have HNE : Hid (L[i].p ≠ U[k].p) := fun e => less_ne hlt e.symm
          have HNL := Lib.hid hls
          rw [hlt] at HLF
          obtain ⟨_, x1, _, _, _⟩ := HX.out _ hbw
          obtain ⟨_, y1, _, _, _⟩ := HY.out _ hbw
          have hgr1 : b1 < wr.heap.size := by have := hbw.size; omega
          have hgr2 : b2 < wr.heap.size := by have := hbw.size; omega
          go_wp2
          go_region_held3 (fun w' => w'.cell? ⟨b1, off1 + i * 5 + 1, none⟩ = some (.string L[i].p) ∧ w'.cell? ⟨b2, off2 + k * 5 + 1, none⟩ = some (.string U[k].p)) (first | exact ⟨x1, y1⟩ | exact ⟨(hb3.cell (p := ⟨b1, off1 + i * 5 + 1, none⟩) hgr1).trans x1, (hb3.cell (p := ⟨b2, off2 + k * 5 + 1, none⟩) hgr2).trans y1⟩ | go_keep) (first | (go_at_call 44; refine (HLE _).mono ?_; rintro e w3 ⟨rfl, hb3⟩))
          have d3 : Below w.heap.size w w3 := hbw.drew.trans (hb3.mono hbw.size)
          have hr3 : RowOf w3 w.heap.size (.slice fA M.length fcap) M.length M := (hrow.below (Below.refl _ _).drew).below hb3
          clear x1 y1 hgr1 hgr2 hb3
          obtain ⟨_, x1, _, _, _⟩ := HX.out _ d3
          obtain ⟨_, y1, _, _, _⟩ := HY.out _ d3
          have hgr1 : b1 < w3.heap.size := by have := d3.size; omega
          have hgr2 : b2 < w3.heap.size := by have := d3.size; omega
          go_wp2
          go_region_held3 (fun w' => w'.cell? ⟨b1, off1 + i * 5 + 1, none⟩ = some (.string L[i].p) ∧ w'.cell? ⟨b2, off2 + k * 5 + 1, none⟩ = some (.string U[k].p)) (first | exact ⟨x1, y1⟩ | exact ⟨(hb3.cell (p := ⟨b1, off1 + i * 5 + 1, none⟩) hgr1).trans x1, (hb3.cell (p := ⟨b2, off2 + k * 5 + 1, none⟩) hgr2).trans y1⟩ | go_keep) (first | (go_at_call 44; refine (HLF _).mono ?_; rintro e wt ⟨rfl, hb3⟩))
          have ht : Below w.heap.size w wt := d3.drew.trans (hb3.mono d3.size)
          have hrt : RowOf wt w.heap.size (.slice fA M.length fcap) M.length M := (hr3.below (Below.refl _ _).drew).below hb3
          clear x1 y1 hgr1 hgr2 hb3
          obtain ⟨e0, e1, e2, e3, e4⟩ := HY.out _ ht
          have HN : Hid (two L U = M ++ [U[k]] ++ twoL U (L.drop i) (U.drop (k + 1))) := HD.out.trans (by rw [HLx.out, HUy.out, two_high HNL.out HNE.out]; simp)
          have hr3 : (wt.alloc (.cells #[.int .i64 U[k].k, .string U[k].p, .string U[k].b, .int .i64 U[k].m, .bool U[k].o] 45)).ownsRow w.heap.size 45 5 (.slice fA M.length fcap) M.length (flat M) := hrt.2.alloc _
          have hnews := rec_cells_new wt U[k] 45
          have hone := rec_one U[k]
          have hbz : w.heap.size ≤ (wt.alloc (.cells #[.int .i64 U[k].k, .string U[k].p, .string U[k].b, .int .i64 U[k].m, .bool U[k].o] 45)).heap.size := (ht.alloc ht.size _).size
          go_wp2_with (first
            | (at_builtin; refine wpList_append_own _ rfl _ _ 24 rfl w.heap.size 45 i0 (.agg #[.int .i64 0, .string ByteArray.empty, .string ByteArray.empty, .int .i64 0, .bool false]) 5 56 Tryd.underlying24 hi hI0 hI1 hI2 rfl (by decide) _ _ _ rfl hr3 ⟨wt.heap.size, 0, none⟩ 1 1 (R.cs U[k]) rfl rfl hnews hone (by unfold maxLen; omega) (by omega) hbz ?_; intro v' w9 hown' hgrow9 hnil9))
          have hrow9 := row_snoc hown'
          have hb9 : Below w.heap.size w w9 := (ht.alloc ht.size _).grown hgrow9 hbz (fun j hj => (hrow.2.lt j hj).1)
          exact ⟨⟨i, k + 1, M ++ [U[k]], by omega, by omega, rfl, by go_num, by simp; omega, hrow9, HN, hb9⟩, by simp [intOf]; omega⟩
        · have HEQ : Hid (L[i].p = U[k].p) := (by
            refine Classical.byContradiction fun hne => ?_
            rcases less_or hne with h | h
            · rw [hls] at h; cases h
            · rw [hlt] at h; cases h)
          rw [hlt] at HLF
          clear hls hlt
          obtain ⟨_, x1, _, _, _⟩ := HX.out _ hbw
          obtain ⟨_, y1, _, _, _⟩ := HY.out _ hbw
          have hgr1 : b1 < wr.heap.size := by have := hbw.size; omega
          have hgr2 : b2 < wr.heap.size := by have := hbw.size; omega
          go_wp2
          go_region_held3 (fun w' => w'.cell? ⟨b1, off1 + i * 5 + 1, none⟩ = some (.string L[i].p) ∧ w'.cell? ⟨b2, off2 + k * 5 + 1, none⟩ = some (.string U[k].p)) (first | exact ⟨x1, y1⟩ | exact ⟨(hb3.cell (p := ⟨b1, off1 + i * 5 + 1, none⟩) hgr1).trans x1, (hb3.cell (p := ⟨b2, off2 + k * 5 + 1, none⟩) hgr2).trans y1⟩ | go_keep) (first | (go_at_call 44; refine (HLE _).mono ?_; rintro e w3 ⟨rfl, hb3⟩))
          have d3 : Below w.heap.size w w3 := hbw.drew.trans (hb3.mono hbw.size)
          have hr3 : RowOf w3 w.heap.size (.slice fA M.length fcap) M.length M := (hrow.below (Below.refl _ _).drew).below hb3
          clear x1 y1 hgr1 hgr2 hb3
          obtain ⟨_, x1, _, _, _⟩ := HX.out _ d3
          obtain ⟨_, y1, _, _, _⟩ := HY.out _ d3
          have hgr1 : b1 < w3.heap.size := by have := d3.size; omega
          have hgr2 : b2 < w3.heap.size := by have := d3.size; omega
          go_wp2
          go_region_held3 (fun w' => w'.cell? ⟨b1, off1 + i * 5 + 1, none⟩ = some (.string L[i].p) ∧ w'.cell? ⟨b2, off2 + k * 5 + 1, none⟩ = some (.string U[k].p)) (first | exact ⟨x1, y1⟩ | exact ⟨(hb3.cell (p := ⟨b1, off1 + i * 5 + 1, none⟩) hgr1).trans x1, (hb3.cell (p := ⟨b2, off2 + k * 5 + 1, none⟩) hgr2).trans y1⟩ | go_keep) (first | (go_at_call 44; refine (HLF _).mono ?_; rintro e w4 ⟨rfl, hb3⟩))
          have d4 : Below w.heap.size w w4 := d3.drew.trans (hb3.mono d3.size)
          have hr4 : RowOf w4 w.heap.size (.slice fA M.length fcap) M.length M := (hr3.below (Below.refl _ _).drew).below hb3
          clear x1 y1 hgr1 hgr2 hb3
          have HN : Hid (two L U = M ++ [overR L[i] U[k]] ++ twoL U (L.drop (i + 1)) (U.drop (k + 1))) := HD.out.trans (by rw [HLx.out, HUy.out, two_eq HEQ.out]; simp)
          have HO := fun W => over_any L[i] U[k] W
          unfold R.val at HO
          generalize overR L[i] U[k] = z at *
          obtain ⟨x0, x1, x2, x3, x4⟩ := HX.out _ d4
          obtain ⟨y0, y1, y2, y3, y4⟩ := HY.out _ d4
          have HR3 : Hid (∀ w6, Below w4.heap.size w4.drew w6 → Below w.heap.size w (w6.alloc (.cells #[.int .i64 z.k, .string z.p, .string z.b, .int .i64 z.m, .bool z.o] 45)) ∧ (w6.alloc (.cells #[.int .i64 z.k, .string z.p, .string z.b, .int .i64 z.m, .bool z.o] 45)).ownsRow w.heap.size 45 5 (.slice fA M.length fcap) M.length (flat M) ∧ w.heap.size ≤ (w6.alloc (.cells #[.int .i64 z.k, .string z.p, .string z.b, .int .i64 z.m, .bool z.o] 45)).heap.size ∧ ∀ j u, (R.cs z)[j]? = some u → (w6.alloc (.cells #[.int .i64 z.k, .string z.p, .string z.b, .int .i64 z.m, .bool z.o] 45)).cell? ((⟨w6.heap.size, 0, none⟩ : Addr).add j) = some u) := fun w6 hb6 => (by
            have e1 : Below w.heap.size w w6 := d4.drew.trans (hb6.mono d4.size)
            exact ⟨e1.alloc e1.size _, (((hr4.below (Below.refl _ _).drew).below hb6).2.alloc _), (e1.alloc e1.size _).size, rec_cells_new w6 z _⟩)
          have HOh := Lib.hid HO
          have hone := rec_one z
          clear HO
          go_wp2
          go_region_law (first
            | (refine step_append_rec _ (by rfl) (.tmp 19) (.tmp 29) 24 (by rfl) w.heap.size 45 i0 (.agg #[.int .i64 0, .string ByteArray.empty, .string ByteArray.empty, .int .i64 0, .bool false]) 5 56 Tryd.underlying24 hi hI0 hI1 hI2 rfl (by decide) (.slice fA M.length fcap) M.length (flat M) (by simp [Act.eval]) hr3 ⟨w6.heap.size, 0, none⟩ 1 1 (R.cs z) (by simp [Act.eval]) rfl hnews hone (by unfold maxLen; omega) (by omega) hbz ?_; intro v' w9 hown' hgrow9 hnil9; have HR9 := Lib.hid (row_snoc hown'); have hb9 : Below w.heap.size w w9 := e2.grown hgrow9 hbz (fun j hj => (hrow.2.lt j hj).1); clear hown' hgrow9 hnil9)
            | (go_simp; go_at_call 45; refine (HOh.out _).mono ?_; rintro e w6 ⟨rfl, hb6⟩; obtain ⟨e2, hr3, hbz, hnews⟩ := HR3.out w6 (by simpa using hb6)))
          all_goals (go_wp2; exact ⟨⟨i + 1, k + 1, M ++ [z], by omega, by omega, by go_num, by go_num, by simp; omega, HR9.out, HN, hb9⟩, by simp [intOf]; omega⟩)
      · have hie : i = L.length := by omega
        have HLx : Hid (L.drop i = []) := List.drop_eq_nil_of_le (by omega)
        have hdx : decide ((i : Int) < (L.length : Int)) = false := by simp; omega
        have hex : ((i : Int) == (L.length : Int)) = true := by simp; omega
        clear hie
        go_wp2
        go_quiet (fail)
        have hq : Below w.heap.size w (wr.drewN nq) := below_drewN hbw nq
        have hrq : RowOf (wr.drewN nq) w.heap.size (.slice fA M.length fcap) M.length M := hrow.below (below_drewN (Below.refl _ _) nq)
        generalize wr.drewN nq = wq at *
        go_wp2
        go_quiet (fail)
        have ht : Below w.heap.size w (wq.drewN nq) := below_drewN hq nq
        have hrt : RowOf (wq.drewN nq) w.heap.size (.slice fA M.length fcap) M.length M := hrq.below (below_drewN (Below.refl _ _) nq)
        generalize wq.drewN nq = wt at *
        obtain ⟨e0, e1, e2, e3, e4⟩ := HY.out _ ht
        have HN : Hid (two L U = M ++ [U[k]] ++ twoL U (L.drop i) (U.drop (k + 1))) := HD.out.trans (by rw [HLx.out, HUy.out, two_up]; simp)
        have hr3 : (wt.alloc (.cells #[.int .i64 U[k].k, .string U[k].p, .string U[k].b, .int .i64 U[k].m, .bool U[k].o] 45)).ownsRow w.heap.size 45 5 (.slice fA M.length fcap) M.length (flat M) := hrt.2.alloc _
        have hnews := rec_cells_new wt U[k] 45
        have hone := rec_one U[k]
        have hbz : w.heap.size ≤ (wt.alloc (.cells #[.int .i64 U[k].k, .string U[k].p, .string U[k].b, .int .i64 U[k].m, .bool U[k].o] 45)).heap.size := (ht.alloc ht.size _).size
        go_wp2_with (first
          | (at_builtin; refine wpList_append_own _ rfl _ _ 24 rfl w.heap.size 45 i0 (.agg #[.int .i64 0, .string ByteArray.empty, .string ByteArray.empty, .int .i64 0, .bool false]) 5 56 Tryd.underlying24 hi hI0 hI1 hI2 rfl (by decide) _ _ _ rfl hr3 ⟨wt.heap.size, 0, none⟩ 1 1 (R.cs U[k]) rfl rfl hnews hone (by unfold maxLen; omega) (by omega) hbz ?_; intro v' w9 hown' hgrow9 hnil9))
        have hrow9 := row_snoc hown'
        have hb9 : Below w.heap.size w w9 := (ht.alloc ht.size _).grown hgrow9 hbz (fun j hj => (hrow.2.lt j hj).1)
        exact ⟨⟨i, k + 1, M ++ [U[k]], by omega, by omega, rfl, by go_num, by simp; omega, hrow9, HN, hb9⟩, by simp [intOf]; omega⟩
    · have hke : k = U.length := by omega
      have HUy : Hid (U.drop k = []) := List.drop_eq_nil_of_le (by omega)
      have hdy : decide ((k : Int) < (U.length : Int)) = false := by simp; omega
      have hey : ((k : Int) == (U.length : Int)) = true := by simp; omega
      clear hke
      by_cases hlt1 : i < L.length
      · have HLx : Hid (L.drop i = L[i] :: L.drop (i + 1)) := List.drop_eq_getElem_cons hlt1
        have hxm := List.getElem_mem hlt1
        obtain ⟨b1, off1, rfl, hb1, hcell1⟩ := HS1.out (by omega)
        have HX : Hid (∀ W, Below w.heap.size w W → RecCells W b1 (off1 + i * 5) L[i]) := fun W hW => (hcell1 i L[i] (by simp [hlt1])).below hW hb1
        clear hcell1
        have hx1 : (i : Int) < (L.length : Int) := by omega
        have hdx : decide ((i : Int) < (L.length : Int)) = true := by simp; omega
        have hex : ((i : Int) == (L.length : Int)) = false := by simp; omega
        go_wp2
        go_quiet (fail)
        have ht : Below w.heap.size w (wr.drewN nq) := below_drewN hbw nq
        have hrt : RowOf (wr.drewN nq) w.heap.size (.slice fA M.length fcap) M.length M := hrow.below (below_drewN (Below.refl _ _) nq)
        generalize wr.drewN nq = wt at *
        have HC := HCU.out L[i] hxm _ ht
        obtain ⟨c0, c1, c2, c3, c4⟩ := HX.out _ ht
        rcases Bool.eq_false_or_eq_true (cutsL U L[i].p) with hc | hc
        · have HN : Hid (two L U = M ++ twoL U (L.drop (i + 1)) (U.drop k)) := HD.out.trans (by rw [HLx.out, HUy.out, two_cut0 hc])
          rw [hc] at HC
          go_wp2_with fail
          refine HC.mono ?_
          rintro e w5 ⟨rfl, hb5⟩
          have d5 := ht.trans (hb5.mono ht.size)
          have hr5 := hrt.below hb5
          go_wp2_with fail
          exact ⟨⟨i + 1, k, M, by omega, by omega, by go_num, rfl, by omega, hr5, HN, d5⟩, by simp [intOf]; omega⟩
        · have HN : Hid (two L U = M ++ [L[i]] ++ twoL U (L.drop (i + 1)) (U.drop k)) := HD.out.trans (by rw [HLx.out, HUy.out, two_take0 hc]; simp)
          rw [hc] at HC
          go_wp2_with fail
          refine HC.mono ?_
          rintro e w5 ⟨rfl, hb5⟩
          have d5 := ht.trans (hb5.mono ht.size)
          have hr5 := hrt.below hb5
          clear c0 c1 c2 c3 c4
          obtain ⟨c0, c1, c2, c3, c4⟩ := HX.out _ d5
          have hr3 : (w5.alloc (.cells #[.int .i64 L[i].k, .string L[i].p, .string L[i].b, .int .i64 L[i].m, .bool L[i].o] 45)).ownsRow w.heap.size 45 5 (.slice fA M.length fcap) M.length (flat M) := hr5.2.alloc _
          have hnews := rec_cells_new w5 L[i] 45
          have hone := rec_one L[i]
          have hbz : w.heap.size ≤ (w5.alloc (.cells #[.int .i64 L[i].k, .string L[i].p, .string L[i].b, .int .i64 L[i].m, .bool L[i].o] 45)).heap.size := (d5.alloc d5.size _).size
          go_wp2_with (first
            | (at_builtin; refine wpList_append_own _ rfl _ _ 24 rfl w.heap.size 45 i0 (.agg #[.int .i64 0, .string ByteArray.empty, .string ByteArray.empty, .int .i64 0, .bool false]) 5 56 Tryd.underlying24 hi hI0 hI1 hI2 rfl (by decide) _ _ _ rfl hr3 ⟨w5.heap.size, 0, none⟩ 1 1 (R.cs L[i]) rfl rfl hnews hone (by unfold maxLen; omega) (by omega) hbz ?_; intro v' w9 hown' hgrow9 hnil9))
          have hrow9 := row_snoc hown'
          have hb9 : Below w.heap.size w w9 := (d5.alloc d5.size _).grown hgrow9 hbz (fun j hj => (hrow.2.lt j hj).1)
          exact ⟨⟨i + 1, k, M ++ [L[i]], by omega, by omega, by go_num, rfl, by simp; omega, hrow9, HN, hb9⟩, by simp [intOf]; omega⟩
      · have HLx : Hid (L.drop i = []) := List.drop_eq_nil_of_le (by omega)
        have hdx : decide ((i : Int) < (L.length : Int)) = false := by simp; omega
        have HM : Hid (two L U = M) := HD.out.trans (by rw [HLx.out, HUy.out, two_end]; simp)
        have HFM : Hid (Fine M) := by have := HF2.out; rw [HM.out] at this; exact this
        have HC4 := l03Canon_gen _ M wr hrow.sl HFM.out.layer.sorted HFM.out.fine (by omega)
        go_wp2_with fail
        refine HC4.mono ?_
        rintro e w4 ⟨f, rfl, hb4, hf⟩
        go_wp2_with fail
        go_ret
        exact ⟨f, rfl, hbw.trans (hb4.mono hbw.size), by show RowOf w4 w.heap.size f (canonL (two L U)).length (canonL (two L U)); rw [HM.out]; exact ⟨hf.1, own_le hf.2 hbw.size⟩⟩
end Go.Proofs.YtcbmnihepeefaaaDoor.Recs

/- Squash, of the program and of its model. Conditions (of the program's): the table of kinds, the two sentinels. -/

namespace Go.Proofs.YtcbmnihepeefaaaDoor.Recs
set_option maxRecDepth 100000
open Go.RowKit Paths Errs

/-- The code of a combination that has grown too long. -/
def limR (l : List R) : List R := if 16 < l.length then [] else l
def limE (l : List R) : Int := if 16 < l.length then 7 else 0
theorem limitRecords_any (A : Option Addr) (n cap : Nat) (w : World) :
    Calls Tryd.prog 29 #[.slice A n cap] w fun e w' => e = .returned (if 16 < n then .tuple #[.slice none 0 0, .int .i64 7] else .tuple #[.slice A n cap, .int .i64 0]) ∧ w = w' := by
  by_cases h : 16 < n
  · rw [if_pos h]
    have hd : decide ((16 : Int) < (n : Int)) = true := by simp; omega
    go_enter Tryd.func29, Tryd.ntmps29
    go_wp2_with fail
    go_ret2
    exact ⟨rfl, rfl⟩
  · rw [if_neg h]
    have hd : decide ((16 : Int) < (n : Int)) = false := by simp; omega
    go_enter Tryd.func29, Tryd.ntmps29
    go_wp2_with fail
    go_ret2
    exact ⟨rfl, rfl⟩
def sqC (A B : List R) : Int := if codeLL A B = 0 then limE (squashL A B) else codeLL A B
def sqR (A B : List R) : List R := if codeLL A B = 0 then limR (squashL A B) else []
theorem sq_bad {A B : List R} {c : Int} (h : codeLL A B = c) (hc : c ≠ 0) : sqC A B = c ∧ sqR A B = [] := by
  unfold sqC sqR
  rw [if_neg (by rw [h]; exact hc), if_neg (by rw [h]; exact hc), h]
  exact ⟨rfl, rfl⟩
theorem sq_full {A B : List R} (h : codeLL A B = 0) (hl : 16 < (squashL A B).length) : sqC A B = 7 ∧ sqR A B = [] := by
  unfold sqC sqR limE limR
  rw [if_pos h, if_pos h, if_pos hl, if_pos hl]
  exact ⟨rfl, rfl⟩
theorem sq_fine {A B : List R} (h : codeLL A B = 0) (hl : ¬ 16 < (squashL A B).length) : sqC A B = 0 ∧ sqR A B = squashL A B := by
  unfold sqC sqR limE limR
  rw [if_pos h, if_pos h, if_neg hl, if_neg hl]
  exact ⟨rfl, rfl⟩
theorem sqR_len (A B : List R) : (sqR A B).length ≤ 1048576 := by
  unfold sqR limR
  split
  · split
    · simp
    · omega
  · simp
set_option maxHeartbeats 3200000 in
theorem squash_impl (v1 v2 : Value) (A B : List R) (x y : Addr) (w : World) (h1 : RecSl w v1 A) (h2 : RecSl w v2 B) (hl1 : A.length ≤ 1048576) (hl2 : B.length ≤ 1048576) (hr1 : ∀ r ∈ A, r.p.size ≤ maxLen) (hr2 : ∀ r ∈ B, r.p.size ≤ maxLen) (hT : Three w x y) :
    Calls Tryd.prog 10 #[v1, v2] w fun e w' => ∃ x, e = .returned (.tuple #[x, .int .i64 (sqC A B)]) ∧ Below w.heap.size w w' ∧ RowOf w' w.heap.size x (sqR A B).length (sqR A B) := by
  have HC1 := checkLayer_any v1 A x _ h1 hl1 hr1 hT.tab hT.long
  rw [← checkK_val] at HC1
  have HS1 := Lib.hid h1
  have HS2 := Lib.hid h2
  obtain ⟨A1, cap1, rfl, -⟩ := h1
  obtain ⟨A2, cap2, rfl, -⟩ := h2
  cases hk1 : checkK A with
  | fine =>
    rw [hk1] at HC1
    simp only [EK.val] at HC1
    cases hk2 : checkK B with
    | fine =>
      have HE := Lib.hid (show codeLL A B = 0 by rw [← arg_ll, hk1, hk2]; rfl)
      obtain ⟨hoa, hob⟩ := codeLL_ok HE.out
      go_enter Tryd.func10, Tryd.ntmps10
      go_wp2_with fail
      refine HC1.mono ?_
      rintro e w1 ⟨rfl, hb1⟩
      have hT1 := hT.below hb1 (Nat.le_refl _)
      have HC2 := checkLayer_any _ B x _ (HS2.out.below hb1) hl2 hr2 hT1.tab hT1.long
      rw [← checkK_val, hk2] at HC2
      simp only [EK.val] at HC2
      go_wp2_with fail
      refine HC2.mono ?_
      rintro e w2 ⟨rfl, hb2⟩
      have c2 := hb1.trans (hb2.mono hb1.size)
      have HA := arg2_any .fine .fine x y w2 (hT.below c2 (Nat.le_refl _))
      simp only [EK.val] at HA
      go_wp2_with fail
      refine HA.mono ?_
      rintro e w3 ⟨rfl, hb3⟩
      have c3 := c2.trans (hb3.mono c2.size)
      have hcode : argFrom [.fine, .fine] 0 = 0 := rfl
      rw [hcode]
      have hla := layer_len hoa
      have hlb := layer_len hob
      have HCO := combination_any _ _ A B _ (HS1.out.below c3) (HS2.out.below c3) (fine_layer hoa) (fine_layer hob) (by omega)
      go_wp2_with fail
      refine HCO.mono ?_
      rintro e w4 ⟨f, rfl, hb4, hf⟩
      have c4 := c3.trans (hb4.mono c3.size)
      obtain ⟨fA, fcap, rfl⟩ := hf.form
      have HLI := limitRecords_any fA (squashL A B).length fcap w4
      have HF := Lib.hid hf
      clear hf HCO
      by_cases h16 : 16 < (squashL A B).length
      · have HQ := Lib.hid (sq_full HE.out h16)
        rw [if_pos h16] at HLI
        clear h16
        go_wp2_with fail
        refine HLI.mono ?_
        rintro e w5 ⟨rfl, rfl⟩
        go_wp2_with fail
        go_ret2
        exact ⟨.slice none 0 0, by rw [HQ.out.1]; rfl, c4, by rw [HQ.out.2]; exact ⟨rfl, World.ownsRow_nil _ _ _ _⟩⟩
      · have HQ := Lib.hid (sq_fine HE.out h16)
        rw [if_neg h16] at HLI
        clear h16
        go_wp2_with fail
        refine HLI.mono ?_
        rintro e w5 ⟨rfl, rfl⟩
        go_wp2_with fail
        go_ret2
        exact ⟨_, by rw [HQ.out.1]; rfl, c4, by rw [HQ.out.2]; exact ⟨HF.out.1, own_le HF.out.2 c3.size⟩⟩
    | long =>
      have HE := Lib.hid (show codeLL A B = 2 by rw [← arg_ll, hk1, hk2]; rfl)
      go_enter Tryd.func10, Tryd.ntmps10
      go_wp2_with fail
      refine HC1.mono ?_
      rintro e w1 ⟨rfl, hb1⟩
      have hT1 := hT.below hb1 (Nat.le_refl _)
      have HC2 := checkLayer_any _ B x _ (HS2.out.below hb1) hl2 hr2 hT1.tab hT1.long
      rw [← checkK_val, hk2] at HC2
      simp only [EK.val, errV] at HC2
      go_wp2_with fail
      refine HC2.mono ?_
      rintro e w2 ⟨rfl, hb2⟩
      have c2 := hb1.trans (hb2.mono hb1.size)
      have HA := arg2_any .fine .long x y w2 (hT.below c2 (Nat.le_refl _))
      simp only [EK.val, errV] at HA
      go_wp2_with fail
      refine HA.mono ?_
      rintro e w3 ⟨rfl, hb3⟩
      have c3 := c2.trans (hb3.mono c2.size)
      have hcode : argFrom [.fine, .long] 0 = 2 := rfl
      rw [hcode]
      have HQ := Lib.hid (sq_bad HE.out (by decide))
      go_wp2_with fail
      go_ret2
      exact ⟨.slice none 0 0, by rw [HQ.out.1]; rfl, c3, by rw [HQ.out.2]; exact ⟨rfl, World.ownsRow_nil _ _ _ _⟩⟩
    | bad j d =>
      have HE := Lib.hid (show codeLL A B = 1 by rw [← arg_ll, hk1, hk2]; rfl)
      go_enter Tryd.func10, Tryd.ntmps10
      go_wp2_with fail
      refine HC1.mono ?_
      rintro e w1 ⟨rfl, hb1⟩
      have hT1 := hT.below hb1 (Nat.le_refl _)
      have HC2 := checkLayer_any _ B x _ (HS2.out.below hb1) hl2 hr2 hT1.tab hT1.long
      rw [← checkK_val, hk2] at HC2
      simp only [EK.val, recV] at HC2
      go_wp2_with fail
      refine HC2.mono ?_
      rintro e w2 ⟨rfl, hb2⟩
      have c2 := hb1.trans (hb2.mono hb1.size)
      have HA := arg2_any .fine (.bad j d) x y w2 (hT.below c2 (Nat.le_refl _))
      simp only [EK.val, recV] at HA
      go_wp2_with fail
      refine HA.mono ?_
      rintro e w3 ⟨rfl, hb3⟩
      have c3 := c2.trans (hb3.mono c2.size)
      have hcode : argFrom [.fine, (.bad j d)] 0 = 1 := rfl
      rw [hcode]
      have HQ := Lib.hid (sq_bad HE.out (by decide))
      go_wp2_with fail
      go_ret2
      exact ⟨.slice none 0 0, by rw [HQ.out.1]; rfl, c3, by rw [HQ.out.2]; exact ⟨rfl, World.ownsRow_nil _ _ _ _⟩⟩
  | long =>
    rw [hk1] at HC1
    simp only [EK.val, errV] at HC1
    cases hk2 : checkK B with
    | fine =>
      have HE := Lib.hid (show codeLL A B = 2 by rw [← arg_ll, hk1, hk2]; rfl)
      go_enter Tryd.func10, Tryd.ntmps10
      go_wp2_with fail
      refine HC1.mono ?_
      rintro e w1 ⟨rfl, hb1⟩
      have hT1 := hT.below hb1 (Nat.le_refl _)
      have HC2 := checkLayer_any _ B x _ (HS2.out.below hb1) hl2 hr2 hT1.tab hT1.long
      rw [← checkK_val, hk2] at HC2
      simp only [EK.val] at HC2
      go_wp2_with fail
      refine HC2.mono ?_
      rintro e w2 ⟨rfl, hb2⟩
      have c2 := hb1.trans (hb2.mono hb1.size)
      have HA := arg2_any .long .fine x y w2 (hT.below c2 (Nat.le_refl _))
      simp only [EK.val, errV] at HA
      go_wp2_with fail
      refine HA.mono ?_
      rintro e w3 ⟨rfl, hb3⟩
      have c3 := c2.trans (hb3.mono c2.size)
      have hcode : argFrom [.long, .fine] 0 = 2 := rfl
      rw [hcode]
      have HQ := Lib.hid (sq_bad HE.out (by decide))
      go_wp2_with fail
      go_ret2
      exact ⟨.slice none 0 0, by rw [HQ.out.1]; rfl, c3, by rw [HQ.out.2]; exact ⟨rfl, World.ownsRow_nil _ _ _ _⟩⟩
    | long =>
      have HE := Lib.hid (show codeLL A B = 2 by rw [← arg_ll, hk1, hk2]; rfl)
      go_enter Tryd.func10, Tryd.ntmps10
      go_wp2_with fail
      refine HC1.mono ?_
      rintro e w1 ⟨rfl, hb1⟩
      have hT1 := hT.below hb1 (Nat.le_refl _)
      have HC2 := checkLayer_any _ B x _ (HS2.out.below hb1) hl2 hr2 hT1.tab hT1.long
      rw [← checkK_val, hk2] at HC2
      simp only [EK.val, errV] at HC2
      go_wp2_with fail
      refine HC2.mono ?_
      rintro e w2 ⟨rfl, hb2⟩
      have c2 := hb1.trans (hb2.mono hb1.size)
      have HA := arg2_any .long .long x y w2 (hT.below c2 (Nat.le_refl _))
      simp only [EK.val, errV] at HA
      go_wp2_with fail
      refine HA.mono ?_
      rintro e w3 ⟨rfl, hb3⟩
      have c3 := c2.trans (hb3.mono c2.size)
      have hcode : argFrom [.long, .long] 0 = 2 := rfl
      rw [hcode]
      have HQ := Lib.hid (sq_bad HE.out (by decide))
      go_wp2_with fail
      go_ret2
      exact ⟨.slice none 0 0, by rw [HQ.out.1]; rfl, c3, by rw [HQ.out.2]; exact ⟨rfl, World.ownsRow_nil _ _ _ _⟩⟩
    | bad j d =>
      have HE := Lib.hid (show codeLL A B = 2 by rw [← arg_ll, hk1, hk2]; rfl)
      go_enter Tryd.func10, Tryd.ntmps10
      go_wp2_with fail
      refine HC1.mono ?_
      rintro e w1 ⟨rfl, hb1⟩
      have hT1 := hT.below hb1 (Nat.le_refl _)
      have HC2 := checkLayer_any _ B x _ (HS2.out.below hb1) hl2 hr2 hT1.tab hT1.long
      rw [← checkK_val, hk2] at HC2
      simp only [EK.val, recV] at HC2
      go_wp2_with fail
      refine HC2.mono ?_
      rintro e w2 ⟨rfl, hb2⟩
      have c2 := hb1.trans (hb2.mono hb1.size)
      have HA := arg2_any .long (.bad j d) x y w2 (hT.below c2 (Nat.le_refl _))
      simp only [EK.val, errV, recV] at HA
      go_wp2_with fail
      refine HA.mono ?_
      rintro e w3 ⟨rfl, hb3⟩
      have c3 := c2.trans (hb3.mono c2.size)
      have hcode : argFrom [.long, (.bad j d)] 0 = 2 := rfl
      rw [hcode]
      have HQ := Lib.hid (sq_bad HE.out (by decide))
      go_wp2_with fail
      go_ret2
      exact ⟨.slice none 0 0, by rw [HQ.out.1]; rfl, c3, by rw [HQ.out.2]; exact ⟨rfl, World.ownsRow_nil _ _ _ _⟩⟩
  | bad i c =>
    rw [hk1] at HC1
    simp only [EK.val, recV] at HC1
    cases hk2 : checkK B with
    | fine =>
      have HE := Lib.hid (show codeLL A B = 1 by rw [← arg_ll, hk1, hk2]; rfl)
      go_enter Tryd.func10, Tryd.ntmps10
      go_wp2_with fail
      refine HC1.mono ?_
      rintro e w1 ⟨rfl, hb1⟩
      have hT1 := hT.below hb1 (Nat.le_refl _)
      have HC2 := checkLayer_any _ B x _ (HS2.out.below hb1) hl2 hr2 hT1.tab hT1.long
      rw [← checkK_val, hk2] at HC2
      simp only [EK.val] at HC2
      go_wp2_with fail
      refine HC2.mono ?_
      rintro e w2 ⟨rfl, hb2⟩
      have c2 := hb1.trans (hb2.mono hb1.size)
      have HA := arg2_any (.bad i c) .fine x y w2 (hT.below c2 (Nat.le_refl _))
      simp only [EK.val, recV] at HA
      go_wp2_with fail
      refine HA.mono ?_
      rintro e w3 ⟨rfl, hb3⟩
      have c3 := c2.trans (hb3.mono c2.size)
      have hcode : argFrom [(.bad i c), .fine] 0 = 1 := rfl
      rw [hcode]
      have HQ := Lib.hid (sq_bad HE.out (by decide))
      go_wp2_with fail
      go_ret2
      exact ⟨.slice none 0 0, by rw [HQ.out.1]; rfl, c3, by rw [HQ.out.2]; exact ⟨rfl, World.ownsRow_nil _ _ _ _⟩⟩
    | long =>
      have HE := Lib.hid (show codeLL A B = 2 by rw [← arg_ll, hk1, hk2]; rfl)
      go_enter Tryd.func10, Tryd.ntmps10
      go_wp2_with fail
      refine HC1.mono ?_
      rintro e w1 ⟨rfl, hb1⟩
      have hT1 := hT.below hb1 (Nat.le_refl _)
      have HC2 := checkLayer_any _ B x _ (HS2.out.below hb1) hl2 hr2 hT1.tab hT1.long
      rw [← checkK_val, hk2] at HC2
      simp only [EK.val, errV] at HC2
      go_wp2_with fail
      refine HC2.mono ?_
      rintro e w2 ⟨rfl, hb2⟩
      have c2 := hb1.trans (hb2.mono hb1.size)
      have HA := arg2_any (.bad i c) .long x y w2 (hT.below c2 (Nat.le_refl _))
      simp only [EK.val, recV, errV] at HA
      go_wp2_with fail
      refine HA.mono ?_
      rintro e w3 ⟨rfl, hb3⟩
      have c3 := c2.trans (hb3.mono c2.size)
      have hcode : argFrom [(.bad i c), .long] 0 = 2 := rfl
      rw [hcode]
      have HQ := Lib.hid (sq_bad HE.out (by decide))
      go_wp2_with fail
      go_ret2
      exact ⟨.slice none 0 0, by rw [HQ.out.1]; rfl, c3, by rw [HQ.out.2]; exact ⟨rfl, World.ownsRow_nil _ _ _ _⟩⟩
    | bad j d =>
      have HE := Lib.hid (show codeLL A B = 1 by rw [← arg_ll, hk1, hk2]; rfl)
      go_enter Tryd.func10, Tryd.ntmps10
      go_wp2_with fail
      refine HC1.mono ?_
      rintro e w1 ⟨rfl, hb1⟩
      have hT1 := hT.below hb1 (Nat.le_refl _)
      have HC2 := checkLayer_any _ B x _ (HS2.out.below hb1) hl2 hr2 hT1.tab hT1.long
      rw [← checkK_val, hk2] at HC2
      simp only [EK.val, recV] at HC2
      go_wp2_with fail
      refine HC2.mono ?_
      rintro e w2 ⟨rfl, hb2⟩
      have c2 := hb1.trans (hb2.mono hb1.size)
      have HA := arg2_any (.bad i c) (.bad j d) x y w2 (hT.below c2 (Nat.le_refl _))
      simp only [EK.val, recV] at HA
      go_wp2_with fail
      refine HA.mono ?_
      rintro e w3 ⟨rfl, hb3⟩
      have c3 := c2.trans (hb3.mono c2.size)
      have hcode : argFrom [(.bad i c), (.bad j d)] 0 = 1 := rfl
      rw [hcode]
      have HQ := Lib.hid (sq_bad HE.out (by decide))
      go_wp2_with fail
      go_ret2
      exact ⟨.slice none 0 0, by rw [HQ.out.1]; rfl, c3, by rw [HQ.out.2]; exact ⟨rfl, World.ownsRow_nil _ _ _ _⟩⟩

set_option maxHeartbeats 1600000 in
theorem squash_spec (v1 v2 : Value) (A B : List R) (w : World) (h1 : RecSl w v1 A) (h2 : RecSl w v2 B) (hl1 : A.length ≤ 1048576) (hl2 : B.length ≤ 1048576) :
    Calls Tryd.prog 8 #[v1, v2] w fun e w' => ∃ x, e = .returned (.tuple #[x, .int .i64 (sqC A B)]) ∧ Below w.heap.size w w' ∧ RowOf w' w.heap.size x (sqR A B).length (sqR A B) := by
  have HC1 := l03OK_any v1 A _ h1 hl1
  have HS1 := Lib.hid h1
  have HS2 := Lib.hid h2
  obtain ⟨A1, cap1, rfl, -⟩ := h1
  obtain ⟨A2, cap2, rfl, -⟩ := h2
  by_cases ha : 4096 < A.length
  · have HE := Lib.hid (show codeLL A B = 2 from if_pos (.inl ha))
    have hd : decide ((4096 : Int) < (A.length : Int)) = true := by simp; omega
    go_enter Tryd.func8, Tryd.ntmps8
    have HQ := Lib.hid (sq_bad HE.out (by decide))
    have hown0 : (w.alloc (.cells #[] 45)).ownsRow w.heap.size 45 5 (.slice (some ⟨w.heap.size, 0, none⟩) 0 0) 0 [] := World.ownsRow_lit w #[] 0 (Below.refl w.heap.size w).size (Nat.zero_le _) rfl
    go_wp2_with fail
    go_ret2
    exact ⟨_, by rw [HQ.out.1]; rfl, (Below.refl w.heap.size w).alloc (Below.refl w.heap.size w).size _, by rw [HQ.out.2]; exact ⟨rfl, hown0⟩⟩
  have hda : decide ((4096 : Int) < (A.length : Int)) = false := by simp; omega
  by_cases hb : 4096 < B.length
  · have HE := Lib.hid (show codeLL A B = 2 from if_pos (.inr hb))
    have hd : decide ((4096 : Int) < (B.length : Int)) = true := by simp; omega
    go_enter Tryd.func8, Tryd.ntmps8
    have HQ := Lib.hid (sq_bad HE.out (by decide))
    have hown0 : (w.alloc (.cells #[] 45)).ownsRow w.heap.size 45 5 (.slice (some ⟨w.heap.size, 0, none⟩) 0 0) 0 [] := World.ownsRow_lit w #[] 0 (Below.refl w.heap.size w).size (Nat.zero_le _) rfl
    go_wp2_with fail
    go_ret2
    exact ⟨_, by rw [HQ.out.1]; rfl, (Below.refl w.heap.size w).alloc (Below.refl w.heap.size w).size _, by rw [HQ.out.2]; exact ⟨rfl, hown0⟩⟩
  have hdb : decide ((4096 : Int) < (B.length : Int)) = false := by simp; omega
  have HL : Hid (codeLL A B = if layerOK A && layerOK B then 0 else 1) := if_neg (by omega)
  rcases Bool.eq_false_or_eq_true (layerOK A) with hoa | hoa
  case inr =>
    have HE := Lib.hid (show codeLL A B = 1 by rw [HL.out, hoa]; rfl)
    rw [hoa] at HC1
    go_enter Tryd.func8, Tryd.ntmps8
    go_wp2_with fail
    refine HC1.mono ?_
    rintro e w1 ⟨rfl, hb1⟩
    have HQ := Lib.hid (sq_bad HE.out (by decide))
    have hown0 : (w1.alloc (.cells #[] 45)).ownsRow w.heap.size 45 5 (.slice (some ⟨w1.heap.size, 0, none⟩) 0 0) 0 [] := World.ownsRow_lit w1 #[] 0 hb1.size (Nat.zero_le _) rfl
    go_wp2_with fail
    go_ret2
    exact ⟨_, by rw [HQ.out.1]; rfl, hb1.alloc hb1.size _, by rw [HQ.out.2]; exact ⟨rfl, hown0⟩⟩
  rcases Bool.eq_false_or_eq_true (layerOK B) with hob | hob
  case inr =>
    have HE := Lib.hid (show codeLL A B = 1 by rw [HL.out, hoa, hob]; rfl)
    rw [hoa] at HC1
    go_enter Tryd.func8, Tryd.ntmps8
    go_wp2_with fail
    refine HC1.mono ?_
    rintro e w1 ⟨rfl, hb1⟩
    have HC2 := l03OK_any _ B _ (HS2.out.below hb1) hl2
    rw [hob] at HC2
    go_wp2_with fail
    refine HC2.mono ?_
    rintro e w2 ⟨rfl, hb2⟩
    have c2 := hb1.trans (hb2.mono hb1.size)
    have HQ := Lib.hid (sq_bad HE.out (by decide))
    have hown0 : (w2.alloc (.cells #[] 45)).ownsRow w.heap.size 45 5 (.slice (some ⟨w2.heap.size, 0, none⟩) 0 0) 0 [] := World.ownsRow_lit w2 #[] 0 c2.size (Nat.zero_le _) rfl
    go_wp2_with fail
    go_ret2
    exact ⟨_, by rw [HQ.out.1]; rfl, c2.alloc c2.size _, by rw [HQ.out.2]; exact ⟨rfl, hown0⟩⟩
  have HE := Lib.hid (show codeLL A B = 0 by rw [HL.out, hoa, hob]; rfl)
  rw [hoa] at HC1
  go_enter Tryd.func8, Tryd.ntmps8
  go_wp2_with fail
  refine HC1.mono ?_
  rintro e w1 ⟨rfl, hb1⟩
  have HC2 := l03OK_any _ B _ (HS2.out.below hb1) hl2
  rw [hob] at HC2
  go_wp2_with fail
  refine HC2.mono ?_
  rintro e w2 ⟨rfl, hb2⟩
  have c2 := hb1.trans (hb2.mono hb1.size)
  have hla := layer_len hoa
  have hlb := layer_len hob
  have HCO := l06Two_any _ _ A B _ (HS1.out.below c2) (HS2.out.below c2) (fine_layer hoa) (fine_layer hob) (by omega)
  go_wp2_with fail
  refine HCO.mono ?_
  rintro e w4 ⟨f, rfl, hb4, hf⟩
  have c4 := c2.trans (hb4.mono c2.size)
  obtain ⟨fA, fcap, rfl⟩ := hf.form
  have HF := Lib.hid hf
  clear hf HCO
  by_cases h16 : 16 < (squashL A B).length
  · have HQ := Lib.hid (sq_full HE.out h16)
    have hd : decide ((16 : Int) < ((squashL A B).length : Int)) = true := by simp; omega
    have hown0 : (w4.alloc (.cells #[] 45)).ownsRow w.heap.size 45 5 (.slice (some ⟨w4.heap.size, 0, none⟩) 0 0) 0 [] := World.ownsRow_lit w4 #[] 0 c4.size (Nat.zero_le _) rfl
    clear h16
    go_wp2_with fail
    go_ret2
    exact ⟨_, by rw [HQ.out.1]; rfl, c4.alloc c4.size _, by rw [HQ.out.2]; exact ⟨rfl, hown0⟩⟩
  · have HQ := Lib.hid (sq_fine HE.out h16)
    have hd : decide ((16 : Int) < ((squashL A B).length : Int)) = false := by simp; omega
    clear h16
    go_wp2_with fail
    go_ret2
    exact ⟨_, by rw [HQ.out.1]; rfl, c4, by rw [HQ.out.2]; exact ⟨HF.out.1, own_le HF.out.2 c2.size⟩⟩
end Go.Proofs.YtcbmnihepeefaaaDoor.Recs
