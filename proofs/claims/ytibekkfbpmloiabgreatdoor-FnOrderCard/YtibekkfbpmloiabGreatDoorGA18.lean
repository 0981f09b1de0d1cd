/- Parts of several texts of mine in one file (each begins with its own remark). -/
import Derived.Test.YtibekkfbpmloiabGreatDoorGA1
import Derived.Test.YtibekkfbpmloiabGreatDoorGA12
import Derived.Test.YtibekkfbpmloiabGreatDoorGA14
import Derived.Test.YtibekkfbpmloiabGreatDoorGA15
import Derived.Test.YtibekkfbpmloiabGreatDoorGA16
import Derived.Test.YtibekkfbpmloiabGreatDoorGA17
import Derived.Test.YtibekkfbpmloiabGreatDoorGA2
import Derived.Test.YtibekkfbpmloiabGreatDoorGA3
import Derived.Test.YtibekkfbpmloiabGreatDoorGA4
import Derived.Test.YtibekkfbpmloiabGreatDoorGA5
import Derived.Test.YtibekkfbpmloiabGreatDoorGA6
import Derived.Test.YtibekkfbpmloiabGreatDoorGA7
import Derived.Test.YtibekkfbpmloiabGreatDoorGA8
import Derived.Test.YtibekkfbpmloiabGreatDoorGA9
import Derived.Test.YtibekkfbpmloiabGreatDoorChecked
import Derived.Test.YtibekkfbpmloiabGreatDoorShelf
import Derived.Test.YtibekkfbpmloiabGreatDoorProg
import Derived.Test.YtibekkfbpmloiabGreatDoorRows
import Derived.Stop.LaidErr
import Derived.StillTailTactics
import Derived.Laws.OwnMore
import Derived.BigQuiet
import Derived.BigRegion
import Derived.Deep.QuietTactic
import Derived.Deep.RegionHeld3
import Derived.Deep.Slices
import Derived.OpenShut
import Derived.ShutString
import Derived.ChangeArms
import Derived.WideShapes
import Derived.Lib.LaidTab
import Derived.Deep.Draws
import Derived.Deep.LoopGhost
import Derived.WalkKit
import Derived.WalkSpells
import Derived.WalkSmall
import Derived.Lib.OthersKept
import Derived.Lib.Hide
import Derived.Lib.Strings
import Derived.Lib.Join
import Derived.Laws.BytesArg
import Derived.WalkLawsBesides
import Derived.LaidEql
import Derived.Stop.Asserts
import Derived.Below
import Derived.Stop.LaidTwo
import Derived.ChangeVars
import Derived.Deep.DeepHandedRow
/- Combining two layers, of the program. -/
namespace Go.Proofs.YtibekkfbpmloiabGreatDoor.Recs
set_option maxRecDepth 100000
open Go.RowKit Paths Errs

/-- The length of a slice. -/
def lenV : Value → Nat
  | .slice _ n _ => n
  | _ => 0
theorem path_max {p : ByteArray} (h : pathB p.data.toList = true) : p.size ≤ maxLen := by
  have := path_short h
  unfold maxLen
  omega
theorem sl_of {w : World} {a : Option Addr} {n cap : Nat} {l : List R} (hn : l.length = n) (hc : n ≤ cap) (h : 0 < n → ∃ b off, a = some ⟨b, off, none⟩ ∧ b < w.heap.size ∧ ∀ i r, l[i]? = some r → RecCells w b (off + i * 5) r) : RecSl w (.slice a n cap) l := by
  subst hn
  exact ⟨a, cap, rfl, hc, h⟩
/-- A slice without its first record. -/
theorem tail_more {w : World} {b off n cap : Nat} {x : R} {t : List R} (h : RecSl w (.slice (some ⟨b, off, none⟩) n cap) (x :: t)) : RecSl w (.slice (some ⟨b, off + 5, none⟩) (n - 1) (cap - 1)) t := by
  obtain ⟨A, c, e, hc, h⟩ := h
  cases e
  obtain ⟨b', off', e, hb, hcell⟩ := h (by simp)
  cases e
  refine ⟨_, _, rfl, by simp at hc; omega, fun _ => ⟨b, off + 5, rfl, hb, fun i r hi => ?_⟩⟩
  have := hcell (i + 1) r (by simpa using hi)
  have e : off + (i + 1) * 5 = off + 5 + i * 5 := by omega
  rw [e] at this
  exact this
theorem tail_one {w : World} {b off n cap : Nat} {x : R} {t : List R} (h : RecSl w (.slice (some ⟨b, off, none⟩) n cap) (x :: t)) (hc1 : cap = 1) : RecSl w (.slice (some ⟨b, off, none⟩) 0 0) t := by
  obtain ⟨A, c, e, hc, h⟩ := h
  cases e
  have : t = [] := List.eq_nil_of_length_eq_zero (by simp at hc; omega)
  subst this
  exact ⟨_, 0, rfl, Nat.le_refl _, fun h => by cases h⟩
/-- An upper record over a covered one. -/
def placed (y : R) (c : Bool) : R := if y.k = 3 ∧ c = true then { y with o := true } else y
theorem placed_any (y : R) (c : Bool) (w : World) :
    Calls Tryz.prog 152 #[y.val, .bool c] w fun e w' => e = .returned (placed y c).val ∧ Below w.heap.size w w' := by
  obtain ⟨rk, rm, rp, rb, ro⟩ := y
  unfold R.val
  dsimp only
  by_cases h3 : rk = 3
  · have q3 : (rk == 3) = true := by simp [h3]
    cases c with
    | true =>
      have HE : Hid (placed ⟨rk, rm, rp, rb, ro⟩ true = ⟨rk, rm, rp, rb, true⟩) := if_pos ⟨h3, rfl⟩
      clear h3
      go_enter Tryz.func152, Tryz.ntmps152
      go_wp2_with fail
      refine bodyPost_ret (v := .agg #[.int .i64 rk, .string rp, .string rb, .int .i64 rm, .bool true]) (by simp [results, Tryz.results152, go_sem]) rfl ⟨by rw [HE.out], ?_⟩
      repeat (refine Below.setCell ?_ (by simp) _)
      exact ((Below.refl _ _).alloc (Nat.le_refl _) _).alloc (by simp) _
    | false =>
      have HE : Hid (placed ⟨rk, rm, rp, rb, ro⟩ false = ⟨rk, rm, rp, rb, ro⟩) := if_neg (fun h => by cases h.2)
      clear h3
      go_enter Tryz.func152, Tryz.ntmps152
      go_wp2_with fail
      refine bodyPost_ret (v := .agg #[.int .i64 rk, .string rp, .string rb, .int .i64 rm, .bool ro]) (by simp [results, Tryz.results152, go_sem]) rfl ⟨by rw [HE.out], ?_⟩
      repeat (refine Below.setCell ?_ (by simp) _)
      exact ((Below.refl _ _).alloc (Nat.le_refl _) _).alloc (by simp) _
  · have q3 : (rk == 3) = false := by simp [h3]
    have HE : Hid (placed ⟨rk, rm, rp, rb, ro⟩ c = ⟨rk, rm, rp, rb, ro⟩) := if_neg (fun h => h3 h.1)
    clear h3
    go_enter Tryz.func152, Tryz.ntmps152
    go_wp2_with fail
    refine bodyPost_ret (v := .agg #[.int .i64 rk, .string rp, .string rb, .int .i64 rm, .bool ro]) (by simp [results, Tryz.results152, go_sem]) rfl ⟨by rw [HE.out], ?_⟩
    repeat (refine Below.setCell ?_ (by simp) _)
    exact ((Below.refl _ _).alloc (Nat.le_refl _) _).alloc (by simp) _

set_option maxHeartbeats 6400000 in
theorem combination_any (v1 v2 : Value) (L U : List R) (w : World) (h1 : RecSl w v1 L) (h2 : RecSl w v2 U) (hL : Fine L) (hU : Fine U) (hl : L.length + U.length ≤ 1024) :
    Calls Tryz.prog 91 #[v1, v2] w fun e w' => ∃ x, e = .returned x ∧ Below w.heap.size w w' ∧ RowOf w' w.heap.size x (squashL L U).length (squashL L U) := by
  obtain ⟨i0, hi, hI0, hI1, hI2⟩ := info_parts recInfo
  have hpL : ∀ r ∈ L, pathB r.p.data.toList = true := hL.layer.path
  have hpU : ∀ r ∈ U, pathB r.p.data.toList = true := hU.layer.path
  have HCU : Hid (∀ r ∈ L, ∀ w', Below w.heap.size w w' → Calls Tryz.prog 150 #[v2, .string r.p] w' fun e w'' => e = .returned (.bool (cutsL U r.p)) ∧ Below w'.heap.size w' w'') := fun r hm w' hb => by
    rw [← cuts_same hU.layer.sorted hU.fine (hpL r hm)]
    exact cutsOff_any v2 U r.p w' (h2.below hb) (by omega) (path_max (hpL r hm)) (fun x hx => path_max (hpU x hx))
  have HLS : Hid (∀ x ∈ L, ∀ y ∈ U, ∀ w', Calls Tryz.prog 44 #[.string x.p, .string y.p] w' fun e w'' => e = .returned (.bool (lessR x y)) ∧ Below w'.heap.size w' w'') := fun x hx y hy w' => by
    have := pathLess_impl x.p y.p w' (path_max (hpL x hx)) (path_max (hpU y hy))
    rw [lessB_yes (hpL x hx) (hpU y hy)] at this
    exact this
  have HF2 := Lib.hid (two_fine hL hU)
  have HT2 := Lib.hid (two_len U L U)
  have HV1 := Lib.hid h1
  have HV2 := Lib.hid h2
  obtain ⟨a01, cap01, rfl, -⟩ := h1
  obtain ⟨a02, cap02, rfl, -⟩ := h2
  clear hpL hpU hL hU
  go_enter Tryz.func91, Tryz.ntmps91
  go_wp2
  go_loopw [0, 1, 6] (fun l u f wr => ∃ (As Bs M : List R), RecSl w l As ∧ RecSl w u Bs ∧ (∀ r ∈ As, r ∈ L) ∧ (∀ r ∈ Bs, r ∈ U) ∧ M.length + As.length + Bs.length ≤ 1024 ∧ RowOf wr w.heap.size f M.length M ∧ Hid (two L U = M ++ twoL U As Bs) ∧ Below w.heap.size w wr) (fun l u _ _ => lenV l + lenV u)
  case atStart => exact ⟨L, U, [], HV1.out, HV2.out, fun _ h => h, fun _ h => h, by simpa using hl, ⟨rfl, World.ownsRow_nil _ _ _ _⟩, rfl, Below.refl _ _⟩
  case round =>
    obtain ⟨As, Bs, M, hs1, hs2, hm1, hm2, hlen, hrow, HD, hbw⟩ := hrel
    obtain ⟨a1, cap1, rfl, hcap1, hs1⟩ := hs1
    obtain ⟨a2, cap2, rfl, hcap2, hs2⟩ := hs2
    obtain ⟨fA, fcap, rfl⟩ := hrow.form
    have hszr := hbw.size
    generalize hn1 : As.length = n1 at *
    generalize hn2 : Bs.length = n2 at *
    have HN1 := Lib.hid hn1
    have HN2 := Lib.hid hn2
    have HS2 := Lib.hid hs2
    have HS1 := Lib.hid hs1
    have hMl : M.length ≤ 1024 := by omega
    clear hn1 hn2 hs1 hs2
    by_cases hz2 : n2 = 0
    · obtain rfl : Bs = [] := List.eq_nil_of_length_eq_zero (by have := HN2.out; omega)
      have HR2 := Lib.hid (sl_of HN2.out hcap2 HS2.out)
      subst hz2
      by_cases hz1 : n1 = 0
      · obtain rfl : As = [] := List.eq_nil_of_length_eq_zero (by have := HN1.out; omega)
        subst hz1
        have HM : Hid (two L U = M) := HD.out.trans (by rw [two_end]; simp)
        have HFM : Hid (Fine M) := by have := HF2.out; rw [HM.out] at this; exact this
        have HC4 := canonicalForm_gen _ M wr hrow.sl HFM.out.layer.sorted HFM.out.fine (by omega) (fun r hr => path_max (HFM.out.layer.path r hr))
        go_wp2_with fail
        refine HC4.mono ?_
        rintro e w4 ⟨f, rfl, hb4, hf⟩
        go_wp2_with fail
        go_ret
        exact ⟨f, rfl, hbw.trans (hb4.mono hbw.size), by show RowOf w4 w.heap.size f (canonL (two L U)).length (canonL (two L U)); rw [HM.out]; exact ⟨hf.1, own_le hf.2 hbw.size⟩⟩
      · obtain ⟨x, a, rfl⟩ : ∃ x a, As = x :: a := by
          cases As with
          | nil => have := HN1.out; simp at this; omega
          | cons x a => exact ⟨x, a, rfl⟩
        have HR1 := Lib.hid (sl_of HN1.out hcap1 HS1.out)
        obtain ⟨b1, off1, rfl, hb1, hcell1⟩ := HS1.out (by omega)
        have HX : Hid (∀ W, Below w.heap.size w W → RecCells W b1 off1 x) := fun W hW => by have := (hcell1 0 x rfl).below hW hb1; simpa using this
        clear HS1 hcell1
        have HA1 : Hid (a.length + 1 = n1) := HN1.out
        have hq0n : 0 < n1 := by omega
        have hw0 : IntKind.i64.wrap (n1 : Int) = (n1 : Int) := by rw [IntKind.wrap_i64]; omega
        have hp0 : decide ((0 : Int) < (n1 : Int)) = true := by simp; omega
        have hq0 : (0 : Int) < (n1 : Int) := by omega
        have hq1 : (1 : Int) ≤ (n1 : Int) := by omega
        have hq2 : (1 : Int) ≤ (cap1 : Int) := by omega
        go_wp2
        go_quiet (fail)
        have ht : Below w.heap.size w (wr.drewN nq) := below_drewN hbw nq
        have hrt : RowOf (wr.drewN nq) w.heap.size (.slice fA M.length fcap) M.length M := hrow.below (below_drewN (Below.refl _ _) nq)
        generalize wr.drewN nq = wt at *
        have HC := HCU.out x (hm1 x (List.mem_cons_self ..)) _ ht
        obtain ⟨c0, c1, c2, c3, c4⟩ := HX.out _ ht
        rcases Bool.eq_false_or_eq_true (cutsL U x.p) with hc | hc
        · have HN : Hid (two L U = M ++ twoL U a []) := HD.out.trans (by rw [two_cut0 hc])
          rw [hc] at HC
          by_cases hcc : cap1 = 1
          · have HT1 := Lib.hid (tail_one (HR1.out) hcc)
            have hn0 : n1 = 1 := by omega
            subst hcc
            subst hn0
            clear hcap1
            go_wp2_with fail
            refine HC.mono ?_
            rintro e w5 ⟨rfl, hb5⟩
            have d5 := ht.trans (hb5.mono ht.size)
            have hr5 := hrt.below hb5
            go_wp2_with fail
            exact ⟨⟨a, [], M, HT1.out, HR2.out, fun r hr => hm1 r (List.mem_cons_of_mem _ hr), hm2, by have h0 := HA1.out; show M.length + a.length + 0 ≤ 1024; omega, hr5, HN, d5⟩, by simp only [lenV] <;> omega⟩
          · have HT1 := Lib.hid (tail_more (HR1.out) )
            go_wp2_with fail
            refine HC.mono ?_
            rintro e w5 ⟨rfl, hb5⟩
            have d5 := ht.trans (hb5.mono ht.size)
            have hr5 := hrt.below hb5
            go_wp2_with fail
            exact ⟨⟨a, [], M, HT1.out, HR2.out, fun r hr => hm1 r (List.mem_cons_of_mem _ hr), hm2, by have h0 := HA1.out; show M.length + a.length + 0 ≤ 1024; omega, hr5, HN, d5⟩, by simp only [lenV] <;> omega⟩
        · have HN : Hid (two L U = M ++ [x] ++ twoL U a []) := HD.out.trans (by rw [two_take0 hc]; simp)
          rw [hc] at HC
          by_cases hcc : cap1 = 1
          · have HT1 := Lib.hid (tail_one (HR1.out) hcc)
            have hn0 : n1 = 1 := by omega
            subst hcc
            subst hn0
            clear hcap1
            go_wp2_with fail
            refine HC.mono ?_
            rintro e w5 ⟨rfl, hb5⟩
            have d5 := ht.trans (hb5.mono ht.size)
            have hr5 := hrt.below hb5
            obtain ⟨c0, c1, c2, c3, c4⟩ := HX.out _ d5
            have hr3 : (w5.alloc (.cells #[.int .i64 x.k, .string x.p, .string x.b, .int .i64 x.m, .bool x.o] 53)).ownsRow w.heap.size 53 5 (.slice fA M.length fcap) M.length (flat M) := hr5.2.alloc _
            have hnews := rec_cells_new w5 x 53
            have hone := rec_one x
            have hbz : w.heap.size ≤ (w5.alloc (.cells #[.int .i64 x.k, .string x.p, .string x.b, .int .i64 x.m, .bool x.o] 53)).heap.size := (d5.alloc d5.size _).size
            go_wp2_with (first
              | (at_builtin; refine wpList_append_own _ rfl _ _ 27 rfl w.heap.size 53 i0 (.agg #[.int .i64 0, .string ByteArray.empty, .string ByteArray.empty, .int .i64 0, .bool false]) 5 56 Tryz.underlying27 hi hI0 hI1 hI2 rfl (by decide) _ _ _ rfl hr3 ⟨w5.heap.size, 0, none⟩ 1 1 (R.cs x) rfl rfl hnews hone (by unfold maxLen; omega) (by omega) hbz ?_; intro v' w9 hown' hgrow9 hnil9))
            have hrow9 := row_snoc hown'
            have hb9 : Below w.heap.size w w9 := (d5.alloc d5.size _).grown hgrow9 hbz (fun j hj => (hrow.2.lt j hj).1)
            exact ⟨⟨a, [], M ++ [x], HT1.out, HR2.out, fun r hr => hm1 r (List.mem_cons_of_mem _ hr), hm2, by have h0 := HA1.out; rw [List.length_append]; show M.length + 1 + a.length + 0 ≤ 1024; omega, hrow9, HN, hb9⟩, by simp only [lenV] <;> omega⟩
          · have HT1 := Lib.hid (tail_more (HR1.out) )
            go_wp2_with fail
            refine HC.mono ?_
            rintro e w5 ⟨rfl, hb5⟩
            have d5 := ht.trans (hb5.mono ht.size)
            have hr5 := hrt.below hb5
            obtain ⟨c0, c1, c2, c3, c4⟩ := HX.out _ d5
            have hr3 : (w5.alloc (.cells #[.int .i64 x.k, .string x.p, .string x.b, .int .i64 x.m, .bool x.o] 53)).ownsRow w.heap.size 53 5 (.slice fA M.length fcap) M.length (flat M) := hr5.2.alloc _
            have hnews := rec_cells_new w5 x 53
            have hone := rec_one x
            have hbz : w.heap.size ≤ (w5.alloc (.cells #[.int .i64 x.k, .string x.p, .string x.b, .int .i64 x.m, .bool x.o] 53)).heap.size := (d5.alloc d5.size _).size
            go_wp2_with (first
              | (at_builtin; refine wpList_append_own _ rfl _ _ 27 rfl w.heap.size 53 i0 (.agg #[.int .i64 0, .string ByteArray.empty, .string ByteArray.empty, .int .i64 0, .bool false]) 5 56 Tryz.underlying27 hi hI0 hI1 hI2 rfl (by decide) _ _ _ rfl hr3 ⟨w5.heap.size, 0, none⟩ 1 1 (R.cs x) rfl rfl hnews hone (by unfold maxLen; omega) (by omega) hbz ?_; intro v' w9 hown' hgrow9 hnil9))
            have hrow9 := row_snoc hown'
            have hb9 : Below w.heap.size w w9 := (d5.alloc d5.size _).grown hgrow9 hbz (fun j hj => (hrow.2.lt j hj).1)
            exact ⟨⟨a, [], M ++ [x], HT1.out, HR2.out, fun r hr => hm1 r (List.mem_cons_of_mem _ hr), hm2, by have h0 := HA1.out; rw [List.length_append]; show M.length + 1 + a.length + 0 ≤ 1024; omega, hrow9, HN, hb9⟩, by simp only [lenV] <;> omega⟩
    obtain ⟨y, b, rfl⟩ : ∃ y b, Bs = y :: b := by
      cases Bs with
      | nil => have := HN2.out; simp at this; omega
      | cons y b => exact ⟨y, b, rfl⟩
    have HR2 := Lib.hid (sl_of HN2.out hcap2 HS2.out)
    obtain ⟨b2, off2, rfl, hb2, hcell2⟩ := HS2.out (by omega)
    have HY : Hid (∀ W, Below w.heap.size w W → RecCells W b2 off2 y) := fun W hW => by have := (hcell2 0 y rfl).below hW hb2; simpa using this
    clear HS2 hcell2
    have HB2 : Hid (b.length + 1 = n2) := HN2.out
    have hu0n : 0 < n2 := by omega
    have hz2' : ((n2 : Int) == 0) = false := by simp; omega
    have hu0 : (0 : Int) < (n2 : Int) := by omega
    have hu1 : (1 : Int) ≤ (n2 : Int) := by omega
    have hu2 : (1 : Int) ≤ (cap2 : Int) := by omega
    by_cases hz1 : n1 = 0
    · obtain rfl : As = [] := List.eq_nil_of_length_eq_zero (by have := HN1.out; omega)
      have HR1 := Lib.hid (sl_of HN1.out hcap1 HS1.out)
      subst hz1
      have hw0 : IntKind.i64.wrap (n2 : Int) = (n2 : Int) := by rw [IntKind.wrap_i64]; omega
      have hp0 : decide ((0 : Int) < (n2 : Int)) = true := by simp; omega
      go_wp2
      go_quiet (fail)
      have hq : Below w.heap.size w (wr.drewN nq) := below_drewN hbw nq
      have hrq : RowOf (wr.drewN nq) w.heap.size (.slice fA M.length fcap) M.length M := hrow.below (below_drewN (Below.refl _ _) nq)
      generalize wr.drewN nq = wq at *
      go_wp2
      go_quiet (fail)
      have ht : Below w.heap.size w (wq.drewN nq) := below_drewN hq nq
      have hrt : RowOf (wq.drewN nq) w.heap.size (.slice fA M.length fcap) M.length M := hrq.below (below_drewN (Below.refl _ _) nq)
      generalize wq.drewN nq = wt at *
      obtain ⟨e0, e1, e2, e3, e4⟩ := HY.out _ ht
      have HPL := placed_any y false wt
      unfold R.val at HPL
      generalize hz : placed y false = z at HPL
      have HZ := Lib.hid hz
      clear hz
      have HN : Hid (two L U = M ++ [z] ++ twoL U [] b) := HD.out.trans (by rw [two_up, ← HZ.out]; simp [placed])
      by_cases hcd : cap2 = 1
      · have HT2 := Lib.hid (tail_one (HR2.out) hcd)
        have hn0 : n2 = 1 := by omega
        subst hcd
        subst hn0
        clear hcap2
        go_wp2_with fail
        refine HPL.mono ?_
        rintro e w6 ⟨rfl, hb6⟩
        have d6 := ht.trans (hb6.mono ht.size)
        have hr6 := hrt.below hb6
        have hr3 : (w6.alloc (.cells #[.int .i64 z.k, .string z.p, .string z.b, .int .i64 z.m, .bool z.o] 53)).ownsRow w.heap.size 53 5 (.slice fA M.length fcap) M.length (flat M) := hr6.2.alloc _
        have hnews := rec_cells_new w6 z 53
        have hone := rec_one z
        have hbz : w.heap.size ≤ (w6.alloc (.cells #[.int .i64 z.k, .string z.p, .string z.b, .int .i64 z.m, .bool z.o] 53)).heap.size := (d6.alloc d6.size _).size
        go_wp2_with (first
          | (at_builtin; refine wpList_append_own _ rfl _ _ 27 rfl w.heap.size 53 i0 (.agg #[.int .i64 0, .string ByteArray.empty, .string ByteArray.empty, .int .i64 0, .bool false]) 5 56 Tryz.underlying27 hi hI0 hI1 hI2 rfl (by decide) _ _ _ rfl hr3 ⟨w6.heap.size, 0, none⟩ 1 1 (R.cs z) rfl rfl hnews hone (by unfold maxLen; omega) (by omega) hbz ?_; intro v' w9 hown' hgrow9 hnil9))
        have hrow9 := row_snoc hown'
        have hb9 : Below w.heap.size w w9 := (d6.alloc d6.size _).grown hgrow9 hbz (fun j hj => (hrow.2.lt j hj).1)
        exact ⟨⟨[], b, M ++ [z], HR1.out, HT2.out, hm1, fun r hr => hm2 r (List.mem_cons_of_mem _ hr), by have h0 := HB2.out; rw [List.length_append]; show M.length + 1 + 0 + b.length ≤ 1024; omega, hrow9, HN, hb9⟩, by simp only [lenV] <;> omega⟩
      · have HT2 := Lib.hid (tail_more (HR2.out) )
        go_wp2_with fail
        refine HPL.mono ?_
        rintro e w6 ⟨rfl, hb6⟩
        have d6 := ht.trans (hb6.mono ht.size)
        have hr6 := hrt.below hb6
        have hr3 : (w6.alloc (.cells #[.int .i64 z.k, .string z.p, .string z.b, .int .i64 z.m, .bool z.o] 53)).ownsRow w.heap.size 53 5 (.slice fA M.length fcap) M.length (flat M) := hr6.2.alloc _
        have hnews := rec_cells_new w6 z 53
        have hone := rec_one z
        have hbz : w.heap.size ≤ (w6.alloc (.cells #[.int .i64 z.k, .string z.p, .string z.b, .int .i64 z.m, .bool z.o] 53)).heap.size := (d6.alloc d6.size _).size
        go_wp2_with (first
          | (at_builtin; refine wpList_append_own _ rfl _ _ 27 rfl w.heap.size 53 i0 (.agg #[.int .i64 0, .string ByteArray.empty, .string ByteArray.empty, .int .i64 0, .bool false]) 5 56 Tryz.underlying27 hi hI0 hI1 hI2 rfl (by decide) _ _ _ rfl hr3 ⟨w6.heap.size, 0, none⟩ 1 1 (R.cs z) rfl rfl hnews hone (by unfold maxLen; omega) (by omega) hbz ?_; intro v' w9 hown' hgrow9 hnil9))
        have hrow9 := row_snoc hown'
        have hb9 : Below w.heap.size w w9 := (d6.alloc d6.size _).grown hgrow9 hbz (fun j hj => (hrow.2.lt j hj).1)
        exact ⟨⟨[], b, M ++ [z], HR1.out, HT2.out, hm1, fun r hr => hm2 r (List.mem_cons_of_mem _ hr), by have h0 := HB2.out; rw [List.length_append]; show M.length + 1 + 0 + b.length ≤ 1024; omega, hrow9, HN, hb9⟩, by simp only [lenV] <;> omega⟩
    obtain ⟨x, a, rfl⟩ : ∃ x a, As = x :: a := by
      cases As with
      | nil => have := HN1.out; simp at this; omega
      | cons x a => exact ⟨x, a, rfl⟩
    have HR1 := Lib.hid (sl_of HN1.out hcap1 HS1.out)
    obtain ⟨b1, off1, rfl, hb1, hcell1⟩ := HS1.out (by omega)
    have HX : Hid (∀ W, Below w.heap.size w W → RecCells W b1 off1 x) := fun W hW => by have := (hcell1 0 x rfl).below hW hb1; simpa using this
    clear HS1 hcell1
    have HA1 : Hid (a.length + 1 = n1) := HN1.out
    have hq0n : 0 < n1 := by omega
    have hw0 : IntKind.i64.wrap ((n1 : Int) + (n2 : Int)) = (n1 : Int) + (n2 : Int) := by rw [IntKind.wrap_i64]; omega
    have hp0 : decide ((0 : Int) < (n1 : Int) + (n2 : Int)) = true := by simp; omega
    have hp1 : decide ((0 : Int) < (n1 : Int)) = true := by simp; omega
    have hq0 : (0 : Int) < (n1 : Int) := by omega
    have hq1 : (1 : Int) ≤ (n1 : Int) := by omega
    have hq2 : (1 : Int) ≤ (cap1 : Int) := by omega
    have HLE := fun W => HLS.out x (hm1 x (List.mem_cons_self ..)) y (hm2 y (List.mem_cons_self ..)) W
    rcases Bool.eq_false_or_eq_true (lessR x y) with hls | hls
    · rw [hls] at HLE
      obtain ⟨_, x1, _, _, _⟩ := HX.out _ hbw
      obtain ⟨_, y1, _, _, _⟩ := HY.out _ hbw
      have hgr1 : b1 < wr.heap.size := by omega
      have hgr2 : b2 < wr.heap.size := by omega
      go_wp2
      go_region_held3 (fun w' => w'.cell? ⟨b1, off1 + 1, none⟩ = some (.string x.p) ∧ w'.cell? ⟨b2, off2 + 1, none⟩ = some (.string y.p)) (first | exact ⟨x1, y1⟩ | exact ⟨(hb3.cell (p := ⟨b1, off1 + 1, none⟩) hgr1).trans x1, (hb3.cell (p := ⟨b2, off2 + 1, none⟩) hgr2).trans y1⟩ | go_keep) (first | (go_at_call 44; refine (HLE _).mono ?_; rintro e w3 ⟨rfl, hb3⟩))
      have d3 : Below w.heap.size w w3 := hbw.drew.trans (hb3.mono hbw.size)
      have hr3 : RowOf w3 w.heap.size (.slice fA M.length fcap) M.length M := (hrow.below (Below.refl _ _).drew).below hb3
      clear x1 y1
      have ht := d3
      have hrt := hr3
      generalize w3 = wt at *
      have HC := HCU.out x (hm1 x (List.mem_cons_self ..)) _ ht
      obtain ⟨c0, c1, c2, c3, c4⟩ := HX.out _ ht
      rcases Bool.eq_false_or_eq_true (cutsL U x.p) with hc | hc
      · have HN : Hid (two L U = M ++ twoL U a (y :: b)) := HD.out.trans (by rw [two_cut1 hls hc])
        rw [hc] at HC
        by_cases hcc : cap1 = 1
        · have HT1 := Lib.hid (tail_one (HR1.out) hcc)
          have hn0 : n1 = 1 := by omega
          subst hcc
          subst hn0
          clear hcap1
          go_wp2_with fail
          refine HC.mono ?_
          rintro e w5 ⟨rfl, hb5⟩
          have d5 := ht.trans (hb5.mono ht.size)
          have hr5 := hrt.below hb5
          go_wp2_with fail
          exact ⟨⟨a, (y :: b), M, HT1.out, HR2.out, fun r hr => hm1 r (List.mem_cons_of_mem _ hr), hm2, by have h0 := HA1.out; have h1 := HB2.out; show M.length + a.length + (b.length + 1) ≤ 1024; omega, hr5, HN, d5⟩, by simp only [lenV] <;> omega⟩
        · have HT1 := Lib.hid (tail_more (HR1.out) )
          go_wp2_with fail
          refine HC.mono ?_
          rintro e w5 ⟨rfl, hb5⟩
          have d5 := ht.trans (hb5.mono ht.size)
          have hr5 := hrt.below hb5
          go_wp2_with fail
          exact ⟨⟨a, (y :: b), M, HT1.out, HR2.out, fun r hr => hm1 r (List.mem_cons_of_mem _ hr), hm2, by have h0 := HA1.out; have h1 := HB2.out; show M.length + a.length + (b.length + 1) ≤ 1024; omega, hr5, HN, d5⟩, by simp only [lenV] <;> omega⟩
      · have HN : Hid (two L U = M ++ [x] ++ twoL U a (y :: b)) := HD.out.trans (by rw [two_take1 hls hc]; simp)
        rw [hc] at HC
        by_cases hcc : cap1 = 1
        · have HT1 := Lib.hid (tail_one (HR1.out) hcc)
          have hn0 : n1 = 1 := by omega
          subst hcc
          subst hn0
          clear hcap1
          go_wp2_with fail
          refine HC.mono ?_
          rintro e w5 ⟨rfl, hb5⟩
          have d5 := ht.trans (hb5.mono ht.size)
          have hr5 := hrt.below hb5
          obtain ⟨c0, c1, c2, c3, c4⟩ := HX.out _ d5
          have hr3 : (w5.alloc (.cells #[.int .i64 x.k, .string x.p, .string x.b, .int .i64 x.m, .bool x.o] 53)).ownsRow w.heap.size 53 5 (.slice fA M.length fcap) M.length (flat M) := hr5.2.alloc _
          have hnews := rec_cells_new w5 x 53
          have hone := rec_one x
          have hbz : w.heap.size ≤ (w5.alloc (.cells #[.int .i64 x.k, .string x.p, .string x.b, .int .i64 x.m, .bool x.o] 53)).heap.size := (d5.alloc d5.size _).size
          go_wp2_with (first
            | (at_builtin; refine wpList_append_own _ rfl _ _ 27 rfl w.heap.size 53 i0 (.agg #[.int .i64 0, .string ByteArray.empty, .string ByteArray.empty, .int .i64 0, .bool false]) 5 56 Tryz.underlying27 hi hI0 hI1 hI2 rfl (by decide) _ _ _ rfl hr3 ⟨w5.heap.size, 0, none⟩ 1 1 (R.cs x) rfl rfl hnews hone (by unfold maxLen; omega) (by omega) hbz ?_; intro v' w9 hown' hgrow9 hnil9))
          have hrow9 := row_snoc hown'
          have hb9 : Below w.heap.size w w9 := (d5.alloc d5.size _).grown hgrow9 hbz (fun j hj => (hrow.2.lt j hj).1)
          exact ⟨⟨a, (y :: b), M ++ [x], HT1.out, HR2.out, fun r hr => hm1 r (List.mem_cons_of_mem _ hr), hm2, by have h0 := HA1.out; have h1 := HB2.out; rw [List.length_append]; show M.length + 1 + a.length + (b.length + 1) ≤ 1024; omega, hrow9, HN, hb9⟩, by simp only [lenV] <;> omega⟩
        · have HT1 := Lib.hid (tail_more (HR1.out) )
          go_wp2_with fail
          refine HC.mono ?_
          rintro e w5 ⟨rfl, hb5⟩
          have d5 := ht.trans (hb5.mono ht.size)
          have hr5 := hrt.below hb5
          obtain ⟨c0, c1, c2, c3, c4⟩ := HX.out _ d5
          have hr3 : (w5.alloc (.cells #[.int .i64 x.k, .string x.p, .string x.b, .int .i64 x.m, .bool x.o] 53)).ownsRow w.heap.size 53 5 (.slice fA M.length fcap) M.length (flat M) := hr5.2.alloc _
          have hnews := rec_cells_new w5 x 53
          have hone := rec_one x
          have hbz : w.heap.size ≤ (w5.alloc (.cells #[.int .i64 x.k, .string x.p, .string x.b, .int .i64 x.m, .bool x.o] 53)).heap.size := (d5.alloc d5.size _).size
          go_wp2_with (first
            | (at_builtin; refine wpList_append_own _ rfl _ _ 27 rfl w.heap.size 53 i0 (.agg #[.int .i64 0, .string ByteArray.empty, .string ByteArray.empty, .int .i64 0, .bool false]) 5 56 Tryz.underlying27 hi hI0 hI1 hI2 rfl (by decide) _ _ _ rfl hr3 ⟨w5.heap.size, 0, none⟩ 1 1 (R.cs x) rfl rfl hnews hone (by unfold maxLen; omega) (by omega) hbz ?_; intro v' w9 hown' hgrow9 hnil9))
          have hrow9 := row_snoc hown'
          have hb9 : Below w.heap.size w w9 := (d5.alloc d5.size _).grown hgrow9 hbz (fun j hj => (hrow.2.lt j hj).1)
          exact ⟨⟨a, (y :: b), M ++ [x], HT1.out, HR2.out, fun r hr => hm1 r (List.mem_cons_of_mem _ hr), hm2, by have h0 := HA1.out; have h1 := HB2.out; rw [List.length_append]; show M.length + 1 + a.length + (b.length + 1) ≤ 1024; omega, hrow9, HN, hb9⟩, by simp only [lenV] <;> omega⟩
    · rw [hls] at HLE
      have HNL := Lib.hid hls
      clear hls
      rcases Bool.eq_false_or_eq_true (x.p.toList == y.p.toList) with heq | heq
      · have HEQ := Lib.hid (str_eq_of heq)
        obtain ⟨_, x1, _, _, _⟩ := HX.out _ hbw
        obtain ⟨_, y1, _, _, _⟩ := HY.out _ hbw
        have hgr1 : b1 < wr.heap.size := by omega
        have hgr2 : b2 < wr.heap.size := by omega
        go_wp2
        go_region_held3 (fun w' => w'.cell? ⟨b1, off1 + 1, none⟩ = some (.string x.p) ∧ w'.cell? ⟨b2, off2 + 1, none⟩ = some (.string y.p)) (first | exact ⟨x1, y1⟩ | exact ⟨(hb3.cell (p := ⟨b1, off1 + 1, none⟩) hgr1).trans x1, (hb3.cell (p := ⟨b2, off2 + 1, none⟩) hgr2).trans y1⟩ | go_keep) (first | (go_at_call 44; refine (HLE _).mono ?_; rintro e w3 ⟨rfl, hb3⟩))
        have d3 : Below w.heap.size w w3 := hbw.drew.trans (hb3.mono hbw.size)
        have hr3 : RowOf w3 w.heap.size (.slice fA M.length fcap) M.length M := (hrow.below (Below.refl _ _).drew).below hb3
        clear x1 y1
        obtain ⟨x0, x1, x2, x3, x4⟩ := HX.out _ d3
        obtain ⟨_, y1, _, _, _⟩ := HY.out _ d3
        go_wp2
        go_quiet (fail)
        have hq : Below w.heap.size w (w3.drewN nq) := below_drewN d3 nq
        have hrq : RowOf (w3.drewN nq) w.heap.size (.slice fA M.length fcap) M.length M := hr3.below (below_drewN (Below.refl _ _) nq)
        generalize w3.drewN nq = wq at *
        clear x0 x1 x2 x3 x4 y1
        obtain ⟨x0, x1, x2, x3, x4⟩ := HX.out _ hq
        have HSP := stops_any x wq
        unfold R.val at HSP
        by_cases hcc : cap1 = 1
        · have HT1 := Lib.hid (tail_one (HR1.out) hcc)
          have hn0 : n1 = 1 := by omega
          subst hcc
          subst hn0
          clear hcap1
          go_wp2_with fail
          refine HSP.mono ?_
          rintro e wt ⟨rfl, hbt⟩
          have ht : Below w.heap.size w wt := hq.trans (hbt.mono hq.size)
          have hrt := hrq.below hbt
          obtain ⟨e0, e1, e2, e3, e4⟩ := HY.out _ ht
          have HPL := placed_any y (stops x) wt
          unfold R.val at HPL
          generalize hz : placed y (stops x) = z at HPL
          have HZ := Lib.hid hz
          clear hz
          have HN : Hid (two L U = M ++ [z] ++ twoL U a b) := HD.out.trans (by rw [two_eq HEQ.out, ← HZ.out]; simp [placed, overR])
          by_cases hcd : cap2 = 1
          · have HT2 := Lib.hid (tail_one (HR2.out) hcd)
            have hn0 : n2 = 1 := by omega
            subst hcd
            subst hn0
            clear hcap2
            go_wp2_with fail
            refine HPL.mono ?_
            rintro e w6 ⟨rfl, hb6⟩
            have d6 := ht.trans (hb6.mono ht.size)
            have hr6 := hrt.below hb6
            have hr3 : (w6.alloc (.cells #[.int .i64 z.k, .string z.p, .string z.b, .int .i64 z.m, .bool z.o] 53)).ownsRow w.heap.size 53 5 (.slice fA M.length fcap) M.length (flat M) := hr6.2.alloc _
            have hnews := rec_cells_new w6 z 53
            have hone := rec_one z
            have hbz : w.heap.size ≤ (w6.alloc (.cells #[.int .i64 z.k, .string z.p, .string z.b, .int .i64 z.m, .bool z.o] 53)).heap.size := (d6.alloc d6.size _).size
            go_wp2_with (first
              | (at_builtin; refine wpList_append_own _ rfl _ _ 27 rfl w.heap.size 53 i0 (.agg #[.int .i64 0, .string ByteArray.empty, .string ByteArray.empty, .int .i64 0, .bool false]) 5 56 Tryz.underlying27 hi hI0 hI1 hI2 rfl (by decide) _ _ _ rfl hr3 ⟨w6.heap.size, 0, none⟩ 1 1 (R.cs z) rfl rfl hnews hone (by unfold maxLen; omega) (by omega) hbz ?_; intro v' w9 hown' hgrow9 hnil9))
            have hrow9 := row_snoc hown'
            have hb9 : Below w.heap.size w w9 := (d6.alloc d6.size _).grown hgrow9 hbz (fun j hj => (hrow.2.lt j hj).1)
            exact ⟨⟨a, b, M ++ [z], HT1.out, HT2.out, fun r hr => hm1 r (List.mem_cons_of_mem _ hr), fun r hr => hm2 r (List.mem_cons_of_mem _ hr), by have h0 := HB2.out; have h1 := HA1.out; rw [List.length_append]; show M.length + 1 + a.length + b.length ≤ 1024; omega, hrow9, HN, hb9⟩, by simp only [lenV] <;> omega⟩
          · have HT2 := Lib.hid (tail_more (HR2.out) )
            go_wp2_with fail
            refine HPL.mono ?_
            rintro e w6 ⟨rfl, hb6⟩
            have d6 := ht.trans (hb6.mono ht.size)
            have hr6 := hrt.below hb6
            have hr3 : (w6.alloc (.cells #[.int .i64 z.k, .string z.p, .string z.b, .int .i64 z.m, .bool z.o] 53)).ownsRow w.heap.size 53 5 (.slice fA M.length fcap) M.length (flat M) := hr6.2.alloc _
            have hnews := rec_cells_new w6 z 53
            have hone := rec_one z
            have hbz : w.heap.size ≤ (w6.alloc (.cells #[.int .i64 z.k, .string z.p, .string z.b, .int .i64 z.m, .bool z.o] 53)).heap.size := (d6.alloc d6.size _).size
            go_wp2_with (first
              | (at_builtin; refine wpList_append_own _ rfl _ _ 27 rfl w.heap.size 53 i0 (.agg #[.int .i64 0, .string ByteArray.empty, .string ByteArray.empty, .int .i64 0, .bool false]) 5 56 Tryz.underlying27 hi hI0 hI1 hI2 rfl (by decide) _ _ _ rfl hr3 ⟨w6.heap.size, 0, none⟩ 1 1 (R.cs z) rfl rfl hnews hone (by unfold maxLen; omega) (by omega) hbz ?_; intro v' w9 hown' hgrow9 hnil9))
            have hrow9 := row_snoc hown'
            have hb9 : Below w.heap.size w w9 := (d6.alloc d6.size _).grown hgrow9 hbz (fun j hj => (hrow.2.lt j hj).1)
            exact ⟨⟨a, b, M ++ [z], HT1.out, HT2.out, fun r hr => hm1 r (List.mem_cons_of_mem _ hr), fun r hr => hm2 r (List.mem_cons_of_mem _ hr), by have h0 := HB2.out; have h1 := HA1.out; rw [List.length_append]; show M.length + 1 + a.length + b.length ≤ 1024; omega, hrow9, HN, hb9⟩, by simp only [lenV] <;> omega⟩
        · have HT1 := Lib.hid (tail_more (HR1.out) )
          go_wp2_with fail
          refine HSP.mono ?_
          rintro e wt ⟨rfl, hbt⟩
          have ht : Below w.heap.size w wt := hq.trans (hbt.mono hq.size)
          have hrt := hrq.below hbt
          obtain ⟨e0, e1, e2, e3, e4⟩ := HY.out _ ht
          have HPL := placed_any y (stops x) wt
          unfold R.val at HPL
          generalize hz : placed y (stops x) = z at HPL
          have HZ := Lib.hid hz
          clear hz
          have HN : Hid (two L U = M ++ [z] ++ twoL U a b) := HD.out.trans (by rw [two_eq HEQ.out, ← HZ.out]; simp [placed, overR])
          by_cases hcd : cap2 = 1
          · have HT2 := Lib.hid (tail_one (HR2.out) hcd)
            have hn0 : n2 = 1 := by omega
            subst hcd
            subst hn0
            clear hcap2
            go_wp2_with fail
            refine HPL.mono ?_
            rintro e w6 ⟨rfl, hb6⟩
            have d6 := ht.trans (hb6.mono ht.size)
            have hr6 := hrt.below hb6
            have hr3 : (w6.alloc (.cells #[.int .i64 z.k, .string z.p, .string z.b, .int .i64 z.m, .bool z.o] 53)).ownsRow w.heap.size 53 5 (.slice fA M.length fcap) M.length (flat M) := hr6.2.alloc _
            have hnews := rec_cells_new w6 z 53
            have hone := rec_one z
            have hbz : w.heap.size ≤ (w6.alloc (.cells #[.int .i64 z.k, .string z.p, .string z.b, .int .i64 z.m, .bool z.o] 53)).heap.size := (d6.alloc d6.size _).size
            go_wp2_with (first
              | (at_builtin; refine wpList_append_own _ rfl _ _ 27 rfl w.heap.size 53 i0 (.agg #[.int .i64 0, .string ByteArray.empty, .string ByteArray.empty, .int .i64 0, .bool false]) 5 56 Tryz.underlying27 hi hI0 hI1 hI2 rfl (by decide) _ _ _ rfl hr3 ⟨w6.heap.size, 0, none⟩ 1 1 (R.cs z) rfl rfl hnews hone (by unfold maxLen; omega) (by omega) hbz ?_; intro v' w9 hown' hgrow9 hnil9))
            have hrow9 := row_snoc hown'
            have hb9 : Below w.heap.size w w9 := (d6.alloc d6.size _).grown hgrow9 hbz (fun j hj => (hrow.2.lt j hj).1)
            exact ⟨⟨a, b, M ++ [z], HT1.out, HT2.out, fun r hr => hm1 r (List.mem_cons_of_mem _ hr), fun r hr => hm2 r (List.mem_cons_of_mem _ hr), by have h0 := HB2.out; have h1 := HA1.out; rw [List.length_append]; show M.length + 1 + a.length + b.length ≤ 1024; omega, hrow9, HN, hb9⟩, by simp only [lenV] <;> omega⟩
          · have HT2 := Lib.hid (tail_more (HR2.out) )
            go_wp2_with fail
            refine HPL.mono ?_
            rintro e w6 ⟨rfl, hb6⟩
            have d6 := ht.trans (hb6.mono ht.size)
            have hr6 := hrt.below hb6
            have hr3 : (w6.alloc (.cells #[.int .i64 z.k, .string z.p, .string z.b, .int .i64 z.m, .bool z.o] 53)).ownsRow w.heap.size 53 5 (.slice fA M.length fcap) M.length (flat M) := hr6.2.alloc _
            have hnews := rec_cells_new w6 z 53
            have hone := rec_one z
            have hbz : w.heap.size ≤ (w6.alloc (.cells #[.int .i64 z.k, .string z.p, .string z.b, .int .i64 z.m, .bool z.o] 53)).heap.size := (d6.alloc d6.size _).size
            go_wp2_with (first
              | (at_builtin; refine wpList_append_own _ rfl _ _ 27 rfl w.heap.size 53 i0 (.agg #[.int .i64 0, .string ByteArray.empty, .string ByteArray.empty, .int .i64 0, .bool false]) 5 56 Tryz.underlying27 hi hI0 hI1 hI2 rfl (by decide) _ _ _ rfl hr3 ⟨w6.heap.size, 0, none⟩ 1 1 (R.cs z) rfl rfl hnews hone (by unfold maxLen; omega) (by omega) hbz ?_; intro v' w9 hown' hgrow9 hnil9))
            have hrow9 := row_snoc hown'
            have hb9 : Below w.heap.size w w9 := (d6.alloc d6.size _).grown hgrow9 hbz (fun j hj => (hrow.2.lt j hj).1)
            exact ⟨⟨a, b, M ++ [z], HT1.out, HT2.out, fun r hr => hm1 r (List.mem_cons_of_mem _ hr), fun r hr => hm2 r (List.mem_cons_of_mem _ hr), by have h0 := HB2.out; have h1 := HA1.out; rw [List.length_append]; show M.length + 1 + a.length + b.length ≤ 1024; omega, hrow9, HN, hb9⟩, by simp only [lenV] <;> omega⟩
      · have HNE : Hid (x.p ≠ y.p) := fun e => by rw [e] at heq; simp at heq
        obtain ⟨_, x1, _, _, _⟩ := HX.out _ hbw
        obtain ⟨_, y1, _, _, _⟩ := HY.out _ hbw
        have hgr1 : b1 < wr.heap.size := by omega
        have hgr2 : b2 < wr.heap.size := by omega
        go_wp2
        go_region_held3 (fun w' => w'.cell? ⟨b1, off1 + 1, none⟩ = some (.string x.p) ∧ w'.cell? ⟨b2, off2 + 1, none⟩ = some (.string y.p)) (first | exact ⟨x1, y1⟩ | exact ⟨(hb3.cell (p := ⟨b1, off1 + 1, none⟩) hgr1).trans x1, (hb3.cell (p := ⟨b2, off2 + 1, none⟩) hgr2).trans y1⟩ | go_keep) (first | (go_at_call 44; refine (HLE _).mono ?_; rintro e w3 ⟨rfl, hb3⟩))
        have d3 : Below w.heap.size w w3 := hbw.drew.trans (hb3.mono hbw.size)
        have hr3 : RowOf w3 w.heap.size (.slice fA M.length fcap) M.length M := (hrow.below (Below.refl _ _).drew).below hb3
        clear x1 y1
        obtain ⟨x0, x1, x2, x3, x4⟩ := HX.out _ d3
        obtain ⟨_, y1, _, _, _⟩ := HY.out _ d3
        go_wp2
        go_quiet (fail)
        have ht : Below w.heap.size w (w3.drewN nq) := below_drewN d3 nq
        have hrt : RowOf (w3.drewN nq) w.heap.size (.slice fA M.length fcap) M.length M := hr3.below (below_drewN (Below.refl _ _) nq)
        generalize w3.drewN nq = wt at *
        clear x0 x1 x2 x3 x4 y1
        obtain ⟨e0, e1, e2, e3, e4⟩ := HY.out _ ht
        have HPL := placed_any y false wt
        unfold R.val at HPL
        generalize hz : placed y false = z at HPL
        have HZ := Lib.hid hz
        clear hz
        have HN : Hid (two L U = M ++ [z] ++ twoL U (x :: a) b) := HD.out.trans (by rw [two_high HNL.out HNE.out, ← HZ.out]; simp [placed])
        by_cases hcd : cap2 = 1
        · have HT2 := Lib.hid (tail_one (HR2.out) hcd)
          have hn0 : n2 = 1 := by omega
          subst hcd
          subst hn0
          clear hcap2
          go_wp2_with fail
          refine HPL.mono ?_
          rintro e w6 ⟨rfl, hb6⟩
          have d6 := ht.trans (hb6.mono ht.size)
          have hr6 := hrt.below hb6
          have hr3 : (w6.alloc (.cells #[.int .i64 z.k, .string z.p, .string z.b, .int .i64 z.m, .bool z.o] 53)).ownsRow w.heap.size 53 5 (.slice fA M.length fcap) M.length (flat M) := hr6.2.alloc _
          have hnews := rec_cells_new w6 z 53
          have hone := rec_one z
          have hbz : w.heap.size ≤ (w6.alloc (.cells #[.int .i64 z.k, .string z.p, .string z.b, .int .i64 z.m, .bool z.o] 53)).heap.size := (d6.alloc d6.size _).size
          go_wp2_with (first
            | (at_builtin; refine wpList_append_own _ rfl _ _ 27 rfl w.heap.size 53 i0 (.agg #[.int .i64 0, .string ByteArray.empty, .string ByteArray.empty, .int .i64 0, .bool false]) 5 56 Tryz.underlying27 hi hI0 hI1 hI2 rfl (by decide) _ _ _ rfl hr3 ⟨w6.heap.size, 0, none⟩ 1 1 (R.cs z) rfl rfl hnews hone (by unfold maxLen; omega) (by omega) hbz ?_; intro v' w9 hown' hgrow9 hnil9))
          have hrow9 := row_snoc hown'
          have hb9 : Below w.heap.size w w9 := (d6.alloc d6.size _).grown hgrow9 hbz (fun j hj => (hrow.2.lt j hj).1)
          exact ⟨⟨(x :: a), b, M ++ [z], HR1.out, HT2.out, hm1, fun r hr => hm2 r (List.mem_cons_of_mem _ hr), by have h0 := HB2.out; have h1 := HA1.out; rw [List.length_append]; show M.length + 1 + (a.length + 1) + b.length ≤ 1024; omega, hrow9, HN, hb9⟩, by simp only [lenV] <;> omega⟩
        · have HT2 := Lib.hid (tail_more (HR2.out) )
          go_wp2_with fail
          refine HPL.mono ?_
          rintro e w6 ⟨rfl, hb6⟩
          have d6 := ht.trans (hb6.mono ht.size)
          have hr6 := hrt.below hb6
          have hr3 : (w6.alloc (.cells #[.int .i64 z.k, .string z.p, .string z.b, .int .i64 z.m, .bool z.o] 53)).ownsRow w.heap.size 53 5 (.slice fA M.length fcap) M.length (flat M) := hr6.2.alloc _
          have hnews := rec_cells_new w6 z 53
          have hone := rec_one z
          have hbz : w.heap.size ≤ (w6.alloc (.cells #[.int .i64 z.k, .string z.p, .string z.b, .int .i64 z.m, .bool z.o] 53)).heap.size := (d6.alloc d6.size _).size
          go_wp2_with (first
            | (at_builtin; refine wpList_append_own _ rfl _ _ 27 rfl w.heap.size 53 i0 (.agg #[.int .i64 0, .string ByteArray.empty, .string ByteArray.empty, .int .i64 0, .bool false]) 5 56 Tryz.underlying27 hi hI0 hI1 hI2 rfl (by decide) _ _ _ rfl hr3 ⟨w6.heap.size, 0, none⟩ 1 1 (R.cs z) rfl rfl hnews hone (by unfold maxLen; omega) (by omega) hbz ?_; intro v' w9 hown' hgrow9 hnil9))
          have hrow9 := row_snoc hown'
          have hb9 : Below w.heap.size w w9 := (d6.alloc d6.size _).grown hgrow9 hbz (fun j hj => (hrow.2.lt j hj).1)
          exact ⟨⟨(x :: a), b, M ++ [z], HR1.out, HT2.out, hm1, fun r hr => hm2 r (List.mem_cons_of_mem _ hr), by have h0 := HB2.out; have h1 := HA1.out; rw [List.length_append]; show M.length + 1 + (a.length + 1) + b.length ≤ 1024; omega, hrow9, HN, hb9⟩, by simp only [lenV] <;> omega⟩
end Go.Proofs.YtibekkfbpmloiabGreatDoor.Recs
