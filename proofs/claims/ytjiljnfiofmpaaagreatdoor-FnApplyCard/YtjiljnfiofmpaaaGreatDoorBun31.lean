/- Several texts of mine in one file (each begins with its own remark). -/
import Derived.Test.YtjiljnfiofmpaaaGreatDoorBun30
import Derived.Test.YtjiljnfiofmpaaaGreatDoorBun28
import Derived.Test.YtjiljnfiofmpaaaGreatDoorBun29
import Derived.Test.YtjiljnfiofmpaaaGreatDoorBun20
import Derived.Test.YtjiljnfiofmpaaaGreatDoorBun17
import Derived.Test.YtjiljnfiofmpaaaGreatDoorBun26
/- The model's draws: a layer drawn is one. -/

namespace Go.Proofs.YtjiljnfiofmpaaaGreatDoor.Draw
set_option maxRecDepth 100000
open Go.RowKit
open Paths Recs

theorem row_went {a b : World} {B g m base : Nat} {v : Value} {n : Nat} {M : List R} (h : RowOf a base v n M) (hw : Went a b B g m) (hg : g < base) : RowOf b base v n M :=
  ⟨h.1, h.2.kept hw.2 (by
    cases hv : v.ownBlock with
    | none => exact .inl rfl
    | some k => exact .inr fun e => by cases e; have := (h.2.lt _ hv).1; omega)⟩
theorem fault_i {k mm : Int} {p b : ByteArray} {o : Bool} (h : faultI k p.data.toList b.size mm o = 0) : R.fault ⟨k, mm, p, b, o⟩ = 0 := h

set_option maxHeartbeats 2000000 in
theorem layer_any (w : World) (B g m : Nat) (h : Src w B g m) (hm : m + 100 ≤ 1000000) :
    Calls Tryz.prog 93 #[.pointer (some ⟨g, 0, none⟩)] w fun e w' => ∃ v l, e = .returned v ∧ layerOK l = true ∧ Went w w' B g (m + 100) ∧ RowOf w' w.heap.size v l.length l ∧ v ≠ .slice none 0 0 := by
  have hgl := h.lt
  have hb0 : Below w.heap.size w (w.alloc (.cells #[] 26)) := (Below.refl _ _).alloc (Nat.le_refl _) _
  have HO0 : Hid (layerOK [] = true ∧ RowOf (w.alloc (.cells #[] 26)) w.heap.size (.slice (some ⟨w.heap.size, 0, none⟩) 0 0) ([] : List R).length [] ∧ (Value.slice (some ⟨w.heap.size, 0, none⟩) 0 0) ≠ .slice none 0 0) := ⟨fine_ok fine_nil (by simp), ⟨rfl, World.ownsRow_lit w #[] 0 (Nat.le_refl _) (Nat.zero_le _) rfl⟩, (fun e => by cases e)⟩
  have HW0 := Lib.hid ((Went.refl h).below hb0)
  have HRM := room_any _ B g m 6 (h.below hb0) (by omega)
  clear h
  go_enter Tryz.func93, Tryz.ntmps93
  go_wp2_with fail
  generalize w.alloc (.cells #[] 26) = W1 at *
  refine HRM.mono ?_
  rintro e w2 ⟨r, hr1, hr6, rfl, rfl⟩
  have HNX := next_small W1 B g m ((r : Int) + 3) HW0.out.1 (by omega) (by omega)
  go_wp2_with fail
  refine HNX.mono ?_
  rintro e w3 ⟨N, hN, rfl, hw3⟩
  have hN9 : N ≤ 9 := by omega
  have HI0 : Hid (Went w w3 B g (m + 1) ∧ layerOK [] = true ∧ RowOf w3 w.heap.size (.slice (some ⟨w.heap.size, 0, none⟩) 0 0) ([] : List R).length [] ∧ (Value.slice (some ⟨w.heap.size, 0, none⟩) 0 0) ≠ .slice none 0 0) := ⟨HW0.out.trans hw3, HO0.out.1, row_went HO0.out.2.1 hw3 hgl, HO0.out.2.2⟩
  clear hN hw3 HO0 HW0
  go_wp2
  go_loopw [3, 4] (fun lv iv wr => ∃ (k : Nat) (l : List R), k ≤ N ∧ iv = .int .i64 k ∧ Hid (Went w wr B g (m + 1 + 7 * (N - k)) ∧ layerOK l = true ∧ RowOf wr w.heap.size lv l.length l ∧ lv ≠ .slice none 0 0)) (fun _ i _ => (intOf i).toNat)
  case atStart => exact ⟨N, [], Nat.le_refl _, rfl, by
    have h1 := HI0.out
    show Went w w3 B g (m + 1 + 7 * (N - N)) ∧ _
    rw [Nat.sub_self]
    exact h1⟩
  case round =>
    obtain ⟨k, l, hk, rfl, HI⟩ := hrel
    obtain ⟨lA, lcap, rfl⟩ := HI.out.2.2.1.form
    have hl16 := layer_len HI.out.2.1
    by_cases h0 : 0 < k
    · have hd : decide ((0 : Int) < (k : Int)) = true := by simp; omega
      have HPT := path_any wr B g _ HI.out.1.1 (by omega)
      go_wp2_with fail
      refine HPT.mono ?_
      rintro e w4 ⟨q, hq, rfl, hw4⟩
      have HW4 := Lib.hid hw4
      have HP := Lib.hid (show pathB (⟨q.toArray⟩ : ByteArray).data.toList = true by simpa using hq)
      clear hw4 hq
      rw [strV_eq2]
      have HRC := record_any w4 B g _ ⟨q.toArray⟩ HP.out HW4.out.1 (by omega)
      go_wp2_with fail
      refine HRC.mono ?_
      rintro e w5 ⟨rk, rm, rb, ro, hf, _, rfl, hw5⟩
      have HW5 := Lib.hid (HI.out.1.trans (HW4.out.trans hw5))
      have HR5 := Lib.hid (row_went (row_went HI.out.2.2.1 HW4.out hgl) hw5 hgl)
      have HF := Lib.hid (fault_i hf)
      have HPU := l03Put_any 4 _ l ⟨rk, rm, ⟨q.toArray⟩, rb, ro⟩ w5 HR5.out.sl (layer_lays HI.out.2.1) HF.out (pathB_parts HP.out).1 (by omega)
      unfold R.val at HPU
      clear hw5 hf
      go_wp2_with fail
      refine HPU.mono ?_
      rintro e w6 ⟨x, rfl, hb6, hrow6, hx6⟩
      obtain ⟨xA, xcap, rfl⟩ := hrow6.form
      have HX6 := Lib.hid hx6
      have HR6 := Lib.hid hrow6
      have h5l : w.heap.size ≤ w5.heap.size := HW5.out.2.size
      have HW6 : Hid (Went w w6 B g (m + 1 + 7 * (N - (k - 1)))) := (HW5.out.below hb6).more (by omega) (by omega)
      clear hrow6 hx6
      have hk1 : ((k - 1 : Nat) : Int) = (k : Int) - 1 := by omega
      by_cases h16 : (lputF 4 l ⟨rk, rm, ⟨q.toArray⟩, rb, ro⟩).length ≤ 16
      · have hd2 : decide (((lputF 4 l ⟨rk, rm, ⟨q.toArray⟩, rb, ro⟩).length : Int) ≤ 16) = true := by simp; omega
        have HOK : Hid (layerOK (lputF 4 l ⟨rk, rm, ⟨q.toArray⟩, rb, ro⟩) = true) := lput_layer HI.out.2.1 HF.out h16
        clear h16
        go_wp2_with fail
        go_roundw
        case rel => exact ⟨k - 1, _, by omega, by rw [hk1], HW6.out, HOK.out, ⟨HR6.out.1, own_down HR6.out.2 h5l⟩, HX6.out⟩
        case measure => simp [intOf]; omega
      · have hd2 : decide (((lputF 4 l ⟨rk, rm, ⟨q.toArray⟩, rb, ro⟩).length : Int) ≤ 16) = false := by simp; omega
        have HRL := Lib.hid (HR5.out.below hb6)
        clear h16
        go_wp2_with fail
        go_roundw
        case rel => exact ⟨k - 1, l, by omega, by rw [hk1], HW6.out, HI.out.2.1, HRL.out, HI.out.2.2.2⟩
        case measure => simp [intOf]; omega
    · have hd : decide ((0 : Int) < (k : Int)) = false := by simp; omega
      go_wp2_with fail
      go_ret
      exact ⟨_, l, rfl, HI.out.2.1, HI.out.1.more (by omega) (by omega), HI.out.2.2.1, HI.out.2.2.2⟩

set_option maxHeartbeats 400000 in
theorem layerDrawn_any (w : World) (A : Option Addr) (n cap : Nat) (hB : Byts w w.heap.size A n) (hn : n ≤ cap) :
    Calls Tryz.prog 31 #[.slice A n cap] w fun e w' => ∃ v l, e = .returned v ∧ layerOK l = true ∧ Below w.heap.size w w' ∧ RowOf w' w.heap.size v l.length l ∧ v ≠ .slice none 0 0 := by
  have HB := Lib.hid hB
  clear hB
  go_enter Tryz.func31, Tryz.ntmps31
  go_wp2_with fail
  refine (source_any w A n cap HB.out hn).mono ?_
  rintro e w1 ⟨rfl, hs1, hb1⟩
  have HS1 := Lib.hid hs1
  clear hs1
  go_wp2_with fail
  refine (layer_any w1 w.heap.size w.heap.size 0 HS1.out (by omega)).mono ?_
  rintro e w2 ⟨v, l, rfl, hok, hw2, hrow, hv⟩
  have HL := Lib.hid hok
  have HB2 := Lib.hid (hb1.trans (hw2.belowB hb1.size))
  have HR := Lib.hid hrow
  have HV := Lib.hid hv
  have hz := hb1.size
  clear hok hw2 hrow hv
  go_wp2_with fail
  go_ret
  exact ⟨v, l, rfl, HL.out, HB2.out, ⟨HR.out.1, own_down HR.out.2 hz⟩, HV.out⟩
end Go.Proofs.YtjiljnfiofmpaaaGreatDoor.Draw

/- The model's draws: a tree drawn is one. -/

namespace Go.Proofs.YtjiljnfiofmpaaaGreatDoor.Draw
set_option maxRecDepth 100000
open Go.RowKit
open Paths Recs

/-- The record that a drawn record gives a tree. -/
def plainR (r : R) : R := ⟨if r.k = 4 then 3 else r.k, r.m, r.p, r.b, false⟩
theorem plain_fault {r : R} (h : r.fault = 0) : (plainR r).fault = 0 := by
  by_cases hk : r.k = 4
  · obtain ⟨hb, hm, _⟩ := (fault_more h).2 hk
    unfold plainR R.fault
    simp only [if_pos hk, hb, hm]
    exact good_dir (fault_path h).1 (by omega) false
  · unfold plainR
    rw [if_neg hk]
    exact nodeOf_fault h
theorem plain_is (r : R) : (plainR r).o = false ∧ (plainR r).k ≠ 4 := by
  refine ⟨rfl, ?_⟩
  unfold plainR
  split
  · show (3 : Int) ≠ 4
    decide
  · rename_i h
    exact h
def Plain (l : List R) : Prop := ∀ x ∈ l, x.o = false ∧ x.k ≠ 4
theorem plain_put {l : List R} {r : R} (hl : layerOK l = true) (hp : Plain l) (hr : r.fault = 0) : Plain (lputF 4 l (plainR r)) :=
  lput_all (P := fun x => x.o = false ∧ x.k ≠ 4) (fun q => ⟨rfl, by show (3 : Int) ≠ 4; decide⟩) 4 (layer_lays hl) (plain_fault hr) (pathB_parts (fault_path (plain_fault hr)).1).1 hp (plain_is r)
theorem plain_tree {l : List R} (hl : layerOK l = true) (hp : Plain l) : Tree l := lays_tree (layer_lays hl) (fun r hr => (hp r hr).2) (by have := layer_len hl; omega)
theorem rown_went {a b : World} {B g m base : Nat} {v : Value} {n : Nat} {M : List R} (h : RowN a base v n M) (hw : Went a b B g m) (hg : g < base) : RowN b base v n M :=
  ⟨h.1, h.2.1.kept hw.2 (by
    cases hv : v.ownBlock with
    | none => exact .inl rfl
    | some k => exact .inr fun e => by cases e; have := (h.2.1.lt _ hv).1; omega), h.2.2⟩

set_option maxHeartbeats 4000000 in
theorem tree_any (w : World) (B g m : Nat) (h : Src w B g m) (hm : m + 100 ≤ 1000000) :
    Calls Tryz.prog 57 #[.pointer (some ⟨g, 0, none⟩)] w fun e w' => ∃ v t, e = .returned v ∧ Tree t ∧ (∀ r ∈ t, r.o = false) ∧ Went w w' B g (m + 100) ∧ RowN w' w.heap.size v t.length t ∧ v ≠ .slice none 0 0 := by
  obtain ⟨i0, hi, hI0, hI1, hI2⟩ := info_parts nodInfo
  have hgl := h.lt
  have hb0 : Below w.heap.size w (w.alloc (.cells #[] 26)) := (Below.refl _ _).alloc (Nat.le_refl _) _
  have HO0 : Hid (layerOK [] = true ∧ Plain [] ∧ RowOf (w.alloc (.cells #[] 26)) w.heap.size (.slice (some ⟨w.heap.size, 0, none⟩) 0 0) ([] : List R).length []) := ⟨fine_ok fine_nil (by simp), (fun x hx => by cases hx), ⟨rfl, World.ownsRow_lit w #[] 0 (Nat.le_refl _) (Nat.zero_le _) rfl⟩⟩
  have HW0 := Lib.hid ((Went.refl h).below hb0)
  have HRM := room_any _ B g m 7 (h.below hb0) (by omega)
  clear h
  go_enter Tryz.func57, Tryz.ntmps57
  go_wp2_with fail
  generalize w.alloc (.cells #[] 26) = W1 at *
  refine HRM.mono ?_
  rintro e w2 ⟨r, hr1, hr6, rfl, rfl⟩
  have HNX := next_small W1 B g m ((r : Int) + 2) HW0.out.1 (by omega) (by omega)
  go_wp2_with fail
  refine HNX.mono ?_
  rintro e w3 ⟨N, hN, rfl, hw3⟩
  have hN9 : N ≤ 9 := by omega
  have HI0 : Hid (Went w w3 B g (m + 1) ∧ layerOK [] = true ∧ Plain [] ∧ RowOf w3 w.heap.size (.slice (some ⟨w.heap.size, 0, none⟩) 0 0) ([] : List R).length []) := ⟨HW0.out.trans hw3, HO0.out.1, HO0.out.2.1, row_went HO0.out.2.2 hw3 hgl⟩
  clear hN hw3 HO0 HW0
  go_wp2
  go_loopw [3, 4] (fun lv iv wr => ∃ (k : Nat) (l : List R), k ≤ N ∧ iv = .int .i64 k ∧ Hid (Went w wr B g (m + 1 + 7 * (N - k)) ∧ layerOK l = true ∧ Plain l ∧ RowOf wr w.heap.size lv l.length l)) (fun _ i _ => (intOf i).toNat)
  case atStart => exact ⟨N, [], Nat.le_refl _, rfl, by
    have h1 := HI0.out
    show Went w w3 B g (m + 1 + 7 * (N - N)) ∧ _
    rw [Nat.sub_self]
    exact h1⟩
  case round =>
    obtain ⟨k, l, hk, rfl, HI⟩ := hrel
    obtain ⟨lA, lcap, rfl⟩ := HI.out.2.2.2.form
    have hl16 := layer_len HI.out.2.1
    by_cases h0 : 0 < k
    · have hd : decide ((0 : Int) < (k : Int)) = true := by simp; omega
      have HPT := path_any wr B g _ HI.out.1.1 (by omega)
      go_wp2_with fail
      refine HPT.mono ?_
      rintro e w4 ⟨q, hq, rfl, hw4⟩
      have HW4 := Lib.hid hw4
      have HP := Lib.hid (show pathB (⟨q.toArray⟩ : ByteArray).data.toList = true by simpa using hq)
      clear hw4 hq
      rw [strV_eq2]
      have HRC := record_any w4 B g _ ⟨q.toArray⟩ HP.out HW4.out.1 (by omega)
      go_wp2_with fail
      refine HRC.mono ?_
      rintro e w5 ⟨rk, rm, rb, ro, hf, _, rfl, hw5⟩
      have HW5 := Lib.hid (HI.out.1.trans (HW4.out.trans hw5))
      have HR5 := Lib.hid (row_went (row_went HI.out.2.2.2 HW4.out hgl) hw5 hgl)
      have HF := Lib.hid (fault_i hf)
      have HPR : Hid (plainR ⟨rk, rm, ⟨q.toArray⟩, rb, ro⟩ = ⟨if rk = 4 then 3 else rk, rm, ⟨q.toArray⟩, rb, false⟩) := rfl
      have HPF := Lib.hid (plain_fault HF.out)
      have HPL := Lib.hid (plain_put HI.out.2.1 HI.out.2.2.1 HF.out)
      have h5l : w.heap.size ≤ w5.heap.size := HW5.out.2.size
      have hk1 : ((k - 1 : Nat) : Int) = (k : Int) - 1 := by omega
      clear hw5 hf
      have HPU : ∀ W, Below w5.heap.size w5 W → Calls Tryz.prog 118 #[.slice lA l.length lcap, (plainR ⟨rk, rm, ⟨q.toArray⟩, rb, ro⟩).val] W fun e w' => ∃ x, e = .returned x ∧ Below W.heap.size W w' ∧ RowOf w' W.heap.size x (lputF 4 l (plainR ⟨rk, rm, ⟨q.toArray⟩, rb, ro⟩)).length (lputF 4 l (plainR ⟨rk, rm, ⟨q.toArray⟩, rb, ro⟩)) ∧ x ≠ .slice none 0 0 := fun W hW =>
        l03Put_any 4 _ l _ W (HR5.out.below hW).sl (layer_lays HI.out.2.1) HPF.out (pathB_parts (fault_path HPF.out).1).1 (by omega)
      rw [HPR.out] at HPU
      have HLO : Hid ((lputF 4 l (plainR ⟨rk, rm, ⟨q.toArray⟩, rb, ro⟩)).length ≤ 16 → layerOK (lputF 4 l (plainR ⟨rk, rm, ⟨q.toArray⟩, rb, ro⟩)) = true) := fun h16 => lput_layer HI.out.2.1 HPF.out h16
      rw [HPR.out] at HLO HPL
      unfold R.val at HPU
      by_cases h4 : rk = 4
      · have q4 : (rk == 4) = true := by simp [h4]
        rw [if_pos h4] at HPU HLO HPL
        clear h4
        have HWQ : Below w5.heap.size w5 (w5.alloc (.cells #[.int .i64 3, .string ⟨q.toArray⟩, .string rb, .int .i64 rm, .bool false] 26)) := (Below.refl _ _).alloc (Nat.le_refl _) _
        have HP2 := HPU _ HWQ
        generalize lputF 4 l ⟨3, rm, ⟨q.toArray⟩, rb, false⟩ = X at *
        go_wp2_with fail
        refine HP2.mono ?_
        rintro e w6 ⟨x, rfl, hb6, hrow6, hx6⟩
        obtain ⟨xA, xcap, rfl⟩ := hrow6.form
        have HR6 := Lib.hid hrow6
        have c6 : Below w5.heap.size w5 w6 := HWQ.trans (hb6.mono HWQ.size)
        have h6l := HWQ.size
        have HW6 : Hid (Went w w6 B g (m + 1 + 7 * (N - (k - 1)))) := (HW5.out.below c6).more (by omega) (by omega)
        clear hrow6 hx6
        by_cases h16 : X.length ≤ 16
        · have hd2 : decide ((X.length : Int) ≤ 16) = true := by simp; omega
          have HOK := Lib.hid (HLO.out h16)
          clear h16
          go_wp2_with fail
          go_roundw
          case rel => exact ⟨k - 1, _, by omega, by rw [hk1], HW6.out, HOK.out, HPL.out, ⟨HR6.out.1, own_down HR6.out.2 (Nat.le_trans h5l h6l)⟩⟩
          case measure => simp [intOf]; omega
        · have hd2 : decide ((X.length : Int) ≤ 16) = false := by simp; omega
          have HRL := Lib.hid (HR5.out.below c6)
          clear h16
          go_wp2_with fail
          go_roundw
          case rel => exact ⟨k - 1, l, by omega, by rw [hk1], HW6.out, HI.out.2.1, HI.out.2.2.1, HRL.out⟩
          case measure => simp [intOf]; omega
      · have q4 : (rk == 4) = false := by simp [h4]
        rw [if_neg h4] at HPU HLO HPL
        clear h4
        have HWQ : Below w5.heap.size w5 (w5.alloc (.cells #[.int .i64 rk, .string ⟨q.toArray⟩, .string rb, .int .i64 rm, .bool false] 26)) := (Below.refl _ _).alloc (Nat.le_refl _) _
        have HP2 := HPU _ HWQ
        generalize lputF 4 l ⟨rk, rm, ⟨q.toArray⟩, rb, false⟩ = X at *
        go_wp2_with fail
        refine HP2.mono ?_
        rintro e w6 ⟨x, rfl, hb6, hrow6, hx6⟩
        obtain ⟨xA, xcap, rfl⟩ := hrow6.form
        have HR6 := Lib.hid hrow6
        have c6 : Below w5.heap.size w5 w6 := HWQ.trans (hb6.mono HWQ.size)
        have h6l := HWQ.size
        have HW6 : Hid (Went w w6 B g (m + 1 + 7 * (N - (k - 1)))) := (HW5.out.below c6).more (by omega) (by omega)
        clear hrow6 hx6
        by_cases h16 : X.length ≤ 16
        · have hd2 : decide ((X.length : Int) ≤ 16) = true := by simp; omega
          have HOK := Lib.hid (HLO.out h16)
          clear h16
          go_wp2_with fail
          go_roundw
          case rel => exact ⟨k - 1, _, by omega, by rw [hk1], HW6.out, HOK.out, HPL.out, ⟨HR6.out.1, own_down HR6.out.2 (Nat.le_trans h5l h6l)⟩⟩
          case measure => simp [intOf]; omega
        · have hd2 : decide ((X.length : Int) ≤ 16) = false := by simp; omega
          have HRL := Lib.hid (HR5.out.below c6)
          clear h16
          go_wp2_with fail
          go_roundw
          case rel => exact ⟨k - 1, l, by omega, by rw [hk1], HW6.out, HI.out.2.1, HI.out.2.2.1, HRL.out⟩
          case measure => simp [intOf]; omega
    · have hd : decide ((0 : Int) < (k : Int)) = false := by simp; omega
      have HTR := Lib.hid (plain_tree HI.out.2.1 HI.out.2.2.1)
      have HPL := Lib.hid HI.out.2.2.1
      have HSL := Lib.hid HI.out.2.2.2.sl
      have HWE : Hid (Went w wr B g (m + 100)) := HI.out.1.more (by omega) (by omega)
      have hwr : w.heap.size ≤ wr.heap.size := HWE.out.2.size
      have HQ0 : Hid (([] : List R) = l.take 0 ∧ RowN (wr.alloc (.cells #[] 29)) wr.heap.size (.slice (some ⟨wr.heap.size, 0, none⟩) 0 0) ([] : List R).length [] ∧ (Value.slice (some ⟨wr.heap.size, 0, none⟩) 0 0) ≠ .slice none 0 0) := ⟨rfl, emptyN wr (Nat.le_refl _), (fun e => by cases e)⟩
      have kA : Below wr.heap.size wr (wr.alloc (.cells #[] 29)) := (Below.refl _ _).alloc (Nat.le_refl _) _
      clear HI
      generalize hwo : wr = wo at *
      clear hwo
      go_wp2
      go_loopw [7, 8] (fun ov iv wx => ∃ (j : Nat) (O : List R), j ≤ l.length ∧ iv = .int .i64 j ∧ Below wo.heap.size wo wx ∧ Hid (O = l.take j ∧ RowN wx wo.heap.size ov O.length O ∧ ov ≠ .slice none 0 0)) (fun _ i _ => l.length - (intOf i).toNat)
      case atStart => exact ⟨0, [], by omega, rfl, kA, HQ0.out⟩
      case round =>
        obtain ⟨j, O, hj, rfl, kw, HJ⟩ := hrel
        obtain ⟨oA, ocap, rfl⟩ := own_form HJ.out.2.1.2.1
        by_cases hlt : j < l.length
        · obtain ⟨_, _, hsle, _, HS0⟩ := HSL.out
          cases hsle
          obtain ⟨b, off, hsA, hb, hcell⟩ := HS0 (by omega)
          cases hsA
          obtain ⟨c0, c1, c2, c3, c4⟩ := (hcell j l[j] (by simp [hlt])).below kw hb
          clear hcell HS0
          have hi1 : (j : Int) < (l.length : Int) := by omega
          have hi0 : (0 : Int) ≤ (j : Int) := by omega
          have HNO := l04Node_any l[j] wr
          unfold R.val R.nod at HNO
          have hl2 : O.length ≤ 16 := by have := congrArg List.length HJ.out.1; rw [List.length_take] at this; omega
          have HTK := Lib.hid (List.take_succ_eq_append_getElem hlt)
          have HOF := Lib.hid (HPL.out _ (List.getElem_mem hlt)).1
          go_wp2_with fail
          refine HNO.mono ?_
          rintro e w6 ⟨rfl, hb6⟩
          have k6 := kw.trans (hb6.mono kw.size)
          have HR6 := Lib.hid (HJ.out.2.1.below hb6)
          have hr3 : (w6.alloc (.cells #[.int .i64 l[j].k, .string l[j].p, .string l[j].b, .int .i64 l[j].m] 29)).ownsRow wo.heap.size 29 4 (.slice oA O.length ocap) O.length (flatN O) := HR6.out.2.1.alloc _
          have hnews := nodR_cells_new w6 l[j] 29
          have hone := nodR_one l[j]
          have hbz : wo.heap.size ≤ (w6.alloc (.cells #[.int .i64 l[j].k, .string l[j].p, .string l[j].b, .int .i64 l[j].m] 29)).heap.size := (k6.alloc k6.size _).size
          go_wp2_with (first
            | (at_builtin; refine wpList_append_own _ rfl _ _ 23 rfl wo.heap.size 29 i0 (.agg #[.int .i64 0, .string ByteArray.empty, .string ByteArray.empty, .int .i64 0]) 4 48 Tryz.underlying23 hi hI0 hI1 hI2 rfl (by decide) _ _ _ rfl hr3 ⟨w6.heap.size, 0, none⟩ 1 1 (R.ns l[j]) rfl rfl hnews hone (by unfold maxLen; omega) (by omega) hbz ?_; intro v' w9 hown' hgrow9 hnil9; have HRN : Hid (RowN w9 wo.heap.size v' (O ++ [l[j]]).length (O ++ [l[j]])) := rowN_snoc hown' HR6.out.2.2 HOF.out; have HNN : Hid (v' ≠ .slice none 0 0) := (fun e => by have := (hnil9.1 e).2; omega); have k9 := (k6.alloc k6.size _).grown hgrow9 hbz (fun j hj => (HR6.out.2.1.lt j hj).1); clear hown' hgrow9 hnil9)
            | go_in)
          go_roundw
          case rel => exact ⟨j + 1, O ++ [l[j]], by omega, by go_num, k9, ⟨by rw [HTK.out, HJ.out.1], HRN.out, HNN.out⟩⟩
          case measure => simp [intOf]; omega
        · obtain rfl : j = l.length := by omega
          have HOL : Hid (O = l) := (by show _ = _; rw [HJ.out.1, List.take_of_length_le (Nat.le_refl _)])
          go_wp2
          go_ret
          exact ⟨_, O, rfl, by rw [HOL.out]; exact HTR.out, by rw [HOL.out]; exact fun r hr => (HPL.out r hr).1, HWE.out.below kw, HJ.out.2.1.down hwr, HJ.out.2.2⟩

set_option maxHeartbeats 400000 in
theorem treeDrawn_any (w : World) (A : Option Addr) (n cap : Nat) (hB : Byts w w.heap.size A n) (hn : n ≤ cap) :
    Calls Tryz.prog 10 #[.slice A n cap] w fun e w' => ∃ v t, e = .returned v ∧ Tree t ∧ (∀ r ∈ t, r.o = false) ∧ Below w.heap.size w w' ∧ RowN w' w.heap.size v t.length t ∧ v ≠ .slice none 0 0 := by
  have HB := Lib.hid hB
  clear hB
  go_enter Tryz.func10, Tryz.ntmps10
  go_wp2_with fail
  refine (source_any w A n cap HB.out hn).mono ?_
  rintro e w1 ⟨rfl, hs1, hb1⟩
  have HS1 := Lib.hid hs1
  clear hs1
  go_wp2_with fail
  refine (tree_any w1 w.heap.size w.heap.size 0 HS1.out (by omega)).mono ?_
  rintro e w2 ⟨v, t, rfl, htr, hto, hw2, hrow, hv⟩
  have HL := Lib.hid htr
  have HO := Lib.hid hto
  have HB2 := Lib.hid (hb1.trans (hw2.belowB hb1.size))
  have HR := Lib.hid hrow
  have HV := Lib.hid hv
  have hz := hb1.size
  clear htr hto hw2 hrow hv
  go_wp2_with fail
  go_ret
  exact ⟨v, t, rfl, HL.out, HO.out, HB2.out, HR.out.down hz, HV.out⟩
end Go.Proofs.YtjiljnfiofmpaaaGreatDoor.Draw
