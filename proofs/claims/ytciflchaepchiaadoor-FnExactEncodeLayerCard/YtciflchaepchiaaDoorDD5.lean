/- Parts of several texts of mine in one file (each begins with its own remark). -/
import Derived.Test.YtciflchaepchiaaDoorDA2
import Derived.Test.YtciflchaepchiaaDoorDA3
import Derived.Test.YtciflchaepchiaaDoorDA4
import Derived.Test.YtciflchaepchiaaDoorDB1
import Derived.Test.YtciflchaepchiaaDoorDB2
import Derived.Test.YtciflchaepchiaaDoorDD1
import Derived.Test.YtciflchaepchiaaDoorDD4
import Derived.Test.YtciflchaepchiaaDoorChecked
import Derived.Test.YtciflchaepchiaaDoorShelf
import Derived.Test.YtciflchaepchiaaDoorProg
import Derived.Test.YtciflchaepchiaaDoorRows
import Derived.Deep.Cut
import Derived.Deep.RegionHeld3
import Derived.Laws.BytesArg
import Derived.Lib.ConvBytes
import Derived.Deep.Slices
import Derived.OpenShut
import Derived.ShutString
import Derived.ChangeArms
import Derived.WideShapes
import Derived.Lib.LaidTab
import Derived.BigQuiet
import Derived.Deep.QuietTactic
import Derived.StillTailTactics
import Derived.Deep.Draws
import Derived.Deep.LoopGhost
import Derived.WalkKit
import Derived.WalkSpells
import Derived.WalkSmall
import Derived.Lib.OthersKept
import Derived.Lib.Hide
import Derived.Lib.Strings
import Derived.Lib.Join
import Derived.WalkLawsBesides
import Derived.Below
import Derived.Shelf.Strings.Builder1
import Derived.Stop.LaidErr
import Derived.Laws.OwnMore
import Derived.BigRegion
import Derived.LaidEql
import Derived.Stop.Asserts
import Derived.Stop.LaidTwo
import Derived.ChangeVars
import Derived.Deep.DeepHandedRow
/- EncodeRecord and EncodeLayer, of the program and of the model. Conditions (of the program's): the table of kinds, the two sentinels. -/
namespace Go.Proofs.YtciflchaepchiaaDoor.Recs
set_option maxRecDepth 100000
open Go.RowKit Paths Errs

def elL (l : List R) : List UInt8 := if codeL l = 0 then encL l else []
theorem el_ok {l : List R} (h : codeL l = 0) : elL l = encL l := if_pos h
theorem el_bad {l : List R} {c : Int} (h : codeL l = c) (hc : c ≠ 0) : elL l = [] := if_neg (by rw [h]; exact hc)

set_option maxHeartbeats 3200000 in
theorem encodeLayer_impl (v : Value) (l : List R) (x y : Addr) (w : World) (h : RecSl w v l) (hl : l.length ≤ 1048576) (hr : ∀ r ∈ l, r.p.size ≤ maxLen) (hT : Three w x y) :
    Calls Tryd.prog 18 #[v] w fun e w' => ∃ B : ByteArray, e = .returned (.tuple #[.string B, .int .i64 (codeL l)]) ∧ B.data.toList = elL l ∧ Below w.heap.size w w' := by
  have HC := checkLayer_any v l x _ h hl hr hT.tab hT.long
  rw [← checkK_val] at HC
  obtain ⟨A, cap, rfl, hcap, h⟩ := h
  cases hk : checkK l with
  | fine =>
    rw [hk] at HC
    unfold EK.val at HC
    have h0 : codeL l = 0 := by rw [← arg_l, hk]; rfl
    have hok := codeL_ok h0
    have h16 := layer_len hok
    have HF : Hid (∀ r ∈ l, r.p.size ≤ 35 ∧ r.b.size ≤ 20) := fun r hm => ⟨(fault_enc (layer_rec hok hm)).2.2.2.2.2.1, (fault_enc (layer_rec hok hm)).2.2.2.2.2.2⟩
    have H0 := Lib.hid h0
    have H := Lib.hid h
    clear h0 hok h
    go_enter Tryd.func18, Tryd.ntmps18
    go_wp2_with fail
    refine HC.mono ?_
    rintro e w1 ⟨rfl, hb1⟩
    have hT1 := hT.below hb1 (Nat.le_refl _)
    have HA := arg1_any .fine x y w1 hT1
    unfold EK.val at HA
    go_wp2_with fail
    refine HA.mono ?_
    rintro e w3 ⟨rfl, hb3⟩
    have c3 := hb1.trans (hb3.mono hb1.size)
    have hcode : argFrom [.fine] 0 = 0 := rfl
    rw [hcode]
    clear hcode
    go_wp2_with fail
    have e4 : Below w3.heap.size w3 (w3.alloc (.cells #[.int .i64 (l.length : Int)] 3)) := (Below.refl _ _).alloc (Nat.le_refl _) _
    refine (bytesOf_any _ _ _ (ints1 w3 (l.length : Int)) (by simp)).mono ?_
    rintro e w5 ⟨B0, rfl, hB0, hs0, hb5⟩
    have c5 := c3.trans ((e4.trans (hb5.mono e4.size)).mono c3.size)
    obtain ⟨T0, HT0, ht0, kT0⟩ := glue_run ⟨#[76, 89, 82]⟩ B0 (by simp at hs0; show 3 + _ ≤ _; omega)
    have HH0 : Hid (T0.data.toList = headL l.length (l.take 0)) := by show _ = _; rw [HT0.out, hB0, head_zero]; rfl
    clear hB0 hs0 hb5 ht0 HT0 e4
    go_wp2_with fail
    go_loopw [5, 22] (fun t i wr => ∃ (k : Nat) (T : ByteArray), k ≤ l.length ∧ i = .int .i64 k ∧ t = .string T ∧ Hid (T.data.toList = headL l.length (l.take k)) ∧ Below w.heap.size w wr) (fun _ i _ => l.length - (intOf i).toNat)
    case atStart => exact ⟨0, T0, by omega, rfl, rfl, HH0.out, c5⟩
    case round =>
      clear kT0
      obtain ⟨k, T, hk, rfl, rfl, HT, hbw⟩ := hrel
      have hTs : T.size ≤ 1000 := by
        have h1 := head_le l.length HF.out k
        rw [size_of_list HT.out]
        omega
      by_cases hlt : k < l.length
      · obtain ⟨b, off, rfl, hb, hcell⟩ := H.out (by omega)
        obtain ⟨c0, c1, c2, c3, c4⟩ := (hcell k l[k] (by simp [hlt])).below hbw hb
        clear hcell
        have hi1 : (k : Int) < (l.length : Int) := by omega
        have hi0 : (0 : Int) ≤ (k : Int) := by omega
        obtain ⟨hp35, hb20⟩ := HF.out l[k] (List.getElem_mem hlt)
        have HN := Lib.hid (head_snoc l.length hlt)
        have HL := Lib.hid (encR_len l[k])
        have eA := hbw.alloc hbw.size (.cells #[.int .i64 l[k].k, .string l[k].p, .string l[k].b, .int .i64 l[k].m, .bool l[k].o] 27)
        go_wp2_with fail
        refine (encoded_any _ _ _ _ _ _ (by omega) (by omega)).mono ?_
        rintro e w6 ⟨B, rfl, hB, hb6⟩
        have hBs : B.size ≤ 60 := by rw [size_of_list hB]; show (encR l[k]).length ≤ 60; rw [HL.out]; omega
        have HB := Lib.hid hB
        have c6 := eA.trans (hb6.mono eA.size)
        clear hB hb6
        go_wp2_with fail
        refine (withSum_any B _ (by omega)).mono ?_
        rintro e w7 ⟨C, rfl, hC, hb7⟩
        have hCs : C.size ≤ 62 := by rw [size_of_list hC, withSum_len, ← Lib.size_eq]; omega
        obtain ⟨Q, HQ, hq, kQ⟩ := glue_run T C (by omega)
        have HR : Hid (Q.data.toList = headL l.length (l.take (k + 1))) := by show _ = _; rw [HN.out, HQ.out, HT.out, hC, HB.out]
        have c7 := c6.trans (hb7.mono c6.size)
        clear hC hb7 hq
        go_wp2_with fail
        exact ⟨⟨k + 1, Q, by omega, by go_num, rfl, HR, c7⟩, by simp [intOf]; omega⟩
      · have HE : Hid (T.data.toList = headL l.length l) := by show _ = _; rw [HT.out, List.take_of_length_le (by omega)]
        go_wp2_with fail
        refine (withSum_any T _ (by omega)).mono ?_
        rintro e w7 ⟨C, rfl, hC, hb7⟩
        have HC2 := Lib.hid hC
        clear hC
        go_wp2_with fail
        go_ret2
        exact ⟨C, by rw [H0.out]; rfl, by rw [el_ok H0.out, HC2.out, HE.out]; rfl, hbw.trans (hb7.mono hbw.size)⟩
  | long =>
    rw [hk] at HC
    unfold EK.val errV at HC
    have HE := Lib.hid (show codeL l = 2 by rw [← arg_l, hk]; rfl)
    go_enter Tryd.func18, Tryd.ntmps18
    go_wp2_with fail
    refine HC.mono ?_
    rintro e w1 ⟨rfl, hb1⟩
    have hT1 := hT.below hb1 (Nat.le_refl _)
    have HA := arg1_any .long x y w1 hT1
    unfold EK.val at HA
    unfold errV at HA
    go_wp2_with fail
    refine HA.mono ?_
    rintro e w3 ⟨rfl, hb3⟩
    have c3 := hb1.trans (hb3.mono hb1.size)
    have hcode : argFrom [.long] 0 = 2 := rfl
    rw [hcode]
    go_wp2_with fail
    go_ret2
    exact ⟨⟨#[]⟩, by rw [HE.out]; rfl, by rw [el_bad HE.out (by decide)], c3⟩
  | bad i c =>
    rw [hk] at HC
    unfold EK.val recV at HC
    have HE := Lib.hid (show codeL l = 1 by rw [← arg_l, hk]; rfl)
    go_enter Tryd.func18, Tryd.ntmps18
    go_wp2_with fail
    refine HC.mono ?_
    rintro e w1 ⟨rfl, hb1⟩
    have hT1 := hT.below hb1 (Nat.le_refl _)
    have HA := arg1_any (.bad i c) x y w1 hT1
    unfold EK.val at HA
    unfold recV at HA
    go_wp2_with fail
    refine HA.mono ?_
    rintro e w3 ⟨rfl, hb3⟩
    have c3 := hb1.trans (hb3.mono hb1.size)
    have hcode : argFrom [(.bad i c)] 0 = 1 := rfl
    rw [hcode]
    go_wp2_with fail
    go_ret2
    exact ⟨⟨#[]⟩, by rw [HE.out]; rfl, by rw [el_bad HE.out (by decide)], c3⟩
end Go.Proofs.YtciflchaepchiaaDoor.Recs

/- EncodeLayer, of the model. -/
namespace Go.Proofs.YtciflchaepchiaaDoor.Recs
set_option maxRecDepth 100000
open Go.RowKit Paths

set_option maxHeartbeats 3200000 in
theorem l09Layer_any (v : Value) (l : List R) (w : World) (h : RecSl w v l) (hok : layerOK l = true) :
    Calls Tryd.prog 36 #[v] w fun e w' => ∃ B : ByteArray, e = .returned (.string B) ∧ B.data.toList = encL l ∧ B.size ≤ 1000 ∧ Below w.heap.size w w' := by
  obtain ⟨A, cap, rfl, hcap, h⟩ := h
  have h16 := layer_len hok
  have HF : Hid (∀ r ∈ l, r.p.size ≤ 35 ∧ r.b.size ≤ 20 ∧ 0 ≤ r.m ∧ r.m ≤ 511) := fun r hm => ⟨(fault_enc (layer_rec hok hm)).2.2.2.2.2.1, (fault_enc (layer_rec hok hm)).2.2.2.2.2.2, (fault_enc (layer_rec hok hm)).2.2.1, (fault_enc (layer_rec hok hm)).2.2.2.1⟩
  have HF2 : Hid (∀ r ∈ l, r.p.size ≤ 35 ∧ r.b.size ≤ 20) := fun r hm => ⟨(HF.out r hm).1, (HF.out r hm).2.1⟩
  have HOK := Lib.hid hok
  have H := Lib.hid h
  obtain ⟨S0, HS0, hz0, kc0⟩ := conv1_run (l.length : Int)
  obtain ⟨T0, HT0, ht0, kT0⟩ := glue_run ⟨#[76, 89, 82]⟩ S0 (by show 3 + _ ≤ _; omega)
  have HH0 : Hid (T0.data.toList = headL l.length (l.take 0)) := by
    show _ = _
    rw [HT0.out, HS0.out, head_zero]
    have e : UInt8.ofNat ((l.length : Int)).toNat = byI (l.length : Int) := by unfold byI; congr 1; omega
    rw [e]
  have c0 : Below w.heap.size w (w.alloc (.cells #[.int .u8 (l.length : Int)] 5)) := (Below.refl _ _).alloc (Nat.le_refl _) _
  have hw1 : (0 : Int) ≤ (l.length : Int) := by omega
  have hw2 : (l.length : Int) ≤ 16 := by omega
  clear hok h ht0 HT0 HS0 hz0
  go_enter Tryd.func36, Tryd.ntmps36
  go_wp2_with fail
  go_loopw [3, 4] (fun t i wr => ∃ (k : Nat) (T : ByteArray), k ≤ l.length ∧ i = .int .i64 k ∧ t = .string T ∧ Hid (T.data.toList = headL l.length (l.take k)) ∧ Below w.heap.size w wr) (fun _ i _ => l.length - (intOf i).toNat)
  case atStart => exact ⟨0, T0, by omega, rfl, rfl, HH0.out, c0⟩
  case round =>
    clear kT0 kc0
    obtain ⟨k, T, hk, rfl, rfl, HT, hbw⟩ := hrel
    have hTs : T.size ≤ 996 := by
      have h1 := head_le l.length HF2.out k
      rw [size_of_list HT.out]
      omega
    by_cases hlt : k < l.length
    · obtain ⟨b, off, rfl, hb, hcell⟩ := H.out (by omega)
      obtain ⟨c0, c1, c2, c3, c4⟩ := (hcell k l[k] (by simp [hlt])).below hbw hb
      clear hcell
      have hi1 : (k : Int) < (l.length : Int) := by omega
      have hi0 : (0 : Int) ≤ (k : Int) := by omega
      obtain ⟨hp35, hb20, hm0, hm1⟩ := HF.out l[k] (List.getElem_mem hlt)
      have HN := Lib.hid (head_snoc l.length hlt)
      have HL := Lib.hid (encR_len l[k])
      go_wp2_with fail
      refine (l09Record_any _ _ _ _ _ _ (by omega) (by omega) hm0 (by omega)).mono ?_
      rintro e w6 ⟨B, rfl, hB, hb6⟩
      have hBs : B.size ≤ 60 := by rw [size_of_list hB]; show (encR l[k]).length ≤ 60; rw [HL.out]; omega
      have HB := Lib.hid hB
      have c6 := hbw.trans (hb6.mono hbw.size)
      have hsl := sum_lt B.data.toList
      have HSM := l09Sum_any B w6 (by unfold maxLen; omega)
      obtain ⟨sm, hsm⟩ : ∃ sm, sumL B.data.toList = sm := ⟨_, rfl⟩
      rw [hsm] at HSM hsl
      have HSS := Lib.hid hsm
      clear hB hb6 hsm
      go_wp2_with fail
      refine HSM.mono ?_
      rintro e w7 ⟨rfl, rfl⟩
      go_wp2_with fail
      refine (l09Two_any (sm : Int) _ (by omega) (by omega)).mono ?_
      rintro e w8 ⟨C, rfl, hC, hCs, hb8⟩
      obtain ⟨D, HD, hD, kD⟩ := glue_run B C (by omega)
      obtain ⟨Q, HQ, hq, kQ⟩ := glue_run T D (by omega)
      have HR : Hid (Q.data.toList = headL l.length (l.take (k + 1))) := by show _ = _; rw [HN.out, HQ.out, HT.out, HD.out, hC, ← HSS.out, HB.out]; rfl
      have c8 := c6.trans (hb8.mono c6.size)
      clear hC hb8 hq hD hCs
      go_wp2_with fail
      exact ⟨⟨k + 1, Q, by omega, by go_num, rfl, HR, c8⟩, by simp [intOf]; omega⟩
    · have HE : Hid (T.data.toList = headL l.length l) := by show _ = _; rw [HT.out, List.take_of_length_le (by omega)]
      have hsl := sum_lt T.data.toList
      have HSM := l09Sum_any T wr (by unfold maxLen; omega)
      obtain ⟨sm, hsm⟩ : ∃ sm, sumL T.data.toList = sm := ⟨_, rfl⟩
      rw [hsm] at HSM hsl
      have HSS := Lib.hid hsm
      clear hsm
      go_wp2_with fail
      refine HSM.mono ?_
      rintro e w7 ⟨rfl, rfl⟩
      go_wp2_with fail
      refine (l09Two_any (sm : Int) _ (by omega) (by omega)).mono ?_
      rintro e w8 ⟨C, rfl, hC, hCs, hb8⟩
      obtain ⟨D, HD, hD, kD⟩ := glue_run T C (by omega)
      have HR : Hid (D.data.toList = encL l) := by show _ = _; rw [HD.out, hC, ← HSS.out, HE.out]; rfl
      have hDs : D.size ≤ 1000 := by omega
      have c8 := hbw.trans (hb8.mono hbw.size)
      clear hC hb8 hD hCs
      go_wp2_with fail
      go_ret
      exact ⟨D, rfl, HR.out, hDs, c8⟩

theorem encodeLayer_spec (v : Value) (l : List R) (w : World) (h : RecSl w v l) (hl : l.length ≤ 1048576) :
    Calls Tryd.prog 16 #[v] w fun e w' => ∃ B : ByteArray, e = .returned (.tuple #[.string B, .int .i64 (codeL l)]) ∧ B.data.toList = elL l ∧ Below w.heap.size w w' := by
  have HC := l03OK_any v l _ h hl
  have HR := Lib.hid h
  obtain ⟨A, cap, rfl, hcap, h⟩ := h
  by_cases h4 : 4096 < l.length
  · have HE := Lib.hid (show codeL l = 2 from if_pos h4)
    have hd : decide ((4096 : Int) < (l.length : Int)) = true := by simp; omega
    go_enter Tryd.func16, Tryd.ntmps16
    go_wp2_with fail
    go_ret2
    exact ⟨⟨#[]⟩, by rw [HE.out]; rfl, by rw [el_bad HE.out (by decide)], Below.refl _ _⟩
  have hd4 : decide ((4096 : Int) < (l.length : Int)) = false := by simp; omega
  rcases Bool.eq_false_or_eq_true (layerOK l) with hk | hk
  case inr =>
    have HE := Lib.hid (show codeL l = 1 by unfold codeL; rw [if_neg h4, hk]; rfl)
    rw [hk] at HC
    go_enter Tryd.func16, Tryd.ntmps16
    go_wp2_with fail
    refine HC.mono ?_
    rintro e w1 ⟨rfl, hb1⟩
    go_wp2_with fail
    go_ret2
    exact ⟨⟨#[]⟩, by rw [HE.out]; rfl, by rw [el_bad HE.out (by decide)], hb1⟩
  have H0 := Lib.hid (show codeL l = 0 by unfold codeL; rw [if_neg h4, hk]; rfl)
  have HOK := Lib.hid hk
  rw [hk] at HC
  clear h hk
  go_enter Tryd.func16, Tryd.ntmps16
  go_wp2_with fail
  refine HC.mono ?_
  rintro e w1 ⟨rfl, hb1⟩
  go_wp2_with fail
  refine (l09Layer_any _ l _ (HR.out.below hb1) HOK.out).mono ?_
  rintro e w2 ⟨B, rfl, hB, _, hb2⟩
  have HB := Lib.hid hB
  clear hB
  go_wp2_with fail
  go_ret2
  exact ⟨B, by rw [H0.out]; rfl, by rw [el_ok H0.out]; exact HB.out, hb1.trans (hb2.mono hb1.size)⟩
end Go.Proofs.YtciflchaepchiaaDoor.Recs

/- For laws over lists of records: the laws' own sizes with their sums; blocks between two numbers; two equal rows of strings. -/
namespace Go.Proofs.YtciflchaepchiaaDoor.Recs
set_option maxRecDepth 100000
open Go.RowKit Paths

theorem szRecord_sum (k m : Int) (p b : ByteArray) (o : Bool) (n : Nat) (w : World) (hp : p.size ≤ maxLen) (hb : b.size ≤ maxLen) (hn : n ≤ 1048576) :
    Calls Tryd.prog 8 #[.agg #[.int .i64 k, .string p, .string b, .int .i64 m, .bool o], .int .i64 n] w fun e w' => (∃ z : Int, z < 0 ∧ e = .returned (.int .i64 z) ∧ Below w.heap.size w w') ∨ ∃ z : Nat, z ≤ n ∧ e = .returned (.int .i64 z) ∧ Below w.heap.size w w' := by
  unfold maxLen at hp hb
  have hbw : Below w.heap.size w (w.alloc (.cells #[.int .i64 k, .string p, .string b, .int .i64 m, .bool o] 23)) := (Below.refl _ _).alloc (Nat.le_refl _) _
  by_cases h1 : n < p.size
  · have hd : decide ((n : Int) - (p.size : Int) < 0) = true := by simp; omega
    go_enter Tryd.func8, Tryd.ntmps8
    go_wp2_with fail
    go_ret
    exact .inl ⟨_, by omega, rfl, hbw⟩
  have hd : decide ((n : Int) - (p.size : Int) < 0) = false := by simp; omega
  by_cases h2 : n < p.size + b.size
  · have hd2 : decide ((n : Int) - (p.size : Int) - (b.size : Int) < 0) = true := by simp; omega
    go_enter Tryd.func8, Tryd.ntmps8
    go_wp2_with fail
    go_ret
    exact .inl ⟨_, by omega, rfl, hbw⟩
  have hd2 : decide ((n : Int) - (p.size : Int) - (b.size : Int) < 0) = false := by simp; omega
  have he : ((n - p.size - b.size : Nat) : Int) = (n : Int) - (p.size : Int) - (b.size : Int) := by omega
  have HE := Lib.hid he
  clear he
  go_enter Tryd.func8, Tryd.ntmps8
  go_wp2_with fail
  go_ret
  exact .inr ⟨n - p.size - b.size, by omega, ret_int HE.out.symm, hbw⟩

set_option maxHeartbeats 800000 in
theorem szRecordS_sum (v : Value) (l : List R) (n : Nat) (w : World) (h : RecSl w v l) (hlm : l.length ≤ maxLen) (hs : ∀ r ∈ l, r.p.size ≤ maxLen ∧ r.b.size ≤ maxLen) (hn : n ≤ 1048576) :
    Calls Tryd.prog 15 #[v, .int .i64 n] w fun e w' => (∃ z : Int, z < 0 ∧ e = .returned (.int .i64 z) ∧ Below w.heap.size w w') ∨ ∃ z : Nat, z + l.length ≤ n ∧ e = .returned (.int .i64 z) ∧ Below w.heap.size w w' := by
  unfold maxLen at hlm
  obtain ⟨A, cap, rfl, hcap, h⟩ := h
  have H := Lib.hid h
  clear h
  by_cases h1 : n < l.length
  · have hd : decide ((n : Int) - (l.length : Int) < 0) = true := by simp; omega
    go_enter Tryd.func15, Tryd.ntmps15
    go_wp2_with fail
    go_ret
    exact .inl ⟨_, by omega, rfl, Below.refl _ _⟩
  have hd : decide ((n : Int) - (l.length : Int) < 0) = false := by simp; omega
  go_enter Tryd.func15, Tryd.ntmps15
  go_wp2
  go_loopw [1, 5] (fun m i wr => ∃ (j z : Nat), j ≤ l.length ∧ i = .int .i64 j ∧ m = .int .i64 z ∧ z + l.length ≤ n ∧ Below w.heap.size w wr) (fun _ i _ => l.length - (intOf i).toNat)
  case atStart => exact ⟨0, n - l.length, by omega, rfl, by go_num, by omega, Below.refl _ _⟩
  case round =>
    obtain ⟨j, z, hj, rfl, rfl, hz, hbw⟩ := hrel
    by_cases hlt : j < l.length
    · obtain ⟨b, off, rfl, hb, hcell⟩ := H.out (by omega)
      obtain ⟨c0, c1, c2, c3, c4⟩ := (hcell j l[j] (by simp [hlt])).below hbw hb
      obtain ⟨s1, s2⟩ := hs l[j] (List.getElem_mem hlt)
      clear hcell
      have hi1 : (j : Int) < (l.length : Int) := by omega
      have hi0 : (0 : Int) ≤ (j : Int) := by omega
      go_wp2_with fail
      refine (szRecord_sum _ _ _ _ _ z _ s1 s2 (by omega)).mono ?_
      rintro e w1 (⟨z1, hz1, rfl, hb1⟩ | ⟨z1, hz1, rfl, hb1⟩)
      · have hd1 : decide (z1 < 0) = true := by simpa using hz1
        go_wp2_with fail
        go_ret
        exact .inl ⟨_, by omega, rfl, hbw.trans (hb1.mono hbw.size)⟩
      · have hd1 : decide ((z1 : Int) < 0) = false := by simp
        go_wp2_with fail
        go_roundw
        case rel => exact ⟨j + 1, z1, by omega, by go_num, rfl, by omega, hbw.trans (hb1.mono hbw.size)⟩
        case measure => simp [intOf]; omega
    · obtain rfl : j = l.length := by omega
      go_wp2
      go_ret
      exact .inr ⟨z, hz, rfl, hbw⟩

/-- From w to w' nothing has turned but blocks from base on, below top; and new ones came. -/
structure Betw (base top : Nat) (w w' : World) : Prop where
  os : w'.os = w.os
  tape : w'.tape = w.tape
  output : w'.output = w.output
  size : w.heap.size ≤ w'.heap.size
  block : ∀ k, k < w.heap.size → (k < base ∨ top ≤ k) → w'.heap[k]? = w.heap[k]?
theorem Betw.refl (base top : Nat) (w : World) : Betw base top w w := ⟨rfl, rfl, rfl, Nat.le_refl _, fun _ _ _ => rfl⟩
theorem Betw.trans {base top : Nat} {a b c : World} (h : Betw base top a b) (k : Betw base top b c) : Betw base top a c :=
  ⟨k.os.trans h.os, k.tape.trans h.tape, k.output.trans h.output, Nat.le_trans h.size k.size, fun i hi hk => (k.block i (Nat.lt_of_lt_of_le hi h.size) hk).trans (h.block i hi hk)⟩
theorem Betw.below {base top B : Nat} {a w w' : World} (h : Below B a w) (hb : Betw base top w w') (hB : B ≤ base) (hB2 : B ≤ w.heap.size) : Below B a w' :=
  h.trans ⟨hb.os, hb.tape, hb.output, hb.size, fun k hk => hb.block k (by omega) (.inl (by omega))⟩
theorem Betw.own {base top : Nat} {w w' : World} (hb : Betw base top w w') {b : Nat} {e : TypeId} {s : Nat} {v : Value} {n : Nat} {xs : List Value} (h : w.ownsRow b e s v n xs) (hk : ∀ k, v.ownBlock = some k → k < base ∨ top ≤ k) : w'.ownsRow b e s v n xs := by
  obtain ⟨h1, h2⟩ := h
  refine ⟨h1, ?_⟩
  rcases h2 with h2 | ⟨g, cap, cur, rfl, b1, c, d⟩
  · exact .inl h2
  · exact .inr ⟨g, cap, cur, rfl, b1, by rw [hb.block g (Array.getElem?_eq_some_iff.1 c).1 (hk g rfl)]; exact c, d⟩
end Go.Proofs.YtciflchaepchiaaDoor.Recs
