/- Several texts of mine in one file (each begins with its own remark). -/
import Derived.Test.YtjiljnfiofmpaaaGreatDoorBun14
import Derived.Test.YtjiljnfiofmpaaaGreatDoorBun2
import Derived.Test.YtjiljnfiofmpaaaGreatDoorBun12
import Derived.Test.YtjiljnfiofmpaaaGreatDoorBun13
import Derived.Test.YtjiljnfiofmpaaaGreatDoorBun15
import Derived.Test.YtjiljnfiofmpaaaGreatDoorBun10
import Derived.Test.YtjiljnfiofmpaaaGreatDoorBun8
import Derived.Test.YtjiljnfiofmpaaaGreatDoorBun1
/- Trees: resolving a path, of the model; the code of a call's arguments, of the model. -/

namespace Go.Proofs.YtjiljnfiofmpaaaGreatDoor.Recs
set_option maxRecDepth 100000
open Go.RowKit Paths

/-- What resolving has before the i-th part. -/
def preP (q : ByteArray) (i : Nat) : ByteArray := if i = 0 then ⟨#[]⟩ else pre q (i - 1)
theorem preP_zero (q : ByteArray) : preP q 0 = ⟨#[]⟩ := rfl
theorem preP_succ (q : ByteArray) (i : Nat) : preP q (i + 1) = pre q i := rfl
theorem pre_zero {q : ByteArray} (h : 0 < (cutAt 47 q.data.toList).length) : pre q 0 = ⟨((cutAt 47 q.data.toList)[0]).toArray⟩ := by
  apply bytes_ext2
  rw [pre_data]
  match cutAt 47 q.data.toList, h with
  | x :: t, _ => simp [Lib.join]
where bytes_ext2 {a b : ByteArray} (h : a.data.toList = b.data.toList) : a = b := ByteArray.ext (Array.toList_inj.1 h)
theorem pre_succ {q : ByteArray} {i : Nat} (h : i + 1 < (cutAt 47 q.data.toList).length) : (pre q i).data.toList ++ 47 :: (cutAt 47 q.data.toList)[i + 1] = (pre q (i + 1)).data.toList := by
  rw [pre_data, pre_data, List.take_add_one (i := i + 1), List.getElem?_eq_getElem h]
  simp only [Option.toList]
  rw [join_snoc]
  intro e
  have := congrArg List.length e
  rw [List.length_take, List.length_nil] at this
  omega
theorem pre_size {q : ByteArray} (h : pathB q.data.toList = true) (i : Nat) : 0 < (pre q i).size ∧ (pre q i).size ≤ 35 := by
  have h1 := pre_path h i
  constructor
  · rw [Lib.size_eq]
    have := pathB_ne h1
    exact List.length_pos_iff.2 this
  · rw [Lib.size_eq]
    exact pathB_len h1

/-- One part more, joined on. -/
theorem join_step (q : ByteArray) (hq : pathB q.data.toList = true) (i : Nat) (hi : i < (cutAt 47 q.data.toList).length) (w : World) :
    Calls Tryz.prog 134 #[.string (preP q i), .string ⟨((cutAt 47 q.data.toList)[i]).toArray⟩] w fun e w' => e = .returned (.string (pre q i)) ∧ w = w' := by
  match i, hi with
  | 0, hi =>
    rw [preP_zero]
    refine (l01Join_root _ _ w rfl).mono ?_
    rintro e w1 ⟨rfl, rfl⟩
    exact ⟨by rw [pre_zero hi]; rfl, rfl⟩
  | i + 1, hi =>
    rw [preP_succ]
    obtain ⟨h1, h2⟩ := pre_size hq i
    have hp := (pathB_parts hq).2
    have h3 := List.all_eq_true.1 hp _ (List.getElem_mem hi)
    have h4 : (⟨((cutAt 47 q.data.toList)[i + 1]).toArray⟩ : ByteArray).size ≤ 8 := by
      rw [Lib.size_eq]
      exact (partB_len h3).2
    refine (l01Join_deep _ _ w h1 (by omega) (by omega)).mono ?_
    rintro e w1 ⟨rfl, rfl⟩
    refine ⟨?_, rfl⟩
    unfold strV
    rw [show (⟨((cutAt 47 q.data.toList)[i + 1]).toArray⟩ : ByteArray).data.toList = (cutAt 47 q.data.toList)[i + 1] from rfl, pre_succ hi]

def foundV (t : List R) (q : ByteArray) : Value := .tuple #[(findT t q).1.nod, .int .i64 (findT t q).2]
theorem findFrom_none {t : List R} {q : ByteArray} {i : Nat} (hi : i < nparts q) (h : atL t (pre q i) = -1) : findFrom t q i = (⟨0, 0, ByteArray.empty, ByteArray.empty, false⟩, 5) := by
  rw [findFrom, if_pos hi, if_pos (by rw [h]; decide)]
theorem findFrom_last {t : List R} {q : ByteArray} {i k : Nat} (hi : i + 1 = nparts q) (hk : k < t.length) (h : atL t (pre q i) = (k : Int)) : findFrom t q i = (t[k], 0) := by
  rw [findFrom, if_pos (by omega), if_neg (by omega), if_pos hi, h, Int.toNat_natCast, List.getElem?_eq_getElem hk]
  rfl
theorem findFrom_way {t : List R} {q : ByteArray} {i k : Nat} (hi : i + 1 < nparts q) (hk : k < t.length) (h : atL t (pre q i) = (k : Int)) (h3 : t[k].k ≠ 3) : findFrom t q i = (⟨0, 0, ByteArray.empty, ByteArray.empty, false⟩, 13) := by
  rw [findFrom, if_pos (by omega), if_neg (by omega), if_neg (by omega), h, Int.toNat_natCast, List.getElem?_eq_getElem hk, if_pos (by simpa using h3)]
theorem findFrom_on {t : List R} {q : ByteArray} {i k : Nat} (hi : i + 1 < nparts q) (hk : k < t.length) (h : atL t (pre q i) = (k : Int)) (h3 : t[k].k = 3) : findFrom t q i = findFrom t q (i + 1) := by
  rw [findFrom, if_pos (by omega), if_neg (by omega), if_neg (by omega), h, Int.toNat_natCast, List.getElem?_eq_getElem hk, if_neg (by simpa using h3)]

set_option maxHeartbeats 1600000 in
theorem l04Find_any (v : Value) (l : List R) (q : ByteArray) (w : World) (h : NodSl w v l) (hl : l.length ≤ 1048576) (ht : IsTree l) (hq : pathB q.data.toList = true) :
    Calls Tryz.prog 69 #[v, .string q] w fun e w' => e = .returned (foundV l q) ∧ Below w.heap.size w w' := by
  have hb0 : Below w.heap.size w (w.alloc (.cells #[.int .i64 0, .string ByteArray.empty, .string ByteArray.empty, .int .i64 0] 29)) := (Below.refl _ _).alloc (Nat.le_refl _) _
  have hsz : q.size ≤ 35 := by rw [Lib.size_eq]; exact pathB_len hq
  have hsl := h
  obtain ⟨ho, sA, cap, rfl, hcap, h⟩ := h
  have H := Lib.hid h
  have HSl := Lib.hid hsl
  have HF0 : Hid (findT l q = findFrom l q 0) := (find_is ht hq).symm
  have HN : Hid (nparts q = (cutAt 47 q.data.toList).length) := rfl
  have h4 := (pathB_parts hq).1
  clear h hsl ht
  go_enter Tryz.func69, Tryz.ntmps69
  go_wp2_with fail
  refine (l00Cut_any q 47 47 rfl _ (by omega)).mono ?_
  rintro e w1 ⟨v1, rfl, hb1, hown⟩
  have hv := part_sl hown
  obtain ⟨pA, pc, rfl, hpc, hpv⟩ := hv
  have HP : Hid (0 < (cutAt 47 q.data.toList).length → ∃ g, pA = some ⟨g, 0, none⟩ ∧ ∀ i x, (cutAt 47 q.data.toList)[i]? = some x → w1.cell? ⟨g, i, none⟩ = some (strV x)) := fun h0 => by
    obtain ⟨g, e, _, hc⟩ := hpv h0
    exact ⟨g, e, fun i x hx => by obtain ⟨hi, rfl⟩ := List.getElem?_eq_some_iff.1 hx; exact hc i hi⟩
  have c1 := hb0.trans (hb1.mono hb0.size)
  have hz1 : w.heap.size < w1.heap.size := by have := hb1.size; simp at this; omega
  have hc1 := fun o => (bcell hb1).1 w.heap.size o (by simp)
  have hf1 := fun o => (bcell hb1).2 w.heap.size o (by simp)
  clear hpv hown
  generalize hL : (cutAt 47 q.data.toList).length = L at *
  go_wp2
  go_loop [7, 8] (fun p i => ∃ k : Nat, k ≤ L ∧ i = .int .i64 k ∧ p = .string (preP q k) ∧ Hid (findT l q = findFrom l q k)) (fun _ i => L - (intOf i).toNat)
  case atStart => exact ⟨0, by omega, rfl, rfl, HF0⟩
  case round =>
    obtain ⟨k, hk, rfl, rfl, HK⟩ := hrel
    have hnl := HN.out
    by_cases hlt : k < L
    · obtain ⟨g, rfl, hcell⟩ := HP.out (by omega)
      have e1 := hcell k _ (List.getElem?_eq_getElem (by omega))
      have HJ := join_step q hq k (by omega) w1
      unfold strV at e1
      have hi1 : (k : Int) < (L : Int) := by omega
      have hi0 : (0 : Int) ≤ (k : Int) := by omega
      clear hcell
      go_wp2_with fail
      refine HJ.mono ?_
      rintro e w2 ⟨rfl, rfl⟩
      go_wp2_with fail
      refine (l04At_any _ l _ _ (HSl.out.below c1) hl).mono ?_
      rintro e w3 ⟨rfl, rfl⟩
      rcases atL_cases l (pre q k) with ⟨ha, -⟩ | ⟨j, hj, ha, -⟩
      · have HE := Lib.hid (HK.out.trans (findFrom_none (by omega) ha))
        rw [ha]
        go_wp2_with fail
        refine bodyPost_ret (v := .tuple #[.agg #[.int .i64 0, .string ⟨#[]⟩, .string ⟨#[]⟩, .int .i64 0], .int .i64 5]) (by simp [results, Tryz.results69, go_sem, hc1]) rfl ⟨by unfold foundV; rw [HE.out]; rfl, ?_⟩
        repeat (refine Below.setCell ?_ (by simp) _)
        exact c1
      · obtain ⟨b, off, rfl, hb, hcl⟩ := H.out (by omega)
        obtain ⟨f0, f1, f2, f3⟩ := (hcl j l[j] (by simp [hj])).below c1 hb
        have j1 : (0 : Int) ≤ (j : Int) := by omega
        have j2 : (j : Int) < (l.length : Int) := by omega
        have j3 : decide ((j : Int) < 0) = false := by simp
        rw [ha]
        clear hcl
        by_cases hla : k + 1 = L
        · have HE := Lib.hid (HK.out.trans (findFrom_last (by omega) hj ha))
          have hd : ((k : Int) == (L : Int) - 1) = true := by simp; omega
          clear ha
          go_wp2_with fail
          refine bodyPost_ret (v := .tuple #[.agg #[.int .i64 l[j].k, .string l[j].p, .string l[j].b, .int .i64 l[j].m], .int .i64 0]) (by simp [results, Tryz.results69, go_sem, hc1]) rfl ⟨by unfold foundV; rw [HE.out]; rfl, ?_⟩
          repeat (refine Below.setCell ?_ (by simp) _)
          exact c1
        · have hd : ((k : Int) == (L : Int) - 1) = false := by simp; omega
          by_cases h3 : l[j].k = 3
          · have HE := Lib.hid (HK.out.trans (findFrom_on (by omega) hj ha h3))
            have hd3 : (l[j].k != 3) = false := by simpa using h3
            clear ha h3
            go_wp2_with fail
            exact ⟨⟨k + 1, by omega, by go_num, rfl, HE⟩, by simp [intOf]; omega⟩
          · have HE := Lib.hid (HK.out.trans (findFrom_way (by omega) hj ha h3))
            have hd3 : (l[j].k != 3) = true := by simpa using h3
            clear ha h3
            go_wp2_with fail
            refine bodyPost_ret (v := .tuple #[.agg #[.int .i64 0, .string ⟨#[]⟩, .string ⟨#[]⟩, .int .i64 0], .int .i64 13]) (by simp [results, Tryz.results69, go_sem, hc1]) rfl ⟨by unfold foundV; rw [HE.out]; rfl, ?_⟩
            repeat (refine Below.setCell ?_ (by simp) _)
            exact c1
    · have hpos := nparts_pos q
      have HE : Hid (findT l q = (⟨0, 0, ByteArray.empty, ByteArray.empty, false⟩, 5)) := by show _ = _; rw [HK.out, findFrom, if_neg (by omega)]
      have hi1 : ¬ ((k : Int) < (L : Int)) := by omega
      go_wp2_with fail
      refine bodyPost_ret (v := .tuple #[.agg #[.int .i64 0, .string ⟨#[]⟩, .string ⟨#[]⟩, .int .i64 0], .int .i64 5]) (by simp [results, Tryz.results69, go_sem, hc1]) rfl ⟨by unfold foundV; rw [HE.out]; rfl, ?_⟩
      repeat (refine Below.setCell ?_ (by simp) _)
      exact c1
end Go.Proofs.YtjiljnfiofmpaaaGreatDoor.Recs

/- Trees: TreeOK and SameTree, of the program and of its model. Conditions (of the program's): the table of kinds, the two sentinels. -/

namespace Go.Proofs.YtjiljnfiofmpaaaGreatDoor.Recs
set_option maxRecDepth 100000
open Go.RowKit Paths Errs

theorem tree_long {l : List R} (h : 4096 < l.length) : treeOK l = false := by
  unfold treeOK
  rw [decide_eq_false (by omega)]
  rfl
def sameT (A B : List R) : Bool := treeOK A && (treeOK B && decide (A = B))

set_option maxHeartbeats 1600000 in
theorem equalN_any (v1 v2 : Value) (A B : List R) (w : World) (h1 : NodSl w v1 A) (h2 : NodSl w v2 B) (hl : A.length ≤ 1048576) :
    Calls Tryz.prog 92 #[v1, v2] w fun e w' => e = .returned (.bool (decide (A = B))) ∧ ∃ n, w' = w.drewN n := by
  obtain ⟨ho1, a1, cap1, rfl, hcap1, h1⟩ := h1
  obtain ⟨ho2, a2, cap2, rfl, hcap2, h2⟩ := h2
  by_cases hL : A.length = B.length
  · have hne : ((A.length : Int) != (B.length : Int)) = false := by simp [hL]
    have HL := Lib.hid hL
    have H1 := Lib.hid h1
    have H2 := Lib.hid h2
    clear hL h1 h2
    go_enter Tryz.func92, Tryz.ntmps92
    go_wp2
    go_loopw [13] (fun i wr => ∃ k n : Nat, k ≤ A.length ∧ i = .int .i64 k ∧ wr = w.drewN n ∧ Hid (A.take k = B.take k)) (fun i _ => A.length - (intOf i).toNat)
    case atStart => exact ⟨0, 0, by omega, rfl, rfl, rfl⟩
    case round =>
      obtain ⟨k, n, hk, rfl, rfl, HK⟩ := hrel
      by_cases hlt : k < A.length
      · obtain ⟨b1, o1, rfl, hb1, hcell1⟩ := H1.out (by omega)
        have hL2 := HL.out
        have hlt2 : k < B.length := by omega
        obtain ⟨b2, o2, rfl, hb2, hcell2⟩ := H2.out (by omega)
        obtain ⟨c0, c1, c2, c3⟩ := hcell1 k A[k] (by simp [hlt])
        obtain ⟨d0, d1, d2, d3⟩ := hcell2 k B[k] (by simp [hlt2])
        clear hcell1 hcell2 hL2 H1 H2
        have hi1 : (k : Int) < (A.length : Int) := by omega
        have hi2 : (k : Int) < (B.length : Int) := by omega
        have hi0 : (0 : Int) ≤ (k : Int) := by omega
        have f4 : (A[k].o == B[k].o) = true := by rw [ho1 A[k] (List.getElem_mem hlt), ho2 B[k] (List.getElem_mem hlt2)]; rfl
        rcases four A[k] B[k] with f0 | ⟨f0, f1⟩ | ⟨f0, f1, f2⟩ | ⟨f0, f1, f2, f3⟩ | ⟨f0, f1, f2, f3⟩
        · have HF := ne_at hlt hlt2 (fun e => by rw [e] at f0; simp at f0)
          go_wp2
          go_quiet (fail)
          go_wp2
          go_ret
          exact ⟨ret_bool (by simp [HF.out]), n + nq, World.drewN_drewN _ _ _⟩
        · have HF := ne_at hlt hlt2 (fun e => by rw [e] at f1; simp at f1)
          go_wp2
          go_quiet (fail)
          go_wp2
          go_ret
          exact ⟨ret_bool (by simp [HF.out]), n + nq, World.drewN_drewN _ _ _⟩
        · have HF := ne_at hlt hlt2 (fun e => by rw [e] at f2; simp at f2)
          go_wp2
          go_quiet (fail)
          go_wp2
          go_ret
          exact ⟨ret_bool (by simp [HF.out]), n + nq, World.drewN_drewN _ _ _⟩
        · have HF := ne_at hlt hlt2 (fun e => by rw [e] at f3; simp at f3)
          go_wp2
          go_quiet (fail)
          go_wp2
          go_ret
          exact ⟨ret_bool (by simp [HF.out]), n + nq, World.drewN_drewN _ _ _⟩
        · have HT := Lib.hid (take_snoc_eq hlt hlt2 HK.out (rec_eq f0 f1 f2 f3 f4))
          go_wp2
          go_quiet (fail)
          go_wp2
          exact ⟨⟨k + 1, _, by omega, by go_num, rfl, HT⟩, by simp [intOf]; omega⟩
      · have HE : Hid (A = B) := by
          have hL2 := HL.out
          have := HK.out
          rw [List.take_of_length_le (by omega), List.take_of_length_le (by omega)] at this
          exact this
        go_wp2
        go_ret
        exact ⟨ret_bool (by simp [HE.out]), _, rfl⟩
  · have hne : ((A.length : Int) != (B.length : Int)) = true := by simp; omega
    have HE : Hid (¬ A = B) := fun e => hL (by rw [e])
    clear hL
    go_enter Tryz.func92, Tryz.ntmps92
    go_wp2
    go_ret
    exact ⟨ret_bool (by simp [HE.out]), 0, rfl⟩

set_option maxHeartbeats 800000 in
theorem sameTree_impl (v1 v2 : Value) (A B : List R) (x y : Addr) (w : World) (h1 : NodSl w v1 A) (h2 : NodSl w v2 B) (hl1 : A.length ≤ 1048576) (hl2 : B.length ≤ 1048576)
    (hr1 : ∀ r ∈ A, r.p.size ≤ maxLen) (hr2 : ∀ r ∈ B, r.p.size ≤ maxLen) (hT : Three w x y) :
    Calls Tryz.prog 30 #[v1, v2] w fun e w' => e = .returned (.bool (sameT A B)) ∧ Below w.heap.size w w' := by
  have HA := treeOK_impl v1 A x y w h1 hl1 hr1 hT
  have HB : ∀ w', Below w.heap.size w w' → Calls Tryz.prog 15 #[v2] w' fun e w'' => e = .returned (.bool (treeOK B)) ∧ Below w'.heap.size w' w'' := fun w' hb =>
    treeOK_impl v2 B x y w' (h2.below hb) hl2 hr2 (hT.below hb (Nat.le_refl _))
  have HE : ∀ w', Below w.heap.size w w' → Calls Tryz.prog 92 #[v1, v2] w' fun e w'' => e = .returned (.bool (decide (A = B))) ∧ ∃ n, w'' = w'.drewN n := fun w' hb => equalN_any v1 v2 A B w' (h1.below hb) (h2.below hb) hl1
  have HBh := Lib.hid HB
  have HEh := Lib.hid HE
  clear HB HE
  rcases Bool.eq_false_or_eq_true (treeOK A) with ha | ha
  case inr =>
    have HF : Hid (sameT A B = false) := by show _ = _; unfold sameT; rw [ha]; rfl
    rw [ha] at HA
    go_enter Tryz.func30, Tryz.ntmps30
    go_wp2_with fail
    refine HA.mono ?_
    rintro e w1 ⟨rfl, hb1⟩
    go_wp2_with fail
    go_ret
    exact ⟨ret_bool HF.out.symm, hb1⟩
  rw [ha] at HA
  rcases Bool.eq_false_or_eq_true (treeOK B) with hb | hb
  case inr =>
    have HF : Hid (sameT A B = false) := by show _ = _; unfold sameT; rw [ha, hb]; rfl
    rw [hb] at HBh
    go_enter Tryz.func30, Tryz.ntmps30
    go_wp2_with fail
    refine HA.mono ?_
    rintro e w1 ⟨rfl, hb1⟩
    go_wp2_with fail
    refine (HBh.out _ hb1).mono ?_
    rintro e w2 ⟨rfl, hb2⟩
    go_wp2_with fail
    go_ret
    exact ⟨ret_bool HF.out.symm, hb1.trans (hb2.mono hb1.size)⟩
  have HF : Hid (sameT A B = decide (A = B)) := by show _ = _; unfold sameT; rw [ha, hb]; rfl
  rw [hb] at HBh
  go_enter Tryz.func30, Tryz.ntmps30
  go_wp2_with fail
  refine HA.mono ?_
  rintro e w1 ⟨rfl, hb1⟩
  go_wp2_with fail
  refine (HBh.out _ hb1).mono ?_
  rintro e w2 ⟨rfl, hb2⟩
  have c2 := hb1.trans (hb2.mono hb1.size)
  go_wp2_with fail
  refine (HEh.out _ c2).mono ?_
  rintro e w3 ⟨rfl, n3, rfl⟩
  go_wp2_with fail
  go_ret
  exact ⟨ret_bool HF.out.symm, below_drewN c2 n3⟩

end Go.Proofs.YtjiljnfiofmpaaaGreatDoor.Recs

/- Trees: FindNode, of the program and of its model. Conditions (of the program's): the table of kinds, the two sentinels. -/

namespace Go.Proofs.YtjiljnfiofmpaaaGreatDoor.Recs
set_option maxRecDepth 100000
open Go.RowKit Paths Errs

/-- The code of a call's arguments, of the model. -/
theorem l04Ask_any (v : Value) (l : List R) (q : ByteArray) (w : World) (h : NodSl w v l) (hl : l.length ≤ 1048576) :
    Calls Tryz.prog 77 #[v, .string q] w fun e w' => e = .returned (.int .i64 (codeTT l q)) ∧ Below w.heap.size w w' := by
  have HC := l04OK_any v l w h hl
  obtain ⟨_, sA, cap, rfl, hcap, _⟩ := h
  by_cases h4 : 4096 < l.length
  · have HE : Hid (codeTT l q = 2) := by show _ = _; unfold codeTT; rw [if_pos (.inl h4)]
    have hd : decide ((4096 : Int) < (l.length : Int)) = true := by simp; omega
    go_enter Tryz.func77, Tryz.ntmps77
    go_wp2_with fail
    go_ret
    exact ⟨ret_int HE.out.symm, Below.refl _ _⟩
  have hd4 : decide ((4096 : Int) < (l.length : Int)) = false := by simp; omega
  by_cases h5 : 65536 < q.size
  · have HE : Hid (codeTT l q = 2) := by show _ = _; unfold codeTT; rw [if_pos (.inr h5)]
    have hd : decide ((65536 : Int) < (q.size : Int)) = true := by simp; omega
    go_enter Tryz.func77, Tryz.ntmps77
    go_wp2_with fail
    go_ret
    exact ⟨ret_int HE.out.symm, Below.refl _ _⟩
  have hd5 : decide ((65536 : Int) < (q.size : Int)) = false := by simp; omega
  have HL : Hid (codeTT l q = if treeOK l then 0 else 1) := by show _ = _; unfold codeTT; rw [if_neg (by omega)]
  cases hk : treeOK l with
  | true =>
    rw [hk] at HL HC
    go_enter Tryz.func77, Tryz.ntmps77
    go_wp2_with fail
    refine HC.mono ?_
    rintro e w1 ⟨rfl, hb1⟩
    go_wp2_with fail
    go_ret
    exact ⟨ret_int HL.out.symm, hb1⟩
  | false =>
    rw [hk] at HL HC
    go_enter Tryz.func77, Tryz.ntmps77
    go_wp2_with fail
    refine HC.mono ?_
    rintro e w1 ⟨rfl, hb1⟩
    go_wp2_with fail
    go_ret
    exact ⟨ret_int HL.out.symm, hb1⟩
theorem code_tree {l : List R} {q : ByteArray} (h : codeTT l q = 0) : Tree l := by
  unfold codeTT at h
  split at h
  · omega
  · split at h
    · exact tree_of (by assumption)
    · omega
theorem code_cases (l : List R) (q : ByteArray) : codeTT l q = 0 ∨ codeTT l q = 1 ∨ codeTT l q = 2 := by
  unfold codeTT
  split
  · exact .inr (.inr rfl)
  · split
    · exact .inl rfl
    · exact .inr (.inl rfl)

def nodF (l : List R) (q : ByteArray) : R × Int := if codeTT l q ≠ 0 then (zN, codeTT l q) else if pathB q.data.toList then findT l q else (zN, 10)
def nodV (l : List R) (q : ByteArray) : Value := .tuple #[(nodF l q).1.nod, .int .i64 (nodF l q).2]
theorem nod_code {l : List R} {q : ByteArray} {c : Int} (hc : codeTT l q = c) (h : c ≠ 0) : nodV l q = .tuple #[.agg #[.int .i64 0, .string ⟨#[]⟩, .string ⟨#[]⟩, .int .i64 0], .int .i64 c] := by
  unfold nodV nodF; rw [hc, if_pos h]; rfl
theorem nod_name {l : List R} {q : ByteArray} (hc : codeTT l q = 0) (h : pathB q.data.toList = false) : nodV l q = .tuple #[.agg #[.int .i64 0, .string ⟨#[]⟩, .string ⟨#[]⟩, .int .i64 0], .int .i64 10] := by
  unfold nodV nodF; rw [if_neg (by simpa using hc), h]; rfl
theorem nod_find {l : List R} {q : ByteArray} (hc : codeTT l q = 0) (h : pathB q.data.toList = true) : nodV l q = foundV l q := by
  unfold nodV nodF; rw [if_neg (by simpa using hc), h]; rfl
theorem found_here {l : List R} {q : ByteArray} {r : R} (h : recAt l q = some r) : foundV l q = .tuple #[.agg #[.int .i64 r.k, .string r.p, .string r.b, .int .i64 r.m], .int .i64 0] ∧ (findT l q).2 = 0 := by
  unfold foundV findT; rw [h]; exact ⟨rfl, rfl⟩
theorem found_not {l : List R} {q : ByteArray} (h : recAt l q = none) : foundV l q = .tuple #[.agg #[.int .i64 0, .string ⟨#[]⟩, .string ⟨#[]⟩, .int .i64 0], .int .i64 (findT l q).2] ∧ (findT l q).2 ≠ 0 := by
  unfold foundV findT
  rw [h]
  refine ⟨rfl, ?_⟩
  show (if blocked l q = true then (13 : Int) else 5) ≠ 0
  split <;> decide

set_option maxHeartbeats 800000 in
theorem findNode_spec (v : Value) (l : List R) (q : ByteArray) (w : World) (h : NodSl w v l) (hl : l.length ≤ 1048576) :
    Calls Tryz.prog 20 #[v, .string q] w fun e w' => e = .returned (nodV l q) ∧ Below w.heap.size w w' := by
  have hb0 : Below w.heap.size w (w.alloc (.cells #[.int .i64 0, .string ByteArray.empty, .string ByteArray.empty, .int .i64 0] 29)) := (Below.refl _ _).alloc (Nat.le_refl _) _
  have HC := l04Ask_any v l q _ (h.below hb0) hl
  have hsl := h
  obtain ⟨_, sA, cap, rfl, hcap, _⟩ := h
  by_cases h4 : 4096 < l.length
  · have HE := Lib.hid (nod_code (l := l) (q := q) (c := 2) (by unfold codeTT; rw [if_pos (.inl h4)]) (by decide))
    have hd : decide ((4096 : Int) < (l.length : Int)) = true := by simp; omega
    go_enter Tryz.func20, Tryz.ntmps20
    go_wp2_with fail
    refine bodyPost_ret (v := .tuple #[.agg #[.int .i64 0, .string ⟨#[]⟩, .string ⟨#[]⟩, .int .i64 0], .int .i64 2]) (by simp [results, Tryz.results20, go_sem]) rfl ⟨by rw [HE.out], hb0⟩
  have hd4 : decide ((4096 : Int) < (l.length : Int)) = false := by simp; omega
  by_cases h5 : 65536 < q.size
  · have HE := Lib.hid (nod_code (l := l) (q := q) (c := 2) (by unfold codeTT; rw [if_pos (.inr h5)]) (by decide))
    have hd : decide ((65536 : Int) < (q.size : Int)) = true := by simp; omega
    go_enter Tryz.func20, Tryz.ntmps20
    go_wp2_with fail
    refine bodyPost_ret (v := .tuple #[.agg #[.int .i64 0, .string ⟨#[]⟩, .string ⟨#[]⟩, .int .i64 0], .int .i64 2]) (by simp [results, Tryz.results20, go_sem]) rfl ⟨by rw [HE.out], hb0⟩
  have hd5 : decide ((65536 : Int) < (q.size : Int)) = false := by simp; omega
  go_enter Tryz.func20, Tryz.ntmps20
  go_wp2_with fail
  refine HC.mono ?_
  rintro e w1 ⟨rfl, hb1⟩
  have c1 := hb0.trans (hb1.mono hb0.size)
  have hc1 := fun o => (bcell hb1).1 w.heap.size o (by simp)
  have hf1 := fun o => (bcell hb1).2 w.heap.size o (by simp)
  have hz1 : w.heap.size < w1.heap.size := by have := hb1.size; simp at this; omega
  by_cases h0 : codeTT l q = 0
  case neg =>
    have HE := Lib.hid (nod_code (l := l) (q := q) rfl h0)
    have hd : (codeTT l q != 0) = true := by simpa using h0
    generalize codeTT l q = c at *
    clear h0
    go_wp2_with fail
    refine bodyPost_ret (v := .tuple #[.agg #[.int .i64 0, .string ⟨#[]⟩, .string ⟨#[]⟩, .int .i64 0], .int .i64 c]) (by simp [results, Tryz.results20, go_sem, hc1]) rfl ⟨by rw [HE.out], ?_⟩
    repeat (refine Below.setCell ?_ (by simp) _)
    exact c1
  have HP := l01OK_any q w1
  have HT := Lib.hid (code_tree h0)
  have H0 := Lib.hid h0
  rw [h0]
  clear h0
  cases hp : pathB q.data.toList with
  | false =>
    have HE := Lib.hid (nod_name H0.out hp)
    rw [hp] at HP
    go_wp2_with fail
    refine HP.mono ?_
    rintro e w2 ⟨rfl, hb2⟩
    have c2 := c1.trans (hb2.mono c1.size)
    have hc2 := fun o => ((bcell hb2).1 w.heap.size o hz1).trans (hc1 o)
    have hf2 := fun o => ((bcell hb2).2 w.heap.size o hz1).trans (hf1 o)
    clear hc1 hf1
    go_wp2_with fail
    refine bodyPost_ret (v := .tuple #[.agg #[.int .i64 0, .string ⟨#[]⟩, .string ⟨#[]⟩, .int .i64 0], .int .i64 10]) (by simp [results, Tryz.results20, go_sem, hc2]) rfl ⟨by rw [HE.out], ?_⟩
    repeat (refine Below.setCell ?_ (by simp) _)
    exact c2
  | true =>
    have HE := Lib.hid (nod_find H0.out hp)
    rw [hp] at HP
    go_wp2_with fail
    refine HP.mono ?_
    rintro e w2 ⟨rfl, hb2⟩
    have c2 := c1.trans (hb2.mono c1.size)
    have hz2 := Nat.lt_of_lt_of_le hz1 hb2.size
    have hc2 := fun o => ((bcell hb2).1 w.heap.size o hz1).trans (hc1 o)
    have hf2 := fun o => ((bcell hb2).2 w.heap.size o hz1).trans (hf1 o)
    clear hc1 hf1
    have HFI := l04Find_any _ l q w2 (hsl.below c2) hl HT.out.is hp
    unfold foundV R.nod at HFI
    go_wp2_with fail
    refine HFI.mono ?_
    rintro e w3 ⟨rfl, hb3⟩
    have c3 := c2.trans (hb3.mono c2.size)
    have hc3 := fun o => ((bcell hb3).1 w.heap.size o hz2).trans (hc2 o)
    have hf3 := fun o => ((bcell hb3).2 w.heap.size o hz2).trans (hf2 o)
    clear hc2 hf2
    generalize hF : findT l q = F at *
    go_wp2_with fail
    refine bodyPost_ret (v := .tuple #[.agg #[.int .i64 F.1.k, .string F.1.p, .string F.1.b, .int .i64 F.1.m], .int .i64 F.2]) (by simp [results, Tryz.results20, go_sem, hc3]) rfl ⟨by rw [HE.out]; unfold foundV; rw [hF]; rfl, ?_⟩
    repeat (refine Below.setCell ?_ (by simp) _)
    exact c3

set_option maxHeartbeats 1600000 in
theorem findNode_impl (v : Value) (l : List R) (q : ByteArray) (x y : Addr) (w : World) (h : NodSl w v l) (hl : l.length ≤ 1048576) (hr : ∀ r ∈ l, r.p.size ≤ maxLen) (hqm : q.size ≤ maxLen) (hT : Three w x y) :
    Calls Tryz.prog 19 #[v, .string q] w fun e w' => e = .returned (nodV l q) ∧ Below w.heap.size w w' := by
  have hb0 : Below w.heap.size w (w.alloc (.cells #[.int .i64 0, .string ByteArray.empty, .string ByteArray.empty, .int .i64 0] 29)) := (Below.refl _ _).alloc (Nat.le_refl _) _
  have HG := growTree_any v l x y _ (h.below hb0) hl hr (hT.below hb0 (Nat.le_refl _))
  obtain ⟨ho, sA, cap, rfl, hcap, h⟩ := h
  clear h
  go_enter Tryz.func19, Tryz.ntmps19
  go_wp2_with fail
  refine HG.mono ?_
  rintro e w1 ⟨hb1, HK⟩
  have c1 := hb0.trans (hb1.mono hb0.size)
  have hT1 := hT.below c1 (Nat.le_refl _)
  have hc1 := fun o => (bcell hb1).1 w.heap.size o (by simp)
  have hf1 := fun o => (bcell hb1).2 w.heap.size o (by simp)
  have hz1 : w.heap.size < w1.heap.size := by have := hb1.size; simp at this; omega
  have HXA := checkTextN_any q x y w1 hT1.long
  rcases HK with ⟨hk, rfl⟩ | ⟨hk, A, S, rfl, hTr⟩
  · cases hg : growK l with
    | fine => exact absurd hg hk
    | long =>
      cases ht : textN q with
      | fine =>
        unfold EN.val
        unfold errV
        have HA := argN2_any .long .fine x y w1 hT1
        have HX := HXA
        rw [ht] at HX
        have HE := Lib.hid (nod_code (l := l) (q := q) (c := 2) (by rw [← arg_tt, hg, ht]; rfl) (by decide))
        clear HXA
        unfold EN.val at HX HA
        unfold errV at HX HA
        go_wp2_with fail
        refine HX.mono ?_
        rintro e w2 ⟨rfl, rfl⟩
        go_wp2_with fail
        refine HA.mono ?_
        rintro e w3 ⟨rfl, hb3⟩
        have c3 := c1.trans (hb3.mono c1.size)
        have hc3 := fun o => ((bcell hb3).1 w.heap.size o hz1).trans (hc1 o)
        have hf3 := fun o => ((bcell hb3).2 w.heap.size o hz1).trans (hf1 o)
        have hz3 := Nat.lt_of_lt_of_le hz1 hb3.size
        clear hc1 hf1
        have hcode : enFrom [.long, .fine] 0 = 2 := rfl
        rw [hcode]
        go_wp2_with fail
        refine bodyPost_ret (v := .tuple #[.agg #[.int .i64 0, .string ⟨#[]⟩, .string ⟨#[]⟩, .int .i64 0], .int .i64 2]) (by simp [results, Tryz.results19, go_sem, hc3]) rfl ⟨by rw [HE.out], ?_⟩
        repeat (refine Below.setCell ?_ (by simp) _)
        exact c3
      | long =>
        unfold EN.val
        unfold errV
        have HA := argN2_any .long .long x y w1 hT1
        have HX := HXA
        rw [ht] at HX
        have HE := Lib.hid (nod_code (l := l) (q := q) (c := 2) (by rw [← arg_tt, hg, ht]; rfl) (by decide))
        clear HXA
        unfold EN.val at HX HA
        unfold errV at HX HA
        go_wp2_with fail
        refine HX.mono ?_
        rintro e w2 ⟨rfl, rfl⟩
        go_wp2_with fail
        refine HA.mono ?_
        rintro e w3 ⟨rfl, hb3⟩
        have c3 := c1.trans (hb3.mono c1.size)
        have hc3 := fun o => ((bcell hb3).1 w.heap.size o hz1).trans (hc1 o)
        have hf3 := fun o => ((bcell hb3).2 w.heap.size o hz1).trans (hf1 o)
        have hz3 := Nat.lt_of_lt_of_le hz1 hb3.size
        clear hc1 hf1
        have hcode : enFrom [.long, .long] 0 = 2 := rfl
        rw [hcode]
        go_wp2_with fail
        refine bodyPost_ret (v := .tuple #[.agg #[.int .i64 0, .string ⟨#[]⟩, .string ⟨#[]⟩, .int .i64 0], .int .i64 2]) (by simp [results, Tryz.results19, go_sem, hc3]) rfl ⟨by rw [HE.out], ?_⟩
        repeat (refine Below.setCell ?_ (by simp) _)
        exact c3
      | inv => exact absurd ht textN_not
    | inv =>
      cases ht : textN q with
      | fine =>
        unfold EN.val
        unfold errV
        have HA := argN2_any .inv .fine x y w1 hT1
        have HX := HXA
        rw [ht] at HX
        have HE := Lib.hid (nod_code (l := l) (q := q) (c := 1) (by rw [← arg_tt, hg, ht]; rfl) (by decide))
        clear HXA
        unfold EN.val at HX HA
        unfold errV at HX HA
        go_wp2_with fail
        refine HX.mono ?_
        rintro e w2 ⟨rfl, rfl⟩
        go_wp2_with fail
        refine HA.mono ?_
        rintro e w3 ⟨rfl, hb3⟩
        have c3 := c1.trans (hb3.mono c1.size)
        have hc3 := fun o => ((bcell hb3).1 w.heap.size o hz1).trans (hc1 o)
        have hf3 := fun o => ((bcell hb3).2 w.heap.size o hz1).trans (hf1 o)
        have hz3 := Nat.lt_of_lt_of_le hz1 hb3.size
        clear hc1 hf1
        have hcode : enFrom [.inv, .fine] 0 = 1 := rfl
        rw [hcode]
        go_wp2_with fail
        refine bodyPost_ret (v := .tuple #[.agg #[.int .i64 0, .string ⟨#[]⟩, .string ⟨#[]⟩, .int .i64 0], .int .i64 1]) (by simp [results, Tryz.results19, go_sem, hc3]) rfl ⟨by rw [HE.out], ?_⟩
        repeat (refine Below.setCell ?_ (by simp) _)
        exact c3
      | long =>
        unfold EN.val
        unfold errV
        have HA := argN2_any .inv .long x y w1 hT1
        have HX := HXA
        rw [ht] at HX
        have HE := Lib.hid (nod_code (l := l) (q := q) (c := 2) (by rw [← arg_tt, hg, ht]; rfl) (by decide))
        clear HXA
        unfold EN.val at HX HA
        unfold errV at HX HA
        go_wp2_with fail
        refine HX.mono ?_
        rintro e w2 ⟨rfl, rfl⟩
        go_wp2_with fail
        refine HA.mono ?_
        rintro e w3 ⟨rfl, hb3⟩
        have c3 := c1.trans (hb3.mono c1.size)
        have hc3 := fun o => ((bcell hb3).1 w.heap.size o hz1).trans (hc1 o)
        have hf3 := fun o => ((bcell hb3).2 w.heap.size o hz1).trans (hf1 o)
        have hz3 := Nat.lt_of_lt_of_le hz1 hb3.size
        clear hc1 hf1
        have hcode : enFrom [.inv, .long] 0 = 2 := rfl
        rw [hcode]
        go_wp2_with fail
        refine bodyPost_ret (v := .tuple #[.agg #[.int .i64 0, .string ⟨#[]⟩, .string ⟨#[]⟩, .int .i64 0], .int .i64 2]) (by simp [results, Tryz.results19, go_sem, hc3]) rfl ⟨by rw [HE.out], ?_⟩
        repeat (refine Below.setCell ?_ (by simp) _)
        exact c3
      | inv => exact absurd ht textN_not
  · have hg := hk
    unfold ptr
    cases ht : textN q with
    | long =>
      have HA := argN2_any .fine .long x y w1 hT1
      have HX := HXA
      rw [ht] at HX
      have HE := Lib.hid (nod_code (l := l) (q := q) (c := 2) (by rw [← arg_tt, hg, ht]; rfl) (by decide))
      clear HXA
      unfold EN.val at HX HA
      unfold errV at HX HA
      go_wp2_with fail
      refine HX.mono ?_
      rintro e w2 ⟨rfl, rfl⟩
      go_wp2_with fail
      refine HA.mono ?_
      rintro e w3 ⟨rfl, hb3⟩
      have c3 := c1.trans (hb3.mono c1.size)
      have hc3 := fun o => ((bcell hb3).1 w.heap.size o hz1).trans (hc1 o)
      have hf3 := fun o => ((bcell hb3).2 w.heap.size o hz1).trans (hf1 o)
      have hz3 := Nat.lt_of_lt_of_le hz1 hb3.size
      clear hc1 hf1
      have hcode : enFrom [.fine, .long] 0 = 2 := rfl
      rw [hcode]
      go_wp2_with fail
      refine bodyPost_ret (v := .tuple #[.agg #[.int .i64 0, .string ⟨#[]⟩, .string ⟨#[]⟩, .int .i64 0], .int .i64 2]) (by simp [results, Tryz.results19, go_sem, hc3]) rfl ⟨by rw [HE.out], ?_⟩
      repeat (refine Below.setCell ?_ (by simp) _)
      exact c3
    | inv => exact absurd ht textN_not
    | fine =>
      have H0 := Lib.hid (show codeTT l q = 0 by rw [← arg_tt, hg, ht]; rfl)
      have HA := argN2_any .fine .fine x y w1 hT1
      have HX := HXA
      rw [ht] at HX
      clear HXA
      unfold EN.val at HX HA
      unfold errV at HX HA
      go_wp2_with fail
      refine HX.mono ?_
      rintro e w2 ⟨rfl, rfl⟩
      go_wp2_with fail
      refine HA.mono ?_
      rintro e w3 ⟨rfl, hb3⟩
      have c3 := c1.trans (hb3.mono c1.size)
      have hc3 := fun o => ((bcell hb3).1 w.heap.size o hz1).trans (hc1 o)
      have hf3 := fun o => ((bcell hb3).2 w.heap.size o hz1).trans (hf1 o)
      have hz3 := Nat.lt_of_lt_of_le hz1 hb3.size
      clear hc1 hf1
      have hTr3 := hTr.below hb3
      have hcode : enFrom [.fine, .fine] 0 = 0 := rfl
      rw [hcode]
      have HTR := Lib.hid (code_tree H0.out)
      have hl24 := HTR.out.len
      have HR := resolvePath_any hTr3 HTR.out.is (by omega) q hqm
      unfold ptr resP at HR
      cases hp : pathB q.data.toList with
      | false =>
        have HE := Lib.hid (nod_name H0.out hp)
        rw [hp] at HR
        go_wp2_with fail
        refine HR.mono ?_
        rintro e w4 ⟨rfl, hb4⟩
        have c4 := c3.trans (hb4.mono c3.size)
        have hc4 := fun o => ((bcell hb4).1 w.heap.size o hz3).trans (hc3 o)
        have hf4 := fun o => ((bcell hb4).2 w.heap.size o hz3).trans (hf3 o)
        clear hc3 hf3
        go_wp2_with fail
        refine bodyPost_ret (v := .tuple #[.agg #[.int .i64 0, .string ⟨#[]⟩, .string ⟨#[]⟩, .int .i64 0], .int .i64 10]) (by simp [results, Tryz.results19, go_sem, hc4]) rfl ⟨by rw [HE.out], ?_⟩
        repeat (refine Below.setCell ?_ (by simp) _)
        exact c4
      | true =>
        have HE := Lib.hid (nod_find H0.out hp)
        rw [hp, if_pos rfl] at HR
        unfold resV at HR
        cases hra : recAt l q with
        | none =>
          obtain ⟨e1, e2⟩ := found_not hra
          have HE2 := Lib.hid (HE.out.trans e1)
          have hd : ((findT l q).2 != 0) = true := by simpa using e2
          rw [if_neg e2] at HR
          clear e1 e2
          generalize (findT l q).2 = c at *
          go_wp2_with fail
          refine HR.mono ?_
          rintro e w4 ⟨rfl, hb4⟩
          have c4 := c3.trans (hb4.mono c3.size)
          have hc4 := fun o => ((bcell hb4).1 w.heap.size o hz3).trans (hc3 o)
          have hf4 := fun o => ((bcell hb4).2 w.heap.size o hz3).trans (hf3 o)
          clear hc3 hf3
          go_wp2_with fail
          refine bodyPost_ret (v := .tuple #[.agg #[.int .i64 0, .string ⟨#[]⟩, .string ⟨#[]⟩, .int .i64 0], .int .i64 c]) (by simp [results, Tryz.results19, go_sem, hc4]) rfl ⟨by rw [HE2.out], ?_⟩
          repeat (refine Below.setCell ?_ (by simp) _)
          exact c4
        | some r =>
          obtain ⟨e1, e2⟩ := found_here hra
          obtain ⟨hm, hrp⟩ := recAt_mem hra
          have HE2 := Lib.hid (HE.out.trans e1)
          rw [e2, if_pos rfl, ← hrp] at HR
          clear e1 e2
          go_wp2_with fail
          rw [hrp] at HR
          refine HR.mono ?_
          rintro e w4 ⟨rfl, hb4⟩
          have c4 := c3.trans (hb4.mono c3.size)
          have hc4 := fun o => ((bcell hb4).1 w.heap.size o hz3).trans (hc3 o)
          have hf4 := fun o => ((bcell hb4).2 w.heap.size o hz3).trans (hf3 o)
          obtain ⟨_, d1, d2, d3, d4, _⟩ := (hTr3.below hb4).cells (List.mem_cons_of_mem _ hm)
          rw [hrp] at d1 d2 d3 d4
          have hla := (hTr3.below hb4).own r (List.mem_cons_of_mem _ hm)
          rw [hrp] at hla
          have hne : ¬ A q = w.heap.size := by simp at hla; omega
          clear hc3 hf3
          go_wp2_with fail
          refine bodyPost_ret (v := .tuple #[.agg #[.int .i64 r.k, .string r.p, .string r.b, .int .i64 r.m], .int .i64 0]) (by simp [results, Tryz.results19, go_sem, hc4, hrp]) rfl ⟨by rw [HE2.out], ?_⟩
          repeat (refine Below.setCell ?_ (by simp) _)
          exact c4
end Go.Proofs.YtjiljnfiofmpaaaGreatDoor.Recs

/- Trees: LayerOfTree, of the program and of its model. Conditions (of the program's): the table of kinds, the two sentinels. -/

namespace Go.Proofs.YtjiljnfiofmpaaaGreatDoor.Recs
set_option maxRecDepth 100000
open Go.RowKit Paths Errs

def takeR (w0 : World) : Value := .func (.func 84) #[] #[ptr w0.heap.size]
theorem gathR_start (w0 : World) (D V : Value) : GathR w0 D V [] (((w0.alloc (.cells #[.slice none 0 0] 45)).alloc (.cells #[D] 92)).alloc (.cells #[V] 154)) := by
  obtain ⟨h1, h2, h3⟩ := three_new w0 (.cells #[.slice none 0 0] 45) (.cells #[D] 92) (.cells #[V] 154)
  exact ⟨(((Below.refl _ _).alloc (Nat.le_refl _) _).alloc (by simp) _).alloc (by simp; omega) _, ⟨.slice none 0 0, h1, ⟨rfl, World.ownsRow_nil _ _ _ _⟩⟩, h2, h3⟩
theorem walkerR {w0 : World} {base : Nat} {A : ByteArray → Nat} {S : ByteArray → Value} {t : List R} (h : Tr w0 base A S t) (hl : t.length ≤ 1000) (ho : ∀ r ∈ t, r.o = false) :
    Walker (GathR w0 (takeR w0) (visV (w0.heap.size + 1) (w0.heap.size + 2))) base A S t (w0.heap.size + 1) (w0.heap.size + 2) 84 (ptr w0.heap.size) :=
  ⟨fun _ _ hg => h.below hg.below, fun _ _ hg => (block_cell hg.cd).1, fun _ _ hg => (block_cell hg.cv).1, fun _ _ hg => hg.drew, fun acc _ r hr hacc hg => layer1_any r (ho r hr) (by omega) hg⟩

set_option maxHeartbeats 800000 in
theorem eachR_any {w0 : World} {base : Nat} {A : ByteArray → Nat} {S : ByteArray → Value} {t : List R} (h : Tr w0 base A S t) (ht : IsTree t) (hl : t.length ≤ 1000) (ho : ∀ r ∈ t, r.o = false) :
    Calls Tryz.prog 83 #[ptr (A ByteArray.empty), takeR w0] (w0.alloc (.cells #[.slice none 0 0] 45)) fun e w' => (∃ v, e = .returned v) ∧ GathR w0 (takeR w0) (visV (w0.heap.size + 1) (w0.heap.size + 2)) t w' := by
  have HV := visitR_any (walkerR h hl ho) ht hl 5 rootR root_mem (by omega) [] _ (gathR_start w0 (takeR w0) (visV (w0.heap.size + 1) (w0.heap.size + 2))) (by rw [rootR_p, all_root]; simp)
  rw [rootR_p, all_root, List.nil_append] at HV
  unfold takeR visV ptr at HV ⊢
  have HVh := Lib.hid HV
  clear HV
  go_enter Tryz.func83, Tryz.ntmps83
  go_wp2_with fail
  refine HVh.out.mono ?_
  rintro e w2 ⟨⟨v2, rfl⟩, hG⟩
  go_wp2_with fail
  go_end0
  exact ⟨⟨_, rfl⟩, hG⟩

set_option maxHeartbeats 1600000 in
theorem l04Layer_any (v : Value) (l : List R) (w : World) (h : NodSl w v l) (hl : l.length ≤ 1000) :
    Calls Tryz.prog 86 #[v] w fun e w' => ∃ x, e = .returned x ∧ Below w.heap.size w w' ∧ RowOf w' w.heap.size x l.length l := by
  obtain ⟨i0, hi, hI0, hI1, hI2⟩ := info_parts recInfo
  obtain ⟨ho, sA, cap, rfl, hcap, h⟩ := h
  have H := Lib.hid h
  clear h
  have hb0 : Below w.heap.size w (w.alloc (.cells #[] 26)) := (Below.refl _ _).alloc (Nat.le_refl _) _
  have hown0 : (w.alloc (.cells #[] 26)).ownsRow w.heap.size 26 5 (.slice (some ⟨w.heap.size, 0, none⟩) 0 0) 0 [] := World.ownsRow_lit w #[] 0 (Nat.le_refl _) (Nat.zero_le _) rfl
  go_enter Tryz.func86, Tryz.ntmps86
  go_wp2
  go_loopw [3, 4] (fun f i wr => ∃ k : Nat, k ≤ l.length ∧ i = .int .i64 k ∧ RowOf wr w.heap.size f (l.take k).length (l.take k) ∧ Below w.heap.size w wr) (fun _ i _ => l.length - (intOf i).toNat)
  case atStart => exact ⟨0, by omega, rfl, ⟨rfl, hown0⟩, hb0⟩
  case round =>
    obtain ⟨k, hk, rfl, hrow, hbw⟩ := hrel
    by_cases hlt : k < l.length
    · obtain ⟨b, off, rfl, hb, hcell⟩ := H.out (by omega)
      obtain ⟨c0, c1, c2, c3⟩ := (hcell k l[k] (by simp [hlt])).below hbw hb
      clear hcell
      have hi1 : (k : Int) < (l.length : Int) := by omega
      have hi0 : (0 : Int) ≤ (k : Int) := by omega
      have hko := ho l[k] (List.getElem_mem hlt)
      have HREC := l04Record_any l[k] hko wr
      unfold R.nod R.val at HREC
      rw [hko] at HREC
      have e2 : l.take (k + 1) = l.take k ++ [l[k]] := by rw [List.take_add_one, List.getElem?_eq_getElem hlt]; rfl
      have HT := Lib.hid e2
      have hlk : (l.take k).length = k := by rw [List.length_take]; omega
      have HLK := Lib.hid hlk
      obtain ⟨fA, fcap, rfl⟩ := hrow.form
      clear e2
      generalize hM : l.take k = M at *
      clear hM
      go_wp2_with fail
      refine HREC.mono ?_
      rintro e w1 ⟨rfl, hb1⟩
      have d1 := hbw.trans (hb1.mono hbw.size)
      have hr3 : (w1.alloc (.cells #[.int .i64 l[k].k, .string l[k].p, .string l[k].b, .int .i64 l[k].m, .bool false] 26)).ownsRow w.heap.size 26 5 (.slice fA M.length fcap) M.length (flat M) := (hrow.below hb1).2.alloc _
      have hnews := rec_cells_new w1 l[k] 26
      rw [hko] at hnews
      have hone := rec_one l[k]
      have hbz : w.heap.size ≤ (w1.alloc (.cells #[.int .i64 l[k].k, .string l[k].p, .string l[k].b, .int .i64 l[k].m, .bool false] 26)).heap.size := (d1.alloc d1.size _).size
      clear hlk
      go_wp2_with (first
        | (at_builtin; refine wpList_append_own _ rfl _ _ 45 rfl w.heap.size 26 i0 (.agg #[.int .i64 0, .string ByteArray.empty, .string ByteArray.empty, .int .i64 0, .bool false]) 5 56 Tryz.underlying45 hi hI0 hI1 hI2 rfl (by decide) _ _ _ rfl hr3 ⟨w1.heap.size, 0, none⟩ 1 1 (R.cs l[k]) rfl rfl hnews hone (by have := HLK.out; unfold maxLen; omega) (by have := HLK.out; omega) hbz ?_; intro v' w9 hown' hgrow9 hnil9))
      refine ⟨⟨k + 1, by omega, by go_num, ?_, (d1.alloc d1.size _).grown hgrow9 hbz (fun j hj => (hrow.2.lt j hj).1)⟩, by simp [intOf]; omega⟩
      rw [HT.out]
      exact row_snoc hown'
    · obtain rfl : k = l.length := by omega
      rw [List.take_length] at hrow
      go_wp2
      go_ret
      exact ⟨_, rfl, hbw, hrow⟩

def layC (l : List R) : Int := if 4096 < l.length then 2 else if treeOK l then (if 16 < l.length then 6 else 0) else 1
def layR (l : List R) : List R := if layC l = 0 then l else []
def LayPost (l : List R) (w : World) (e : Ending) (w' : World) : Prop :=
  ∃ x, e = .returned (.tuple #[x, .int .i64 (layC l)]) ∧ Below w.heap.size w w' ∧ RowOf w' w.heap.size x (layR l).length (layR l)
theorem layR_not {l : List R} {c : Int} (h : layC l = c) (hc : c ≠ 0) : layR l = [] := if_neg (by rw [h]; exact hc)
theorem layR_yes {l : List R} (h : layC l = 0) : layR l = l := if_pos h
theorem lay_err {l : List R} {c : Int} (h : layC l = c) (hc : c ≠ 0) {w w' : World} {x : Value} (hb : Below w.heap.size w w') (ho : w'.ownsRow w.heap.size 26 5 x 0 []) : LayPost l w (.returned (.tuple #[x, .int .i64 c])) w' := by
  refine ⟨x, by rw [h], hb, ?_⟩
  rw [layR_not h hc]
  exact ⟨rfl, ho⟩
theorem own_low {w : World} {base base' : Nat} {e : TypeId} {size : Nat} {v : Value} {n : Nat} {xs : List Value} (h : w.ownsRow base e size v n xs) (hb : base' ≤ base) : w.ownsRow base' e size v n xs := by
  obtain ⟨h1, h2⟩ := h
  refine ⟨h1, ?_⟩
  rcases h2 with h2 | ⟨g, cap', cur, a, b, c⟩
  · exact .inl h2
  · exact .inr ⟨g, cap', cur, a, Nat.le_trans hb b, c⟩
theorem lay_ok {l : List R} (h : layC l = 0) {w w' : World} {base : Nat} {x : Value} (hb : Below w.heap.size w w') (ho : RowOf w' base x l.length l) (hle : w.heap.size ≤ base) : LayPost l w (.returned (.tuple #[x, .int .i64 0])) w' := by
  refine ⟨x, by rw [h], hb, ?_⟩
  rw [layR_yes h]
  exact ⟨ho.1, own_low ho.2 hle⟩

set_option maxHeartbeats 800000 in
theorem layerOfTree_spec (v : Value) (l : List R) (w : World) (h : NodSl w v l) (hl : l.length ≤ 1048576) :
    Calls Tryz.prog 27 #[v] w (LayPost l w) := by
  have HC := l04OK_any v l w h hl
  have hsl := h
  obtain ⟨_, sA, cap, rfl, hcap, _⟩ := h
  have HN : Hid (∀ w1 : World, Below w.heap.size w w1 → Below w.heap.size w (w1.alloc (.cells #[] 26)) ∧ (w1.alloc (.cells #[] 26)).ownsRow w.heap.size 26 5 (.slice (some ⟨w1.heap.size, 0, none⟩) 0 0) 0 []) := fun w1 hb => ⟨hb.alloc hb.size _, World.ownsRow_lit w1 #[] 0 hb.size (Nat.zero_le _) rfl⟩
  by_cases h4 : 4096 < l.length
  · have HE := Lib.hid (show layC l = 2 from if_pos h4)
    have hd : decide ((4096 : Int) < (l.length : Int)) = true := by simp; omega
    go_enter Tryz.func27, Tryz.ntmps27
    go_wp2_with fail
    go_ret2
    exact lay_err HE.out (by decide) (HN.out _ (Below.refl _ _)).1 (HN.out _ (Below.refl _ _)).2
  have hd4 : decide ((4096 : Int) < (l.length : Int)) = false := by simp; omega
  have HL : Hid (layC l = if treeOK l then (if 16 < l.length then 6 else 0) else 1) := if_neg h4
  cases hk : treeOK l with
  | false =>
    have HE : Hid (layC l = 1) := by show _ = _; rw [HL.out, hk]; rfl
    rw [hk] at HC
    go_enter Tryz.func27, Tryz.ntmps27
    go_wp2_with fail
    refine HC.mono ?_
    rintro e w1 ⟨rfl, hb1⟩
    go_wp2_with fail
    go_ret2
    exact lay_err HE.out (by decide) (HN.out _ hb1).1 (HN.out _ hb1).2
  | true =>
    have hlen := (tree_of hk).len
    rw [hk] at HC
    by_cases h16 : 16 < l.length
    · have HE : Hid (layC l = 6) := by show _ = _; rw [HL.out, hk, if_pos rfl, if_pos h16]
      have hd : decide ((16 : Int) < (l.length : Int)) = true := by simp; omega
      go_enter Tryz.func27, Tryz.ntmps27
      go_wp2_with fail
      refine HC.mono ?_
      rintro e w1 ⟨rfl, hb1⟩
      go_wp2_with fail
      go_ret2
      exact lay_err HE.out (by decide) (HN.out _ hb1).1 (HN.out _ hb1).2
    · have HE : Hid (layC l = 0) := by show _ = _; rw [HL.out, hk, if_pos rfl, if_neg h16]
      have hd : decide ((16 : Int) < (l.length : Int)) = false := by simp; omega
      go_enter Tryz.func27, Tryz.ntmps27
      go_wp2_with fail
      refine HC.mono ?_
      rintro e w1 ⟨rfl, hb1⟩
      go_wp2_with fail
      refine (l04Layer_any _ l _ (hsl.below hb1) (by omega)).mono ?_
      rintro e w2 ⟨x, rfl, hb2, hr2⟩
      have HR := Lib.hid hr2
      obtain ⟨xA, xc, rfl⟩ := hr2.form
      clear hr2
      go_wp2_with fail
      go_ret2
      exact lay_ok HE.out (hb1.trans (hb2.mono hb1.size)) HR.out hb1.size

set_option maxHeartbeats 1600000 in
theorem layerOfTree_impl (v : Value) (l : List R) (x y : Addr) (w : World) (h : NodSl w v l) (hl : l.length ≤ 1048576) (hr : ∀ r ∈ l, r.p.size ≤ maxLen) (hT : Three w x y) :
    Calls Tryz.prog 26 #[v] w (LayPost l w) := by
  have HG := growTree_any v l x y _ h hl hr hT
  obtain ⟨ho, sA, cap, rfl, hcap, h⟩ := h
  clear h
  go_enter Tryz.func26, Tryz.ntmps26
  go_wp2_with fail
  refine HG.mono ?_
  rintro e w1 ⟨hb1, HK⟩
  have hT1 := hT.below hb1 (Nat.le_refl _)
  rcases HK with ⟨hk, rfl⟩ | ⟨hk, A, S, rfl, hTr⟩
  · cases hg : growK l with
    | fine => exact absurd hg hk
    | long =>
      have HE : Hid (layC l = 2) := by
        show _ = _
        have := arg_t l
        rw [hg] at this
        unfold layC
        have h2 : codeT l = 2 := this.symm
        unfold codeT at h2
        have h3 := grow_not hk
        rw [h3] at h2 ⊢
        simpa using h2
      have HA := argN1_any .long x y w1 hT1
      unfold EN.val at HA ⊢
      unfold errV at HA ⊢
      go_wp2_with fail
      refine HA.mono ?_
      rintro e w3 ⟨rfl, hb3⟩
      have c3 := hb1.trans (hb3.mono hb1.size)
      have hcode : enFrom [.long] 0 = 2 := rfl
      rw [hcode]
      go_wp2_with fail
      go_ret2
      exact lay_err HE.out (by decide) c3 (World.ownsRow_nil _ _ _ _)
    | inv =>
      have HE : Hid (layC l = 1) := by
        show _ = _
        have := arg_t l
        rw [hg] at this
        unfold layC
        have h2 : codeT l = 1 := this.symm
        unfold codeT at h2
        have h3 := grow_not hk
        rw [h3] at h2 ⊢
        simpa using h2
      have HA := argN1_any .inv x y w1 hT1
      unfold EN.val at HA ⊢
      unfold errV at HA ⊢
      go_wp2_with fail
      refine HA.mono ?_
      rintro e w3 ⟨rfl, hb3⟩
      have c3 := hb1.trans (hb3.mono hb1.size)
      have hcode : enFrom [.inv] 0 = 1 := rfl
      rw [hcode]
      go_wp2_with fail
      go_ret2
      exact lay_err HE.out (by decide) c3 (World.ownsRow_nil _ _ _ _)
  · have HA := argN1_any .fine x y w1 hT1
    have htree := tree_of (grow_ok.1 hk)
    have hlen := htree.len
    unfold EN.val at HA
    unfold errV at HA
    unfold ptr
    go_wp2_with fail
    refine HA.mono ?_
    rintro e w3 ⟨rfl, hb3⟩
    have c3 := hb1.trans (hb3.mono hb1.size)
    have hcode : enFrom [.fine] 0 = 0 := rfl
    rw [hcode]
    have HL : Hid (layC l = if 16 < l.length then 6 else 0) := by show _ = _; unfold layC; rw [if_neg (by omega), grow_ok.1 hk, if_pos rfl]
    by_cases h16 : 16 < l.length
    · have HE : Hid (layC l = 6) := by show _ = _; rw [HL.out, if_pos h16]
      have hd : decide ((16 : Int) < (l.length : Int)) = true := by simp; omega
      go_wp2_with fail
      go_ret2
      exact lay_err HE.out (by decide) c3 (World.ownsRow_nil _ _ _ _)
    · have HE : Hid (layC l = 0) := by show _ = _; rw [HL.out, if_neg h16]
      have hd : decide ((16 : Int) < (l.length : Int)) = false := by simp; omega
      have HEA := eachR_any (hTr.below hb3) htree.is (by omega) ho
      unfold takeR visV ptr at HEA
      go_wp2_with fail
      refine HEA.mono ?_
      rintro e w4 ⟨⟨v4, rfl⟩, hG⟩
      obtain ⟨hb4, ⟨v, hlist, hrow⟩, -, -⟩ := hG
      obtain ⟨hc0, hf0⟩ := block_cell hlist
      have HR := Lib.hid hrow
      obtain ⟨xA, xc, rfl⟩ := hrow.form
      clear hlist hrow
      go_wp2_with fail
      go_ret2
      exact lay_ok HE.out (c3.trans (hb4.mono c3.size)) HR.out c3.size
end Go.Proofs.YtjiljnfiofmpaaaGreatDoor.Recs

/- Trees: ListDir, of the program and of its model. Conditions (of the program's): the table of kinds, the two sentinels. -/

namespace Go.Proofs.YtjiljnfiofmpaaaGreatDoor.Recs
set_option maxRecDepth 100000
open Go.RowKit Paths Errs

def partsL (K : List R) : List (List UInt8) := K.map fun c => (lastB c.p).data.toList
theorem strV_last (p : ByteArray) : strV (lastB p).data.toList = .string (lastB p) := rfl
theorem partsL_snoc (K : List R) (c : R) : partsL (K ++ [c]) = partsL K ++ [(lastB c.p).data.toList] := by simp [partsL]
theorem partsL_len (K : List R) : (partsL K).length = K.length := by simp [partsL]
theorem kids_step {l : List R} {k : Nat} (hk : k < l.length) (q : ByteArray) : kids (l.take (k + 1)) q = if parO l[k].p = q then kids (l.take k) q ++ [l[k]] else kids (l.take k) q := by
  unfold kids
  rw [List.take_add_one, List.getElem?_eq_getElem hk, List.filter_append]
  by_cases h : parO l[k].p = q <;> simp [h]
theorem own_snoc {w : World} {base : Nat} {v : Value} {M : List (List UInt8)} {p : ByteArray} (h : w.ownsRow base 9 1 v (M.length + 1) (M.map strV ++ [.string (lastB p)])) : w.ownsRow base 9 1 v (M ++ [(lastB p).data.toList]).length ((M ++ [(lastB p).data.toList]).map strV) := by
  rw [List.length_append, List.map_append]
  exact h
theorem cut_last {p : ByteArray} {w : World} {g : Nat} (h : ∀ i (hi : i < (cutAt 47 p.data.toList).length), w.cell? ⟨g, i, none⟩ = some (strV (cutAt 47 p.data.toList)[i])) : w.cell? ⟨g, (cutAt 47 p.data.toList).length - 1, none⟩ = some (.string (lastB p)) := by
  have hp := cutAt_pos 47 p.data.toList
  rw [h _ (by omega), last_cell hp]

set_option maxHeartbeats 1600000 in
theorem l04List_any (v : Value) (l : List R) (q : ByteArray) (w : World) (h : NodSl w v l) (hl : l.length ≤ 1000) (ht : IsTree l) :
    Calls Tryz.prog 78 #[v, .string q] w fun e w' => ∃ x, e = .returned x ∧ Below w.heap.size w w' ∧ w'.ownsRow w.heap.size 9 1 x (partsL (kids l q)).length ((partsL (kids l q)).map strV) := by
  obtain ⟨i0, hi, hz0, hz1, hz2⟩ := info_parts strInfo
  obtain ⟨ho, sA, cap, rfl, hcap, h⟩ := h
  have H := Lib.hid h
  have HTr := Lib.hid ht
  clear h ht
  have hb0 : Below w.heap.size w (w.alloc (.cells #[] 9)) := (Below.refl _ _).alloc (Nat.le_refl _) _
  have hown0 : (w.alloc (.cells #[] 9)).ownsRow w.heap.size 9 1 (.slice (some ⟨w.heap.size, 0, none⟩) 0 0) 0 [] := World.ownsRow_lit w #[] 0 (Nat.le_refl _) (Nat.zero_le _) rfl
  go_enter Tryz.func78, Tryz.ntmps78
  go_wp2
  go_loopw [5, 6] (fun f i wr => ∃ (k : Nat) (M : List (List UInt8)), k ≤ l.length ∧ i = .int .i64 k ∧ Hid (M = partsL (kids (l.take k) q)) ∧ wr.ownsRow w.heap.size 9 1 f M.length (M.map strV) ∧ Below w.heap.size w wr) (fun _ i _ => l.length - (intOf i).toNat)
  case atStart => exact ⟨0, [], by omega, rfl, rfl, hown0, hb0⟩
  case round =>
    obtain ⟨k, M, hk, rfl, HM, hown, hbw⟩ := hrel
    by_cases hlt : k < l.length
    · obtain ⟨b, off, rfl, hb, hcell⟩ := H.out (by omega)
      obtain ⟨_, c1, _, _⟩ := (hcell k l[k] (by simp [hlt])).below hbw hb
      clear hcell
      have hi1 : (k : Int) < (l.length : Int) := by omega
      have hi0 : (0 : Int) ≤ (k : Int) := by omega
      have hp := HTr.out.path _ (List.getElem_mem hlt)
      have hs : l[k].p.size ≤ 35 := by rw [Lib.size_eq]; exact pathB_len hp
      have HPA := l01Parent_any l[k].p wr (by unfold maxLen; omega)
      have HST := Lib.hid (kids_step hlt q)
      have hMl : M.length ≤ 1000 := by
        rw [HM.out, partsL_len]
        exact Nat.le_trans (List.length_filter_le _ _) (by rw [List.length_take]; omega)
      obtain ⟨fA, fcap, rfl⟩ := own_form hown
      unfold strV at HPA
      by_cases hpq : parO l[k].p = q
      · have HN : Hid (M ++ [(lastB l[k].p).data.toList] = partsL (kids (l.take (k + 1)) q)) := by show _ = _; rw [HST.out, if_pos hpq, partsL_snoc, ← HM.out]
        have heq : (parentL l[k].p.data.toList == q.toList) = true := by
          rw [Lib.toList_data, ← hpq, parO_data]; simp
        clear hpq
        go_wp2_with fail
        refine HPA.mono ?_
        rintro e w2 ⟨rfl, rfl⟩
        go_wp2_with fail
        refine (l00Cut_any l[k].p 47 47 rfl _ (by omega)).mono ?_
        rintro e w3 ⟨v3, rfl, hb3, hown3⟩
        have hv3 := part_sl hown3
        obtain ⟨pA, pc, rfl, hpc, hpv⟩ := hv3
        have hcp := cutAt_pos 47 l[k].p.data.toList
        have h4 := (pathB_parts hp).1
        obtain ⟨g, rfl, hg, hpcell⟩ := hpv hcp
        have cl := cut_last hpcell
        have e3 := hbw.trans (hb3.mono hbw.size)
        have hown3' := own_below hown hb3
        have hsz3 := e3.size
        clear hpcell hpv hown3
        generalize (cutAt 47 l[k].p.data.toList).length = L at *
        have hw1 : IntKind.i64.wrap ((L : Int) - 1) = ((L - 1 : Nat) : Int) := by rw [IntKind.wrap_i64]; omega
        have hw2 : (L : Int) - 1 = ((L - 1 : Nat) : Int) := by omega
        have hii1 : ((L - 1 : Nat) : Int) < (L : Int) := by omega
        have hii0 : (0 : Int) ≤ ((L - 1 : Nat) : Int) := by omega
        go_wp2_with (first
          | (at_builtin; refine wpList_append_own _ rfl _ _ 36 rfl w.heap.size 9 i0 (.string ByteArray.empty) 1 16 Tryz.underlying36 hi hz0 hz1 hz2 rfl (by decide) _ _ _ rfl (hown3'.alloc _) ⟨w3.heap.size, 0, none⟩ 1 1 [.string (lastB l[k].p)] rfl rfl (cell_one_new _ _ _) (fun x hx => by simp at hx; subst hx; rfl) (by unfold maxLen; omega) (by omega) (by simp; omega) ?_; intro v' w9 hown' hgrow9 hnil9))
        exact ⟨⟨k + 1, _, by omega, by go_num, HN, own_snoc hown', (e3.alloc e3.size _).grown hgrow9 (e3.alloc e3.size _).size (fun j hj => (hown.lt j hj).1)⟩, by simp [intOf]; omega⟩
      · have HN : Hid (M = partsL (kids (l.take (k + 1)) q)) := by show _ = _; rw [HST.out, if_neg hpq, ← HM.out]
        have heq : (parentL l[k].p.data.toList == q.toList) = false := by
          rw [Bool.eq_false_iff, Lib.toList_data]
          intro e
          exact hpq (bytes_ext (by rw [parO_data]; exact of_decide_eq_true (by simpa using e)))
        clear hpq
        go_wp2_with fail
        refine HPA.mono ?_
        rintro e w2 ⟨rfl, rfl⟩
        go_wp2_with fail
        exact ⟨⟨k + 1, M, by omega, by go_num, HN, hown, hbw⟩, by simp [intOf]; omega⟩
    · have hkl : l.length ≤ k := by omega
      have HF : Hid (M = partsL (kids l q)) := by show _ = _; rw [HM.out, List.take_of_length_le hkl]
      go_wp2
      go_ret
      exact ⟨_, rfl, hbw, by rw [← HF.out]; exact hown⟩

def lisC (l : List R) (q : ByteArray) : Int :=
  if codeTT l q ≠ 0 then codeTT l q else if q.size = 0 then 0 else if pathB q.data.toList then (if (findT l q).2 ≠ 0 then (findT l q).2 else if (findT l q).1.k ≠ 3 then 13 else 0) else 10
def lisL (l : List R) (q : ByteArray) : List (List UInt8) := if lisC l q = 0 then partsL (kids l q) else []
def LisPost (l : List R) (q : ByteArray) (w : World) (e : Ending) (w' : World) : Prop :=
  ∃ x, e = .returned (.tuple #[x, .int .i64 (lisC l q)]) ∧ Below w.heap.size w w' ∧ w'.ownsRow w.heap.size 9 1 x (lisL l q).length ((lisL l q).map strV)
theorem lis_len (l : List R) (q : ByteArray) (hl : l.length ≤ 1048576) : (lisL l q).length ≤ 1048576 := by
  unfold lisL
  split
  · rw [partsL_len]
    exact Nat.le_trans (List.length_filter_le _ _) hl
  · simp
theorem lis_err {l : List R} {q : ByteArray} {c : Int} (h : lisC l q = c) (hc : c ≠ 0) {w w' : World} {x : Value} (hb : Below w.heap.size w w') (ho : w'.ownsRow w.heap.size 9 1 x 0 []) : LisPost l q w (.returned (.tuple #[x, .int .i64 c])) w' := by
  refine ⟨x, by rw [h], hb, ?_⟩
  have e : lisL l q = [] := if_neg (by rw [h]; exact hc)
  rw [e]
  exact ho
theorem lis_ok {l : List R} {q : ByteArray} (h : lisC l q = 0) {w w' : World} {base : Nat} {x : Value} (hb : Below w.heap.size w w') (ho : w'.ownsRow base 9 1 x (partsL (kids l q)).length ((partsL (kids l q)).map strV)) (hle : w.heap.size ≤ base) : LisPost l q w (.returned (.tuple #[x, .int .i64 0])) w' := by
  refine ⟨x, by rw [h], hb, ?_⟩
  have e : lisL l q = partsL (kids l q) := if_pos h
  rw [e]
  exact own_low ho hle
theorem lis_code {l : List R} {q : ByteArray} {c : Int} (h : codeTT l q = c) (hc : c ≠ 0) : lisC l q = c := by unfold lisC; rw [h, if_pos hc]
theorem lis_root {l : List R} {q : ByteArray} (h : codeTT l q = 0) (hq : q.size = 0) : lisC l q = 0 := by unfold lisC; rw [if_neg (by simpa using h), if_pos hq]
theorem lis_name {l : List R} {q : ByteArray} (h : codeTT l q = 0) (hq : 0 < q.size) (hp : pathB q.data.toList = false) : lisC l q = 10 := by unfold lisC; rw [if_neg (by simpa using h), if_neg (by omega), hp]; rfl
theorem lis_none {l : List R} {q : ByteArray} (h : codeTT l q = 0) (hq : 0 < q.size) (hp : pathB q.data.toList = true) (hn : (findT l q).2 ≠ 0) : lisC l q = (findT l q).2 := by unfold lisC; rw [if_neg (by simpa using h), if_neg (by omega), hp, if_pos rfl, if_pos hn]
theorem findT_some {l : List R} {q : ByteArray} {r : R} (h : recAt l q = some r) : findT l q = (r, 0) := by unfold findT; rw [h]
theorem lis_file {l : List R} {q : ByteArray} {r : R} (h : codeTT l q = 0) (hq : 0 < q.size) (hp : pathB q.data.toList = true) (hr : recAt l q = some r) (h3 : r.k ≠ 3) : lisC l q = 13 := by
  unfold lisC; rw [if_neg (by simpa using h), if_neg (by omega), hp, if_pos rfl, findT_some hr, if_neg (by simp), if_pos h3]
theorem lis_dir {l : List R} {q : ByteArray} {r : R} (h : codeTT l q = 0) (hq : 0 < q.size) (hp : pathB q.data.toList = true) (hr : recAt l q = some r) (h3 : r.k = 3) : lisC l q = 0 := by
  unfold lisC; rw [if_neg (by simpa using h), if_neg (by omega), hp, if_pos rfl, findT_some hr, if_neg (by simp), if_neg (by simpa using h3)]

set_option maxHeartbeats 1600000 in
theorem listDir_spec (v : Value) (l : List R) (q : ByteArray) (w : World) (h : NodSl w v l) (hl : l.length ≤ 1048576) (hqs : q.size ≤ 1048576) :
    Calls Tryz.prog 18 #[v, .string q] w (LisPost l q w) := by
  have HC := l04Ask_any v l q w h hl
  have hsl := h
  obtain ⟨_, sA, cap, rfl, hcap, _⟩ := h
  have HN : Hid (∀ w1 : World, Below w.heap.size w w1 → Below w.heap.size w (w1.alloc (.cells #[] 9)) ∧ (w1.alloc (.cells #[] 9)).ownsRow w.heap.size 9 1 (.slice (some ⟨w1.heap.size, 0, none⟩) 0 0) 0 []) := fun w1 hb => ⟨hb.alloc hb.size _, World.ownsRow_lit w1 #[] 0 hb.size (Nat.zero_le _) rfl⟩
  by_cases h4 : 4096 < l.length
  · have HE := Lib.hid (lis_code (l := l) (q := q) (c := 2) (by unfold codeTT; rw [if_pos (.inl h4)]) (by decide))
    have hd : decide ((4096 : Int) < (l.length : Int)) = true := by simp; omega
    go_enter Tryz.func18, Tryz.ntmps18
    go_wp2_with fail
    go_ret2
    exact lis_err HE.out (by decide) (HN.out _ (Below.refl _ _)).1 (HN.out _ (Below.refl _ _)).2
  have hd4 : decide ((4096 : Int) < (l.length : Int)) = false := by simp; omega
  by_cases h5 : 65536 < q.size
  · have HE := Lib.hid (lis_code (l := l) (q := q) (c := 2) (by unfold codeTT; rw [if_pos (.inr h5)]) (by decide))
    have hd : decide ((65536 : Int) < (q.size : Int)) = true := by simp; omega
    go_enter Tryz.func18, Tryz.ntmps18
    go_wp2_with fail
    go_ret2
    exact lis_err HE.out (by decide) (HN.out _ (Below.refl _ _)).1 (HN.out _ (Below.refl _ _)).2
  have hd5 : decide ((65536 : Int) < (q.size : Int)) = false := by simp; omega
  go_enter Tryz.func18, Tryz.ntmps18
  go_wp2_with fail
  refine HC.mono ?_
  rintro e w1 ⟨rfl, hb1⟩
  by_cases h0 : codeTT l q = 0
  case neg =>
    have HE := Lib.hid (lis_code (l := l) (q := q) rfl h0)
    have H0 := Lib.hid h0
    have hd : (codeTT l q != 0) = true := by simpa using h0
    generalize codeTT l q = c at *
    clear h0
    go_wp2_with fail
    go_ret2
    exact lis_err HE.out H0.out (HN.out _ hb1).1 (HN.out _ hb1).2
  have HT := Lib.hid (code_tree h0)
  have hlen := HT.out.len
  have H0 := Lib.hid h0
  rw [h0]
  clear h0
  by_cases hq0 : q.size = 0
  · have HE := Lib.hid (lis_root H0.out hq0)
    have he := isEmpty_true hq0
    clear hq0
    go_wp2_with fail
    refine (l04List_any _ l q _ (hsl.below hb1) (by omega) HT.out.is).mono ?_
    rintro e w2 ⟨x, rfl, hb2, ho2⟩
    have HO := Lib.hid ho2
    obtain ⟨xA, xc, rfl⟩ := own_form ho2
    clear ho2
    go_wp2_with fail
    go_ret2
    exact lis_ok HE.out (hb1.trans (hb2.mono hb1.size)) HO.out hb1.size
  have hqp : 0 < q.size := by omega
  have he := isEmpty_false hqp
  have HP := l01OK_any q w1
  clear hq0
  cases hp : pathB q.data.toList with
  | false =>
    have HE := Lib.hid (lis_name H0.out hqp hp)
    rw [hp] at HP
    go_wp2_with fail
    refine HP.mono ?_
    rintro e w2 ⟨rfl, hb2⟩
    have c2 := hb1.trans (hb2.mono hb1.size)
    go_wp2_with fail
    go_ret2
    exact lis_err HE.out (by decide) (HN.out _ c2).1 (HN.out _ c2).2
  | true =>
    rw [hp] at HP
    go_wp2_with fail
    refine HP.mono ?_
    rintro e w2 ⟨rfl, hb2⟩
    have c2 := hb1.trans (hb2.mono hb1.size)
    have HFI := l04Find_any _ l q w2 (hsl.below c2) hl HT.out.is hp
    unfold foundV R.nod at HFI
    cases hra : recAt l q with
    | none =>
      obtain ⟨e1, e2⟩ := found_not hra
      have HE := Lib.hid (lis_none H0.out hqp hp e2)
      have H2 := Lib.hid e2
      have hd : ((findT l q).2 != 0) = true := by simpa using e2
      generalize findT l q = F at *
      clear e1 e2
      go_wp2_with fail
      refine HFI.mono ?_
      rintro e w3 ⟨rfl, hb3⟩
      have c3 := c2.trans (hb3.mono c2.size)
      have c4 := c3.alloc c3.size (.cells #[.int .i64 F.1.k, .string F.1.p, .string F.1.b, .int .i64 F.1.m] 29)
      go_wp2_with fail
      go_ret2
      exact lis_err HE.out H2.out (HN.out _ c4).1 (by have := (HN.out _ c4).2; rw [World.size_alloc] at this; exact this)
    | some r =>
      have HFT := findT_some hra
      rw [HFT] at HFI
      clear HFT
      by_cases h3 : r.k = 3
      · have HE := Lib.hid (lis_dir H0.out hqp hp hra h3)
        have hd : (r.k != 3) = false := by simpa using h3
        clear h3
        go_wp2_with fail
        refine HFI.mono ?_
        rintro e w3 ⟨rfl, hb3⟩
        have c3 := c2.trans (hb3.mono c2.size)
        have c4 := c3.alloc c3.size (.cells #[.int .i64 r.k, .string r.p, .string r.b, .int .i64 r.m] 29)
        have HLI := l04List_any _ l q _ (hsl.below c4) (by omega) HT.out.is
        go_wp2_with fail
        refine HLI.mono ?_
        rintro e w5 ⟨x, rfl, hb5, ho5⟩
        have HO := Lib.hid ho5
        obtain ⟨xA, xc, rfl⟩ := own_form ho5
        clear ho5
        go_wp2_with fail
        go_ret2
        exact lis_ok HE.out (c4.trans (hb5.mono c4.size)) HO.out c4.size
      · have HE := Lib.hid (lis_file H0.out hqp hp hra h3)
        have hd : (r.k != 3) = true := by simpa using h3
        clear h3
        go_wp2_with fail
        refine HFI.mono ?_
        rintro e w3 ⟨rfl, hb3⟩
        have c3 := c2.trans (hb3.mono c2.size)
        have c4 := c3.alloc c3.size (.cells #[.int .i64 r.k, .string r.p, .string r.b, .int .i64 r.m] 29)
        go_wp2_with fail
        go_ret2
        exact lis_err HE.out (by decide) (HN.out _ c4).1 (by have := (HN.out _ c4).2; rw [World.size_alloc] at this; exact this)

set_option maxHeartbeats 3200000 in
theorem listDir_impl (v : Value) (l : List R) (q : ByteArray) (x y : Addr) (w : World) (h : NodSl w v l) (hl : l.length ≤ 1048576) (hr : ∀ r ∈ l, r.p.size ≤ maxLen) (hqm : q.size ≤ maxLen) (hT : Three w x y) :
    Calls Tryz.prog 17 #[v, .string q] w (LisPost l q w) := by
  obtain ⟨i0, hi, hz0, hz1, hz2⟩ := info_parts strInfo
  have HG := growTree_any v l x y w h hl hr hT
  obtain ⟨ho, sA, cap, rfl, hcap, h⟩ := h
  clear h
  go_enter Tryz.func17, Tryz.ntmps17
  go_wp2_with fail
  refine HG.mono ?_
  rintro e w1 ⟨hb1, HK⟩
  have hT1 := hT.below hb1 (Nat.le_refl _)
  have HXA := checkTextN_any q x y w1 hT1.long
  rcases HK with ⟨hk, rfl⟩ | ⟨hk, A, S, rfl, hTr⟩
  · cases hg : growK l with
    | fine => exact absurd hg hk
    | long =>
      cases ht : textN q with
      | fine =>
        unfold EN.val
        unfold errV
        have HA := argN2_any .long .fine x y w1 hT1
        have HX := HXA
        rw [ht] at HX
        have HE := Lib.hid (lis_code (l := l) (q := q) (c := 2) (by rw [← arg_tt, hg, ht]; rfl) (by decide))
        clear HXA
        unfold EN.val at HX HA
        unfold errV at HX HA
        go_wp2_with fail
        refine HX.mono ?_
        rintro e w2 ⟨rfl, rfl⟩
        go_wp2_with fail
        refine HA.mono ?_
        rintro e w3 ⟨rfl, hb3⟩
        have c3 := hb1.trans (hb3.mono hb1.size)
        have hcode : enFrom [.long, .fine] 0 = 2 := rfl
        rw [hcode]
        go_wp2_with fail
        go_ret2
        exact lis_err HE.out (by decide) c3 (World.ownsRow_nil _ _ _ _)
      | long =>
        unfold EN.val
        unfold errV
        have HA := argN2_any .long .long x y w1 hT1
        have HX := HXA
        rw [ht] at HX
        have HE := Lib.hid (lis_code (l := l) (q := q) (c := 2) (by rw [← arg_tt, hg, ht]; rfl) (by decide))
        clear HXA
        unfold EN.val at HX HA
        unfold errV at HX HA
        go_wp2_with fail
        refine HX.mono ?_
        rintro e w2 ⟨rfl, rfl⟩
        go_wp2_with fail
        refine HA.mono ?_
        rintro e w3 ⟨rfl, hb3⟩
        have c3 := hb1.trans (hb3.mono hb1.size)
        have hcode : enFrom [.long, .long] 0 = 2 := rfl
        rw [hcode]
        go_wp2_with fail
        go_ret2
        exact lis_err HE.out (by decide) c3 (World.ownsRow_nil _ _ _ _)
      | inv => exact absurd ht textN_not
    | inv =>
      cases ht : textN q with
      | fine =>
        unfold EN.val
        unfold errV
        have HA := argN2_any .inv .fine x y w1 hT1
        have HX := HXA
        rw [ht] at HX
        have HE := Lib.hid (lis_code (l := l) (q := q) (c := 1) (by rw [← arg_tt, hg, ht]; rfl) (by decide))
        clear HXA
        unfold EN.val at HX HA
        unfold errV at HX HA
        go_wp2_with fail
        refine HX.mono ?_
        rintro e w2 ⟨rfl, rfl⟩
        go_wp2_with fail
        refine HA.mono ?_
        rintro e w3 ⟨rfl, hb3⟩
        have c3 := hb1.trans (hb3.mono hb1.size)
        have hcode : enFrom [.inv, .fine] 0 = 1 := rfl
        rw [hcode]
        go_wp2_with fail
        go_ret2
        exact lis_err HE.out (by decide) c3 (World.ownsRow_nil _ _ _ _)
      | long =>
        unfold EN.val
        unfold errV
        have HA := argN2_any .inv .long x y w1 hT1
        have HX := HXA
        rw [ht] at HX
        have HE := Lib.hid (lis_code (l := l) (q := q) (c := 2) (by rw [← arg_tt, hg, ht]; rfl) (by decide))
        clear HXA
        unfold EN.val at HX HA
        unfold errV at HX HA
        go_wp2_with fail
        refine HX.mono ?_
        rintro e w2 ⟨rfl, rfl⟩
        go_wp2_with fail
        refine HA.mono ?_
        rintro e w3 ⟨rfl, hb3⟩
        have c3 := hb1.trans (hb3.mono hb1.size)
        have hcode : enFrom [.inv, .long] 0 = 2 := rfl
        rw [hcode]
        go_wp2_with fail
        go_ret2
        exact lis_err HE.out (by decide) c3 (World.ownsRow_nil _ _ _ _)
      | inv => exact absurd ht textN_not
  · have hg := hk
    unfold ptr
    cases ht : textN q with
    | long =>
      have HA := argN2_any .fine .long x y w1 hT1
      have HX := HXA
      rw [ht] at HX
      have HE := Lib.hid (lis_code (l := l) (q := q) (c := 2) (by rw [← arg_tt, hg, ht]; rfl) (by decide))
      clear HXA
      unfold EN.val at HX HA
      unfold errV at HX HA
      go_wp2_with fail
      refine HX.mono ?_
      rintro e w2 ⟨rfl, rfl⟩
      go_wp2_with fail
      refine HA.mono ?_
      rintro e w3 ⟨rfl, hb3⟩
      have c3 := hb1.trans (hb3.mono hb1.size)
      have hcode : enFrom [.fine, .long] 0 = 2 := rfl
      rw [hcode]
      go_wp2_with fail
      go_ret2
      exact lis_err HE.out (by decide) c3 (World.ownsRow_nil _ _ _ _)
    | inv => exact absurd ht textN_not
    | fine =>
      have H0 := Lib.hid (show codeTT l q = 0 by rw [← arg_tt, hg, ht]; rfl)
      have HA := argN2_any .fine .fine x y w1 hT1
      have HX := HXA
      rw [ht] at HX
      clear HXA
      unfold EN.val at HX HA
      unfold errV at HX HA
      go_wp2_with fail
      refine HX.mono ?_
      rintro e w2 ⟨rfl, rfl⟩
      go_wp2_with fail
      refine HA.mono ?_
      rintro e w3 ⟨rfl, hb3⟩
      have c3 := hb1.trans (hb3.mono hb1.size)
      have hTr3 := hTr.below hb3
      have hcode : enFrom [.fine, .fine] 0 = 0 := rfl
      rw [hcode]
      have HTR := Lib.hid (code_tree H0.out)
      have hl24 := HTR.out.len
      by_cases hq0 : q.size = 0
      · have HE := Lib.hid (lis_root H0.out hq0)
        have hqe : q = ByteArray.empty := ByteArray.ext (Array.eq_empty_of_size_eq_zero hq0)
        have HQ : Hid (rootR.p = q) := hqe.symm
        have he := isEmpty_true hq0
        clear hq0 hqe
        obtain ⟨_, k1, _, _, _, k5⟩ := (hTr3).cells root_mem
        obtain ⟨bA, bcap, hS, hbc, hbk⟩ := (hTr3).kid root_mem
        rw [hS] at k5
        have HB := Lib.hid hbk
        have HM : Hid (∀ i (hi : i < (kids l rootR.p).length), w3.cell? ⟨A (kids l rootR.p)[i].p, 0, none⟩ = some (.string (lastB (kids l rootR.p)[i].p))) := fun i hi => ((hTr3).cells (kid_mem (List.getElem_mem hi))).1
        have hkl : (kids l rootR.p).length ≤ 1000 := Nat.le_trans (List.length_filter_le _ _) (by omega)
        clear hbk hS
        generalize hK : kids l rootR.p = K at *
        rw [rootR_p] at k1 k5
        have hrk : rootR.k = 3 := rfl
        rw [hrk] at k1
        clear hrk
        go_wp2_with fail
        go_loopw [11, 50] (fun f i wr => ∃ (k : Nat) (M : List (List UInt8)), k ≤ K.length ∧ i = .int .i64 k ∧ Hid (M = partsL (K.take k)) ∧ wr.ownsRow w3.heap.size 9 1 f M.length (M.map strV) ∧ Below w3.heap.size w3 wr) (fun _ i _ => K.length - (intOf i).toNat)
        case atStart => exact ⟨0, [], by omega, rfl, rfl, World.ownsRow_nil _ _ _ _, Below.refl _ _⟩
        case round =>
          obtain ⟨k, M, hk2, rfl, HMM, hown, hbw⟩ := hrel
          by_cases hlt : k < K.length
          · obtain ⟨g, rfl, hg2, hcell⟩ := HB.out (by omega)
            have d1 := (hbw.cell (p := ⟨g, k, none⟩) hg2).trans (hcell k hlt)
            have hcA := HM.out k hlt
            have d2 := (hbw.cell (p := ⟨A K[k].p, 0, none⟩) (World.block_lt_of_cell? w3 _ hcA)).trans hcA
            unfold ptr at d1
            have hi1 : (k : Int) < (K.length : Int) := by omega
            have hi0 : (0 : Int) ≤ (k : Int) := by omega
            have hMl : M.length ≤ 1000 := by rw [HMM.out, partsL_len, List.length_take]; omega
            have HN : Hid (M ++ [(lastB K[k].p).data.toList] = partsL (K.take (k + 1))) := by
              show _ = _
              rw [List.take_add_one, List.getElem?_eq_getElem hlt]
              simp only [Option.toList]
              rw [partsL_snoc, ← HMM.out]
            obtain ⟨fA, fcap, rfl⟩ := own_form hown
            have hszw := hbw.size
            clear hcell hcA
            go_wp2_with (first
              | (at_builtin; refine wpList_append_own _ rfl _ _ 36 rfl w3.heap.size 9 i0 (.string ByteArray.empty) 1 16 Tryz.underlying36 hi hz0 hz1 hz2 rfl (by decide) _ _ _ rfl (hown.alloc _) ⟨wr.heap.size, 0, none⟩ 1 1 [.string (lastB K[k].p)] rfl rfl (cell_one_new _ _ _) (fun x hx => by simp at hx; subst hx; rfl) (by unfold maxLen; omega) (by omega) (by simp; omega) ?_; intro v' w9 hown' hgrow9 hnil9))
            exact ⟨⟨k + 1, _, by omega, by go_num, HN, own_snoc hown', (hbw.alloc hbw.size _).grown hgrow9 (hbw.alloc hbw.size _).size (fun j hj => (hown.lt j hj).1)⟩, by simp [intOf]; omega⟩
          · have HF : Hid (M = partsL K) := by show _ = _; rw [HMM.out, List.take_of_length_le (by omega)]
            obtain ⟨fA, fcap, rfl⟩ := own_form hown
            have HO : Hid (wr.ownsRow w3.heap.size 9 1 (.slice fA M.length fcap) (partsL (kids l q)).length ((partsL (kids l q)).map strV)) := by
              show World.ownsRow _ _ _ _ _ _ _
              rw [← HQ.out, hK, ← HF.out]
              exact hown
            clear hK hown
            go_wp2_with fail
            go_ret2
            exact lis_ok HE.out (c3.trans (hbw.mono c3.size)) HO.out c3.size
      · have hqp : 0 < q.size := by omega
        have he := isEmpty_false hqp
        have HR := resolvePath_any hTr3 HTR.out.is (by omega) q hqm
        unfold ptr resP at HR
        clear hq0
        cases hp : pathB q.data.toList with
        | false =>
          have HE := Lib.hid (lis_name H0.out hqp hp)
          rw [hp] at HR
          go_wp2_with fail
          refine HR.mono ?_
          rintro e w4 ⟨rfl, hb4⟩
          have c4 := c3.trans (hb4.mono c3.size)
          go_wp2_with fail
          go_ret2
          exact lis_err HE.out (by decide) c4 (World.ownsRow_nil _ _ _ _)
        | true =>
          rw [hp, if_pos rfl] at HR
          unfold resV at HR
          cases hra : recAt l q with
          | none =>
            obtain ⟨e1, e2⟩ := found_not hra
            have HE := Lib.hid (lis_none H0.out hqp hp e2)
            have H2 := Lib.hid e2
            have hd : ((findT l q).2 != 0) = true := by simpa using e2
            rw [if_neg e2] at HR
            clear e1 e2
            generalize (findT l q).2 = c at *
            go_wp2_with fail
            refine HR.mono ?_
            rintro e w4 ⟨rfl, hb4⟩
            have c4 := c3.trans (hb4.mono c3.size)
            go_wp2_with fail
            go_ret2
            exact lis_err HE.out H2.out c4 (World.ownsRow_nil _ _ _ _)
          | some r =>
            obtain ⟨e1, e2⟩ := found_here hra
            obtain ⟨hm, hrp⟩ := recAt_mem hra
            have HQ := Lib.hid hrp
            rw [e2, if_pos rfl] at HR
            clear e1 e2
            have hmr : r ∈ rootR :: l := List.mem_cons_of_mem _ hm
            by_cases h3 : r.k = 3
            · have HE := Lib.hid (lis_dir H0.out hqp hp hra h3)
              have hd : (r.k != 3) = false := by simpa using h3
              rw [← hrp] at HR
              clear h3 hrp
              go_wp2_with fail
              rw [HQ.out] at HR
              refine HR.mono ?_
              rintro e w4 ⟨rfl, hb4⟩
              have c4 := c3.trans (hb4.mono c3.size)
              have hTr4 := hTr3.below hb4
              rw [← HQ.out]
              obtain ⟨_, k1, _, _, _, k5⟩ := (hTr4).cells hmr
              obtain ⟨bA, bcap, hS, hbc, hbk⟩ := (hTr4).kid hmr
              rw [hS] at k5
              have HB := Lib.hid hbk
              have HM : Hid (∀ i (hi : i < (kids l r.p).length), w4.cell? ⟨A (kids l r.p)[i].p, 0, none⟩ = some (.string (lastB (kids l r.p)[i].p))) := fun i hi => ((hTr4).cells (kid_mem (List.getElem_mem hi))).1
              have hkl : (kids l r.p).length ≤ 1000 := Nat.le_trans (List.length_filter_le _ _) (by omega)
              clear hbk hS
              generalize hK : kids l r.p = K at *
              go_wp2_with fail
              go_loopw [11, 50] (fun f i wr => ∃ (k : Nat) (M : List (List UInt8)), k ≤ K.length ∧ i = .int .i64 k ∧ Hid (M = partsL (K.take k)) ∧ wr.ownsRow w4.heap.size 9 1 f M.length (M.map strV) ∧ Below w4.heap.size w4 wr) (fun _ i _ => K.length - (intOf i).toNat)
              case atStart => exact ⟨0, [], by omega, rfl, rfl, World.ownsRow_nil _ _ _ _, Below.refl _ _⟩
              case round =>
                obtain ⟨k, M, hk2, rfl, HMM, hown, hbw⟩ := hrel
                by_cases hlt : k < K.length
                · obtain ⟨g, rfl, hg2, hcell⟩ := HB.out (by omega)
                  have d1 := (hbw.cell (p := ⟨g, k, none⟩) hg2).trans (hcell k hlt)
                  have hcA := HM.out k hlt
                  have d2 := (hbw.cell (p := ⟨A K[k].p, 0, none⟩) (World.block_lt_of_cell? w4 _ hcA)).trans hcA
                  unfold ptr at d1
                  have hi1 : (k : Int) < (K.length : Int) := by omega
                  have hi0 : (0 : Int) ≤ (k : Int) := by omega
                  have hMl : M.length ≤ 1000 := by rw [HMM.out, partsL_len, List.length_take]; omega
                  have HN : Hid (M ++ [(lastB K[k].p).data.toList] = partsL (K.take (k + 1))) := by
                    show _ = _
                    rw [List.take_add_one, List.getElem?_eq_getElem hlt]
                    simp only [Option.toList]
                    rw [partsL_snoc, ← HMM.out]
                  obtain ⟨fA, fcap, rfl⟩ := own_form hown
                  have hszw := hbw.size
                  clear hcell hcA
                  go_wp2_with (first
                    | (at_builtin; refine wpList_append_own _ rfl _ _ 36 rfl w4.heap.size 9 i0 (.string ByteArray.empty) 1 16 Tryz.underlying36 hi hz0 hz1 hz2 rfl (by decide) _ _ _ rfl (hown.alloc _) ⟨wr.heap.size, 0, none⟩ 1 1 [.string (lastB K[k].p)] rfl rfl (cell_one_new _ _ _) (fun x hx => by simp at hx; subst hx; rfl) (by unfold maxLen; omega) (by omega) (by simp; omega) ?_; intro v' w9 hown' hgrow9 hnil9))
                  exact ⟨⟨k + 1, _, by omega, by go_num, HN, own_snoc hown', (hbw.alloc hbw.size _).grown hgrow9 (hbw.alloc hbw.size _).size (fun j hj => (hown.lt j hj).1)⟩, by simp [intOf]; omega⟩
                · have HF : Hid (M = partsL K) := by show _ = _; rw [HMM.out, List.take_of_length_le (by omega)]
                  obtain ⟨fA, fcap, rfl⟩ := own_form hown
                  have HO : Hid (wr.ownsRow w4.heap.size 9 1 (.slice fA M.length fcap) (partsL (kids l q)).length ((partsL (kids l q)).map strV)) := by
                    show World.ownsRow _ _ _ _ _ _ _
                    rw [← HQ.out, hK, ← HF.out]
                    exact hown
                  clear hK hown
                  go_wp2_with fail
                  go_ret2
                  exact lis_ok HE.out (c4.trans (hbw.mono c4.size)) HO.out c4.size
            · have HE := Lib.hid (lis_file H0.out hqp hp hra h3)
              have hd : (r.k != 3) = true := by simpa using h3
              clear h3
              go_wp2_with fail
              refine HR.mono ?_
              rintro e w4 ⟨rfl, hb4⟩
              have c4 := c3.trans (hb4.mono c3.size)
              obtain ⟨_, k1, _⟩ := (hTr3.below hb4).cells hmr
              rw [hrp] at k1
              go_wp2_with fail
              go_ret2
              exact lis_err HE.out (by decide) c4 (World.ownsRow_nil _ _ _ _)
end Go.Proofs.YtjiljnfiofmpaaaGreatDoor.Recs

/- For laws whose answer is a slice: rows apart from each other, kept, low; two equal rows of strings. -/

namespace Go.Proofs.YtjiljnfiofmpaaaGreatDoor.Recs
set_option maxRecDepth 100000
open Go.RowKit Paths

theorem keptN {w w' : World} {base : Nat} {v : Value} {n : Nat} {M : List R} {row : Option Nat} (h : RowN w base v n M) (hg : w.grownBy w' row) (hne : v.ownBlock = none ∨ v.ownBlock ≠ row) : RowN w' base v n M := ⟨h.1, h.2.1.kept hg hne, h.2.2⟩
theorem keptR {w w' : World} {base : Nat} {v : Value} {n : Nat} {M : List R} {row : Option Nat} (h : RowOf w base v n M) (hg : w.grownBy w' row) (hne : v.ownBlock = none ∨ v.ownBlock ≠ row) : RowOf w' base v n M := ⟨h.1, h.2.kept hg hne⟩
/-- Two rows, the second made behind the first. -/
theorem apart2 {w w' : World} {b1 : Nat} {e e' : TypeId} {s s' : Nat} {v1 v2 : Value} {n m : Nat} {xs ys : List Value} (h : w.ownsRow b1 e s v1 n xs) (k : w'.ownsRow w.heap.size e' s' v2 m ys) : (v1.ownBlock = none ∨ v1.ownBlock ≠ v2.ownBlock) ∧ (v2.ownBlock = none ∨ v2.ownBlock ≠ v1.ownBlock) := by
  have key : ∀ j, v1.ownBlock = some j → v2.ownBlock = some j → False := fun j h1 h2 => by
    have a := (h.lt j h1).2
    have b := (k.lt j h2).1
    omega
  constructor
  · cases h1 : v1.ownBlock with
    | none => exact .inl rfl
    | some j => exact .inr fun e => key j h1 e.symm
  · cases h2 : v2.ownBlock with
    | none => exact .inl rfl
    | some j => exact .inr fun e => key j e.symm h2
theorem lowO {w : World} {base b : Nat} {e : TypeId} {s : Nat} {v : Value} {n : Nat} {xs : List Value} (h : w.ownsRow base e s v n xs) (hb : b ≤ base) : ∀ k, v.ownBlock = some k → b ≤ k := fun k hk => Nat.le_trans hb (h.lt k hk).1
end Go.Proofs.YtjiljnfiofmpaaaGreatDoor.Recs
