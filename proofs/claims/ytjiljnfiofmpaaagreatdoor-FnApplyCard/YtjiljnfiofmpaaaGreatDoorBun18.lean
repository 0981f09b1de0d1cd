/- Several texts of mine in one file (each begins with its own remark). -/
import Derived.Test.YtjiljnfiofmpaaaGreatDoorBun16
import Derived.Test.YtjiljnfiofmpaaaGreatDoorBun17
import Derived.Test.YtjiljnfiofmpaaaGreatDoorBun2
/- Trees: RemoveNode, of the program and of its model. Conditions (of the program's): the table of kinds, the two sentinels. -/

namespace Go.Proofs.YtjiljnfiofmpaaaGreatDoor.Recs
set_option maxRecDepth 100000
open Go.RowKit Paths Errs

theorem without_step {l : List R} {k : Nat} (hk : k < l.length) (q : ByteArray) (s : Bool) : withoutL (l.take (k + 1)) q s = if (!isUp q l[k].p && !(s && decide (l[k].p = q))) = true then withoutL (l.take k) q s ++ [l[k]] else withoutL (l.take k) q s := by
  unfold withoutL
  rw [List.take_add_one, List.getElem?_eq_getElem hk, List.filter_append]
  simp only [Option.toList]
  cases hb : (!isUp q l[k].p && !(s && decide (l[k].p = q))) with
  | true =>
    rw [if_pos rfl, List.filter_cons_of_pos (p := fun x : R => !isUp q x.p && !(s && decide (x.p = q))) hb]
    rfl
  | false =>
    rw [if_neg (by decide), List.filter_cons_of_neg (p := fun x : R => !isUp q x.p && !(s && decide (x.p = q))) (by rw [hb]; decide)]
    simp
theorem without_len (l : List R) (q : ByteArray) (s : Bool) : (withoutL l q s).length ≤ l.length := List.length_filter_le _ _

set_option maxHeartbeats 3200000 in
theorem l04Without_any (v : Value) (l : List R) (q : ByteArray) (s : Bool) (w : World) (h : NodSl w v l) (hl : l.length ≤ 1000) (ht : ∀ r ∈ l, pathB r.p.data.toList = true) (hq : pathB q.data.toList = true) :
    Calls Tryz.prog 81 #[v, .string q, .bool s] w fun e w' => ∃ x, e = .returned x ∧ Below w.heap.size w w' ∧ RowN w' w.heap.size x (withoutL l q s).length (withoutL l q s) ∧ x ≠ .slice none 0 0 := by
  obtain ⟨i0, hi, hI0, hI1, hI2⟩ := info_parts nodInfo
  obtain ⟨ho, sA, cap, rfl, hcap, h⟩ := h
  have H := Lib.hid h
  have HT := Lib.hid ht
  have HO := Lib.hid ho
  have hqs : q.size ≤ 35 := by rw [Lib.size_eq]; exact pathB_len hq
  have hqp : 0 < q.size := by rw [Lib.size_eq]; exact List.length_pos_iff.2 (pathB_ne hq)
  have hb0 : Below w.heap.size w (w.alloc (.cells #[] 29)) := (Below.refl _ _).alloc (Nat.le_refl _) _
  have hown0 : (w.alloc (.cells #[] 29)).ownsRow w.heap.size 29 4 (.slice (some ⟨w.heap.size, 0, none⟩) 0 0) 0 [] := World.ownsRow_lit w #[] 0 (Nat.le_refl _) (Nat.zero_le _) rfl
  clear h ht ho
  go_enter Tryz.func81, Tryz.ntmps81
  go_wp2
  go_loopw [7, 8] (fun f i wr => ∃ (k : Nat) (M : List R), k ≤ l.length ∧ i = .int .i64 k ∧ Hid (M = withoutL (l.take k) q s) ∧ RowN wr w.heap.size f M.length M ∧ Hid (f ≠ .slice none 0 0) ∧ Below w.heap.size w wr) (fun _ i _ => l.length - (intOf i).toNat)
  case atStart => exact ⟨0, [], by omega, rfl, rfl, ⟨rfl, hown0, fun r hr => by cases hr⟩, (fun e => by cases e), hb0⟩
  case round =>
    obtain ⟨k, M, hk, rfl, HM, hrow, HNN, hbw⟩ := hrel
    by_cases hlt : k < l.length
    · obtain ⟨b, off, rfl, hb, hcell⟩ := H.out (by omega)
      obtain ⟨c0, c1, c2, c3⟩ := (hcell k l[k] (by simp [hlt])).below hbw hb
      clear hcell
      have hi1 : (k : Int) < (l.length : Int) := by omega
      have hi0 : (0 : Int) ≤ (k : Int) := by omega
      have hp := HT.out _ (List.getElem_mem hlt)
      have hko := HO.out _ (List.getElem_mem hlt)
      have hs : l[k].p.size ≤ 35 := by rw [Lib.size_eq]; exact pathB_len hp
      have HBL := l01Below_two l[k].p q wr hqp (by omega) (by omega)
      rw [← isUp_below hp] at HBL
      have HST := Lib.hid (without_step hlt q s)
      have hMl : M.length ≤ 1000 := by
        rw [HM.out]
        exact Nat.le_trans (without_len _ _ _) (by rw [List.length_take]; omega)
      obtain ⟨fA, fcap, rfl⟩ := own_form hrow.2.1
      have hr3 : (wr.alloc (.cells #[.int .i64 l[k].k, .string l[k].p, .string l[k].b, .int .i64 l[k].m] 29)).ownsRow w.heap.size 29 4 (.slice fA M.length fcap) M.length (flatN M) := hrow.2.1.alloc _
      have hnews := nodR_cells_new wr l[k] 29
      have hone := nodR_one l[k]
      have hbz : w.heap.size ≤ (wr.alloc (.cells #[.int .i64 l[k].k, .string l[k].p, .string l[k].b, .int .i64 l[k].m] 29)).heap.size := (hbw.alloc hbw.size _).size
      have HROW := Lib.hid hrow
      cases hu : isUp q l[k].p with
      | true =>
        have HN : Hid (M = withoutL (l.take (k + 1)) q s) := by show _ = _; rw [HST.out, hu, if_neg (by simp), ← HM.out]
        rw [hu] at HBL
        go_wp2_with fail
        refine HBL.mono ?_
        rintro e w2 ⟨rfl, rfl⟩
        go_wp2_with fail
        exact ⟨⟨k + 1, M, by omega, by go_num, HN, HROW.out, HNN, hbw⟩, by simp [intOf]; omega⟩
      | false =>
        rw [hu] at HBL
        cases s with
        | false =>
          have HN : Hid (M ++ [l[k]] = withoutL (l.take (k + 1)) q false) := by show _ = _; rw [HST.out, hu, if_pos (by simp), ← HM.out]
          clear hrow
          go_wp2_with fail
          refine HBL.mono ?_
          rintro e w2 ⟨rfl, rfl⟩
          go_wp2_with (first
            | (at_builtin; refine wpList_append_own _ rfl _ _ 23 rfl w.heap.size 29 i0 (.agg #[.int .i64 0, .string ByteArray.empty, .string ByteArray.empty, .int .i64 0]) 4 48 Tryz.underlying23 hi hI0 hI1 hI2 rfl (by decide) _ _ _ rfl hr3 ⟨wr.heap.size, 0, none⟩ 1 1 (R.ns l[k]) rfl rfl hnews hone (by unfold maxLen; omega) (by omega) hbz ?_; intro v' w9 hown' hgrow9 hnil9; skip))
          exact ⟨⟨k + 1, M ++ [l[k]], by omega, by go_num, HN, rowN_snoc hown' HROW.out.2.2 hko, (fun e => by have := (hnil9.1 e).2; omega), (hbw.alloc hbw.size _).grown hgrow9 hbz (fun j hj => (HROW.out.2.1.lt j hj).1)⟩, by simp [intOf]; omega⟩
        | true =>
          by_cases he : l[k].p = q
          · have HN : Hid (M = withoutL (l.take (k + 1)) q true) := by show _ = _; rw [HST.out, hu, if_neg (by simp [he]), ← HM.out]
            have hd : (l[k].p.toList != q.toList) = false := by rw [he]; simp
            have hd2 : (l[k].p.toList == q.toList) = true := by rw [he]; simp
            clear he
            go_wp2_with fail
            refine HBL.mono ?_
            rintro e w2 ⟨rfl, rfl⟩
            go_wp2_with fail
            exact ⟨⟨k + 1, M, by omega, by go_num, HN, HROW.out, HNN, hbw⟩, by simp [intOf]; omega⟩
          · have HN : Hid (M ++ [l[k]] = withoutL (l.take (k + 1)) q true) := by show _ = _; rw [HST.out, hu, if_pos (by simp [he]), ← HM.out]
            have hd2 : (l[k].p.toList == q.toList) = false := by rw [str_eq_dec, decide_eq_false he]
            have hd : (l[k].p.toList != q.toList) = true := by rw [bne, hd2]; rfl
            clear he hrow
            go_wp2_with fail
            refine HBL.mono ?_
            rintro e w2 ⟨rfl, rfl⟩
            go_wp2_with (first
              | (at_builtin; refine wpList_append_own _ rfl _ _ 23 rfl w.heap.size 29 i0 (.agg #[.int .i64 0, .string ByteArray.empty, .string ByteArray.empty, .int .i64 0]) 4 48 Tryz.underlying23 hi hI0 hI1 hI2 rfl (by decide) _ _ _ rfl hr3 ⟨wr.heap.size, 0, none⟩ 1 1 (R.ns l[k]) rfl rfl hnews hone (by unfold maxLen; omega) (by omega) hbz ?_; intro v' w9 hown' hgrow9 hnil9; skip))
            exact ⟨⟨k + 1, M ++ [l[k]], by omega, by go_num, HN, rowN_snoc hown' HROW.out.2.2 hko, (fun e => by have := (hnil9.1 e).2; omega), (hbw.alloc hbw.size _).grown hgrow9 hbz (fun j hj => (HROW.out.2.1.lt j hj).1)⟩, by simp [intOf]; omega⟩
    · have HF : Hid (M = withoutL l q s) := by show _ = _; rw [HM.out, List.take_of_length_le (by omega)]
      have HROW := Lib.hid hrow
      obtain ⟨fA, fcap, rfl⟩ := own_form hrow.2.1
      clear hrow
      go_wp2_with fail
      go_ret
      exact ⟨_, rfl, hbw, by rw [← HF.out]; exact HROW.out, HNN.out⟩

def rmC (l : List R) (q : ByteArray) : Int := if codeTT l q ≠ 0 then codeTT l q else remC l q
def remR (l : List R) (q : ByteArray) : List R := if codeTT l q ≠ 0 then [] else if remC l q = 0 then withoutL l q true else l
def RmPost (l : List R) (q : ByteArray) (w : World) (e : Ending) (w' : World) : Prop :=
  ∃ x, e = .returned (.tuple #[x, .int .i64 (rmC l q)]) ∧ Below w.heap.size w w' ∧ RowN w' w.heap.size x (remR l q).length (remR l q)
theorem rem_len (l : List R) (q : ByteArray) (hl : l.length ≤ 1048576) : (remR l q).length ≤ 1048576 := by
  unfold remR
  split
  · simp
  · split
    · exact Nat.le_trans (without_len _ _ _) hl
    · exact hl
theorem rm_err {l : List R} {q : ByteArray} {c : Int} (h : codeTT l q = c) (hc : c ≠ 0) {w w' : World} {x : Value} (hb : Below w.heap.size w w') (ho : w'.ownsRow w.heap.size 29 4 x 0 []) : RmPost l q w (.returned (.tuple #[x, .int .i64 c])) w' := by
  have e1 : rmC l q = c := by unfold rmC; rw [h, if_pos hc]
  have e2 : remR l q = [] := by unfold remR; rw [h, if_pos hc]
  refine ⟨x, by rw [e1], hb, ?_⟩
  rw [e2]
  exact ⟨rfl, ho, fun r hr => by cases hr⟩
theorem rm_stay {l : List R} {q : ByteArray} {c : Int} (h : codeTT l q = 0) (hr : remC l q = c) (hc : c ≠ 0) (hlo : ∀ r ∈ l, r.o = false) {w w' : World} {base : Nat} {x : Value} (hb : Below w.heap.size w w') (ho : w'.ownsRow base 29 4 x l.length (flatN l)) (hle : w.heap.size ≤ base) : RmPost l q w (.returned (.tuple #[x, .int .i64 c])) w' := by
  have e1 : rmC l q = c := by unfold rmC; rw [if_neg (by simpa using h), hr]
  have e2 : remR l q = l := by unfold remR; rw [if_neg (by simpa using h), if_neg (by rw [hr]; exact hc)]
  refine ⟨x, by rw [e1], hb, ?_⟩
  rw [e2]
  exact ⟨rfl, own_down ho hle, hlo⟩
theorem rm_stay_at {l : List R} {q : ByteArray} {c : Int} (h : codeTT l q = 0) (hr : remC l q = c) (hc : c ≠ 0) (hlo : ∀ r ∈ l, r.o = false) {w w' : World} {x : Value} (hb : Below w.heap.size w w') (ho : w'.ownsRow w.heap.size 29 4 x l.length (flatN l)) : RmPost l q w (.returned (.tuple #[x, .int .i64 c])) w' := rm_stay h hr hc hlo hb ho (Nat.le_refl _)
theorem rm_done {l : List R} {q : ByteArray} (h : codeTT l q = 0) (hr : remC l q = 0) {w w' : World} {base : Nat} {x : Value} (hb : Below w.heap.size w w') (ho : RowN w' base x (withoutL l q true).length (withoutL l q true)) (hle : w.heap.size ≤ base) : RmPost l q w (.returned (.tuple #[x, .int .i64 0])) w' := by
  have e1 : rmC l q = 0 := by unfold rmC; rw [if_neg (by simpa using h), hr]
  have e2 : remR l q = withoutL l q true := by unfold remR; rw [if_neg (by simpa using h), if_pos hr]
  refine ⟨x, by rw [e1], hb, ?_⟩
  rw [e2]
  exact ⟨ho.1, own_down ho.2.1 hle, ho.2.2⟩
theorem remC_name {l : List R} {q : ByteArray} (h : pathB q.data.toList = false) : remC l q = 10 := by unfold remC; rw [h]; rfl
theorem remC_find {l : List R} {q : ByteArray} (h : pathB q.data.toList = true) : remC l q = (findT l q).2 := by unfold remC; rw [h, if_pos rfl]

set_option maxHeartbeats 3200000 in
theorem removeNode_spec (v : Value) (l : List R) (q : ByteArray) (base : Nat) (w : World) (hrow : RowN w base v l.length l) (hv : v ≠ .slice none 0 0) (hl : l.length ≤ 1048576) :
    Calls Tryz.prog 23 #[v, .string q] w (RmPost l q w) := by
  obtain ⟨i0, hi, hI0, hI1, hI2⟩ := info_parts nodInfo
  have hsl := hrow.sl
  have HC := l04Ask_any v l q w hsl hl
  obtain ⟨g, cap, rfl, hcap, hcm, hgb, hgl⟩ := notnil hrow hv
  have HLO := Lib.hid hrow.2.2
  clear hv
  by_cases h4 : 4096 < l.length
  · have HE := Lib.hid (show codeTT l q = 2 by unfold codeTT; rw [if_pos (.inl h4)])
    have hd : decide ((4096 : Int) < (l.length : Int)) = true := by simp; omega
    have c0 := Below.refl w.heap.size w
    go_enter Tryz.func23, Tryz.ntmps23
    have hE : (w.alloc (.cells #[] 29)).ownsRow w.heap.size 29 4 (.slice (some ⟨w.heap.size, 0, none⟩) 0 0) 0 [] := World.ownsRow_lit w #[] 0 c0.size (Nat.zero_le _) rfl
    have cE : Below w.heap.size w (w.alloc (.cells #[] 29)) := c0.alloc c0.size _
    go_wp2_with fail
    go_ret2
    exact rm_err HE.out (by decide) cE hE
  have hd4 : decide ((4096 : Int) < (l.length : Int)) = false := by simp; omega
  by_cases h5 : 65536 < q.size
  · have HE := Lib.hid (show codeTT l q = 2 by unfold codeTT; rw [if_pos (.inr h5)])
    have hd : decide ((65536 : Int) < (q.size : Int)) = true := by simp; omega
    have c0 := Below.refl w.heap.size w
    go_enter Tryz.func23, Tryz.ntmps23
    have hE : (w.alloc (.cells #[] 29)).ownsRow w.heap.size 29 4 (.slice (some ⟨w.heap.size, 0, none⟩) 0 0) 0 [] := World.ownsRow_lit w #[] 0 c0.size (Nat.zero_le _) rfl
    have cE : Below w.heap.size w (w.alloc (.cells #[] 29)) := c0.alloc c0.size _
    go_wp2_with fail
    go_ret2
    exact rm_err HE.out (by decide) cE hE
  have hd5 : decide ((65536 : Int) < (q.size : Int)) = false := by simp; omega
  go_enter Tryz.func23, Tryz.ntmps23
  go_wp2_with fail
  refine HC.mono ?_
  rintro e w1 ⟨rfl, hb1⟩
  by_cases h0 : codeTT l q = 0
  case neg =>
    have hd : (codeTT l q != 0) = true := by simpa using h0
    generalize hcc : codeTT l q = c at *
    have HE := Lib.hid hcc
    have H0 := Lib.hid h0
    clear h0 hcc
    have hE : (w1.alloc (.cells #[] 29)).ownsRow w.heap.size 29 4 (.slice (some ⟨w1.heap.size, 0, none⟩) 0 0) 0 [] := World.ownsRow_lit w1 #[] 0 hb1.size (Nat.zero_le _) rfl
    have cE : Below w.heap.size w (w1.alloc (.cells #[] 29)) := hb1.alloc hb1.size _
    go_wp2_with fail
    go_ret2
    exact rm_err HE.out H0.out cE hE
  have HT := Lib.hid (code_tree h0)
  have hlen := HT.out.len
  have H0 := Lib.hid h0
  have HP := l01OK_any q w1
  rw [h0]
  clear h0
  cases hp : pathB q.data.toList with
  | false =>
    have HE := Lib.hid (remC_name (l := l) hp)
    rw [hp] at HP
    go_wp2_with fail
    refine HP.mono ?_
    rintro e w2 ⟨rfl, hb2⟩
    have c2 := hb1.trans (hb2.mono hb1.size)
    have hr2 := hrow.below c2
    have hE : (w2.alloc (.cells #[] 29)).ownsRow w.heap.size 29 4 (.slice (some ⟨w2.heap.size, 0, none⟩) 0 0) 0 [] := World.ownsRow_lit w2 #[] 0 c2.size (Nat.zero_le _) rfl
    have cE : Below w.heap.size w (w2.alloc (.cells #[] 29)) := c2.alloc c2.size _
    have hsrc := src_cells (hr2.below ((Below.refl w2.heap.size w2).alloc (Nat.le_refl _) (.cells #[] 29))) 0 l (.inl rfl)
    have hfl := flatN_len l
    have hone := flatN_one l
    have hbz := cE.size
    rw [Nat.zero_mul] at hsrc
    go_wp2_with (first
      | (at_builtin; refine wpList_append_own _ rfl _ _ 23 rfl w.heap.size 29 i0 (.agg #[.int .i64 0, .string ByteArray.empty, .string ByteArray.empty, .int .i64 0]) 4 48 Tryz.underlying23 hi hI0 hI1 hI2 rfl (by decide) _ _ _ rfl hE ⟨g, 0, none⟩ l.length cap (flatN l) rfl hfl hsrc hone (by unfold maxLen; omega) (by omega) hbz ?_; intro v' w9 hown' hgrow9 hnil9; rw [Nat.zero_add, List.nil_append] at hown'; have HPO := Lib.hid (rm_stay_at H0.out HE.out (by decide) HLO.out (cE.grown hgrow9 hbz (fun j hj => (hE.lt j hj).1)) hown'); obtain ⟨vA, vc, rfl⟩ := own_form hown'; clear hown' hgrow9 hnil9))
    go_ret2
    exact HPO.out
  | true =>
    have HRC := Lib.hid (remC_find (l := l) hp)
    rw [hp] at HP
    go_wp2_with fail
    refine HP.mono ?_
    rintro e w2 ⟨rfl, hb2⟩
    have c2 := hb1.trans (hb2.mono hb1.size)
    have HFI := l04Find_any _ l q w2 (hsl.below c2) hl HT.out.is hp
    unfold foundV R.nod at HFI
    generalize hF : findT l q = F at *
    go_wp2_with fail
    refine HFI.mono ?_
    rintro e w3 ⟨rfl, hb3⟩
    have c3 := c2.trans (hb3.mono c2.size)
    have c4 : Below w.heap.size w (w3.alloc (.cells #[.int .i64 F.1.k, .string F.1.p, .string F.1.b, .int .i64 F.1.m] 29)) := c3.alloc c3.size _
    have hsz4 : (w3.alloc (.cells #[.int .i64 F.1.k, .string F.1.p, .string F.1.b, .int .i64 F.1.m] 29)).heap.size = w3.heap.size + 1 := by simp
    have hr4 := hrow.below c4
    by_cases h2 : F.2 = 0
    · have HE : Hid (remC l q = 0) := by show _ = _; rw [HRC.out, h2]
      have hd : (F.2 != 0) = false := by simpa using h2
      have HWI := l04Without_any _ l q true _ hr4.sl (by omega) HT.out.is.path hp
      clear h2
      go_wp2_with fail
      refine HWI.mono ?_
      rintro e w5 ⟨x, rfl, hb5, hr5, -⟩
      have HR := Lib.hid hr5
      obtain ⟨xA, xc, rfl⟩ := own_form hr5.2.1
      clear hr5
      go_wp2_with fail
      go_ret2
      exact rm_done H0.out HE.out (c4.trans (hb5.mono c4.size)) HR.out c4.size
    · have HE := HRC
      have H2 := Lib.hid h2
      have hd : (F.2 != 0) = true := by simpa using h2
      clear h2 hsz4
      have hE : ((w3.alloc (.cells #[.int .i64 F.1.k, .string F.1.p, .string F.1.b, .int .i64 F.1.m] 29)).alloc (.cells #[] 29)).ownsRow w.heap.size 29 4 (.slice (some ⟨w3.heap.size + 1, 0, none⟩) 0 0) 0 [] := by have := World.ownsRow_lit (w3.alloc (.cells #[.int .i64 F.1.k, .string F.1.p, .string F.1.b, .int .i64 F.1.m] 29)) (e := 29) (size := 4) (base := w.heap.size) #[] 0 c4.size (Nat.zero_le _) rfl; rw [World.size_alloc] at this; exact this
      have cE : Below w.heap.size w ((w3.alloc (.cells #[.int .i64 F.1.k, .string F.1.p, .string F.1.b, .int .i64 F.1.m] 29)).alloc (.cells #[] 29)) := c4.alloc c4.size _
      have hsrc := src_cells (hr4.below ((Below.refl (w3.alloc (.cells #[.int .i64 F.1.k, .string F.1.p, .string F.1.b, .int .i64 F.1.m] 29)).heap.size (w3.alloc (.cells #[.int .i64 F.1.k, .string F.1.p, .string F.1.b, .int .i64 F.1.m] 29))).alloc (Nat.le_refl _) (.cells #[] 29))) 0 l (.inl rfl)
      have hfl := flatN_len l
      have hone := flatN_one l
      have hbz := cE.size
      rw [Nat.zero_mul] at hsrc
      go_wp2_with (first
        | (at_builtin; refine wpList_append_own _ rfl _ _ 23 rfl w.heap.size 29 i0 (.agg #[.int .i64 0, .string ByteArray.empty, .string ByteArray.empty, .int .i64 0]) 4 48 Tryz.underlying23 hi hI0 hI1 hI2 rfl (by decide) _ _ _ rfl hE ⟨g, 0, none⟩ l.length cap (flatN l) rfl hfl hsrc hone (by unfold maxLen; omega) (by omega) hbz ?_; intro v' w9 hown' hgrow9 hnil9; rw [Nat.zero_add, List.nil_append] at hown'; have HPO := Lib.hid (rm_stay_at H0.out HE.out H2.out HLO.out (cE.grown hgrow9 hbz (fun j hj => (hE.lt j hj).1)) hown'); obtain ⟨vA, vc, rfl⟩ := own_form hown'; clear hown' hgrow9 hnil9))
      go_ret2
      exact HPO.out

set_option maxHeartbeats 3200000 in
theorem removeNode_impl (v : Value) (l : List R) (q : ByteArray) (x y : Addr) (w : World) (h : NodSl w v l) (hl : l.length ≤ 1048576) (hr : ∀ r ∈ l, r.p.size ≤ maxLen) (hqm : q.size ≤ maxLen) (hT : Three w x y) :
    Calls Tryz.prog 22 #[v, .string q] w (RmPost l q w) := by
  have HG := growTree_any v l x y w h hl hr hT
  obtain ⟨ho, sA, cap, rfl, hcap, h⟩ := h
  clear h
  go_enter Tryz.func22, Tryz.ntmps22
  go_wp2_with fail
  refine HG.mono ?_
  rintro e w1 ⟨hb1, HK⟩
  have hT1 := hT.below hb1 (Nat.le_refl _)
  have HXA := checkTextN_any q x y w1 hT1.long
  rcases HK with ⟨hk, rfl⟩ | ⟨hk, A, S, rfl, hTr⟩
  · cases hg : growK l with
    | fine => exact absurd hg hk
    | long =>
      cases ht : textN q with
      | fine =>
        unfold EN.val
        unfold errV
        have HA := argN2_any .long .fine x y w1 hT1
        have HX := HXA
        rw [ht] at HX
        have HE : Hid (codeTT l q = 2) := by show _ = _; rw [← arg_tt, hg, ht]; rfl
        clear HXA
        unfold EN.val at HX HA
        unfold errV at HX HA
        go_wp2_with fail
        refine HX.mono ?_
        rintro e w2 ⟨rfl, rfl⟩
        go_wp2_with fail
        refine HA.mono ?_
        rintro e w3 ⟨rfl, hb3⟩
        have c3 := hb1.trans (hb3.mono hb1.size)
        have hcode : enFrom [.long, .fine] 0 = 2 := rfl
        rw [hcode]
        go_wp2_with fail
        go_ret2
        exact rm_err HE.out (by decide) c3 (World.ownsRow_nil _ _ _ _)
      | long =>
        unfold EN.val
        unfold errV
        have HA := argN2_any .long .long x y w1 hT1
        have HX := HXA
        rw [ht] at HX
        have HE : Hid (codeTT l q = 2) := by show _ = _; rw [← arg_tt, hg, ht]; rfl
        clear HXA
        unfold EN.val at HX HA
        unfold errV at HX HA
        go_wp2_with fail
        refine HX.mono ?_
        rintro e w2 ⟨rfl, rfl⟩
        go_wp2_with fail
        refine HA.mono ?_
        rintro e w3 ⟨rfl, hb3⟩
        have c3 := hb1.trans (hb3.mono hb1.size)
        have hcode : enFrom [.long, .long] 0 = 2 := rfl
        rw [hcode]
        go_wp2_with fail
        go_ret2
        exact rm_err HE.out (by decide) c3 (World.ownsRow_nil _ _ _ _)
      | inv => exact absurd ht textN_not
    | inv =>
      cases ht : textN q with
      | fine =>
        unfold EN.val
        unfold errV
        have HA := argN2_any .inv .fine x y w1 hT1
        have HX := HXA
        rw [ht] at HX
        have HE : Hid (codeTT l q = 1) := by show _ = _; rw [← arg_tt, hg, ht]; rfl
        clear HXA
        unfold EN.val at HX HA
        unfold errV at HX HA
        go_wp2_with fail
        refine HX.mono ?_
        rintro e w2 ⟨rfl, rfl⟩
        go_wp2_with fail
        refine HA.mono ?_
        rintro e w3 ⟨rfl, hb3⟩
        have c3 := hb1.trans (hb3.mono hb1.size)
        have hcode : enFrom [.inv, .fine] 0 = 1 := rfl
        rw [hcode]
        go_wp2_with fail
        go_ret2
        exact rm_err HE.out (by decide) c3 (World.ownsRow_nil _ _ _ _)
      | long =>
        unfold EN.val
        unfold errV
        have HA := argN2_any .inv .long x y w1 hT1
        have HX := HXA
        rw [ht] at HX
        have HE : Hid (codeTT l q = 2) := by show _ = _; rw [← arg_tt, hg, ht]; rfl
        clear HXA
        unfold EN.val at HX HA
        unfold errV at HX HA
        go_wp2_with fail
        refine HX.mono ?_
        rintro e w2 ⟨rfl, rfl⟩
        go_wp2_with fail
        refine HA.mono ?_
        rintro e w3 ⟨rfl, hb3⟩
        have c3 := hb1.trans (hb3.mono hb1.size)
        have hcode : enFrom [.inv, .long] 0 = 2 := rfl
        rw [hcode]
        go_wp2_with fail
        go_ret2
        exact rm_err HE.out (by decide) c3 (World.ownsRow_nil _ _ _ _)
      | inv => exact absurd ht textN_not
  · have hg := hk
    unfold ptr
    cases ht : textN q with
    | long =>
      have HA := argN2_any .fine .long x y w1 hT1
      have HX := HXA
      rw [ht] at HX
      have HE : Hid (codeTT l q = 2) := by show _ = _; rw [← arg_tt, hg, ht]; rfl
      clear HXA
      unfold EN.val at HX HA
      unfold errV at HX HA
      go_wp2_with fail
      refine HX.mono ?_
      rintro e w2 ⟨rfl, rfl⟩
      go_wp2_with fail
      refine HA.mono ?_
      rintro e w3 ⟨rfl, hb3⟩
      have c3 := hb1.trans (hb3.mono hb1.size)
      have hcode : enFrom [.fine, .long] 0 = 2 := rfl
      rw [hcode]
      go_wp2_with fail
      go_ret2
      exact rm_err HE.out (by decide) c3 (World.ownsRow_nil _ _ _ _)
    | inv => exact absurd ht textN_not
    | fine =>
      have H0 := Lib.hid (show codeTT l q = 0 by rw [← arg_tt, hg, ht]; rfl)
      have HA := argN2_any .fine .fine x y w1 hT1
      have HX := HXA
      rw [ht] at HX
      clear HXA
      unfold EN.val at HX HA
      unfold errV at HX HA
      go_wp2_with fail
      refine HX.mono ?_
      rintro e w2 ⟨rfl, rfl⟩
      go_wp2_with fail
      refine HA.mono ?_
      rintro e w3 ⟨rfl, hb3⟩
      have c3 := hb1.trans (hb3.mono hb1.size)
      have hTr3 := hTr.below hb3
      have hcode : enFrom [.fine, .fine] 0 = 0 := rfl
      rw [hcode]
      have HTR := Lib.hid (code_tree H0.out)
      have hl24 := HTR.out.len
      have HRM := remove_any hTr3 HTR.out.is (by omega) q hqm
      unfold ptr at HRM
      go_wp2_with fail
      refine HRM.mono ?_
      rintro e w4 ⟨rfl, ⟨S', hTr4⟩, hb4⟩
      have c4 := c3.trans hb4
      by_cases h0 : remC l q = 0
      · rw [if_pos h0] at hTr4
        have htw := without_tree HTR.out q
        have HN := nodes_any hTr4 htw.is (Nat.le_trans htw.len (by decide)) (fun r hm => ho r (mem_without.1 hm).1)
        have HE := Lib.hid h0
        unfold ptr at HN
        rw [h0]
        clear h0
        go_wp2_with fail
        refine HN.mono ?_
        rintro e w5 ⟨x5, rfl, hb5, hr5⟩
        have HR := Lib.hid hr5
        obtain ⟨xA, xc, rfl⟩ := own_form hr5.2.1
        clear hr5
        go_wp2_with fail
        go_ret2
        exact rm_done H0.out HE.out (c4.trans (hb5.mono c4.size)) HR.out c4.size
      · rw [if_neg h0] at hTr4
        have HN := nodes_any hTr4 HTR.out.is (by omega) ho
        have HE := Lib.hid h0
        unfold ptr at HN
        generalize hrc : remC l q = c at *
        have HRC := Lib.hid hrc
        clear h0 hrc
        go_wp2_with fail
        refine HN.mono ?_
        rintro e w5 ⟨x5, rfl, hb5, hr5⟩
        have HR := Lib.hid hr5
        obtain ⟨xA, xc, rfl⟩ := own_form hr5.2.1
        clear hr5
        go_wp2_with fail
        go_ret2
        exact rm_stay H0.out HRC.out HE.out ho (c4.trans (hb5.mono c4.size)) HR.out.2.1 c4.size
end Go.Proofs.YtjiljnfiofmpaaaGreatDoor.Recs
