/- Several texts of mine in one file (each begins with its own remark). -/
import Derived.Test.YtblfgnlelhjcnaaDoorBun16
import Derived.Test.YtblfgnlelhjcnaaDoorBun17
import Derived.Test.YtblfgnlelhjcnaaDoorBun2
/- Trees: AddNode, of the program and of its model. Conditions (of the program's): the table of kinds, the two sentinels. -/

namespace Go.Proofs.YtblfgnlelhjcnaaDoor.Recs
set_option maxRecDepth 100000
open Go.RowKit Paths Errs

def addD (l : List R) (n : R) : Int := if placeC l n.p ≠ 0 then placeC l n.p else if l.length = 24 then 7 else 0
def addC (l : List R) (n : R) : Int := if codeTN l n ≠ 0 then codeTN l n else addD l n
def addR (l : List R) (n : R) : List R := if codeTN l n ≠ 0 then [] else if addD l n = 0 then putL l n else l
def AddPost (l : List R) (n : R) (w : World) (e : Ending) (w' : World) : Prop :=
  ∃ x, e = .returned (.tuple #[x, .int .i64 (addC l n)]) ∧ Below w.heap.size w w' ∧ RowN w' w.heap.size x (addR l n).length (addR l n)
theorem codeTN_zero {l : List R} {n : R} (h : codeTN l n = 0) : Tree l ∧ n.k ≠ 4 ∧ n.fault = 0 := by
  unfold codeTN at h
  split at h
  · omega
  · split at h
    · rename_i h2
      rw [Bool.and_eq_true] at h2
      refine ⟨tree_of h2.1, ?_⟩
      have := h2.2
      unfold nodeK at this
      simpa using this
    · omega
theorem add_len (l : List R) (n : R) (hl : l.length ≤ 1048576) : (addR l n).length ≤ 1048576 := by
  unfold addR
  split
  · simp
  · rename_i h
    split
    · have ht := (codeTN_zero (by simpa using h)).1
      have := ht.len
      rw [put_count ht.sorted]
      have := place_le l n
      omega
    · exact hl
theorem add_err {l : List R} {n : R} {c : Int} (h : codeTN l n = c) (hc : c ≠ 0) {w w' : World} {x : Value} (hb : Below w.heap.size w w') (ho : w'.ownsRow w.heap.size 30 4 x 0 []) : AddPost l n w (.returned (.tuple #[x, .int .i64 c])) w' := by
  have e1 : addC l n = c := by unfold addC; rw [h, if_pos hc]
  have e2 : addR l n = [] := by unfold addR; rw [h, if_pos hc]
  refine ⟨x, by rw [e1], hb, ?_⟩
  rw [e2]
  exact ⟨rfl, ho, fun r hr => by cases hr⟩
theorem add_stay {l : List R} {n : R} {c : Int} (h : codeTN l n = 0) (hr : addD l n = c) (hc : c ≠ 0) (hlo : ∀ r ∈ l, r.o = false) {w w' : World} {base : Nat} {x : Value} (hb : Below w.heap.size w w') (ho : w'.ownsRow base 30 4 x l.length (flatN l)) (hle : w.heap.size ≤ base) : AddPost l n w (.returned (.tuple #[x, .int .i64 c])) w' := by
  have e1 : addC l n = c := by unfold addC; rw [if_neg (by simpa using h), hr]
  have e2 : addR l n = l := by unfold addR; rw [if_neg (by simpa using h), if_neg (by rw [hr]; exact hc)]
  refine ⟨x, by rw [e1], hb, ?_⟩
  rw [e2]
  exact ⟨rfl, own_down ho hle, hlo⟩
theorem add_stay_at {l : List R} {n : R} {c : Int} (h : codeTN l n = 0) (hr : addD l n = c) (hc : c ≠ 0) (hlo : ∀ r ∈ l, r.o = false) {w w' : World} {x : Value} (hb : Below w.heap.size w w') (ho : w'.ownsRow w.heap.size 30 4 x l.length (flatN l)) : AddPost l n w (.returned (.tuple #[x, .int .i64 c])) w' := add_stay h hr hc hlo hb ho (Nat.le_refl _)
theorem add_done {l : List R} {n : R} (h : codeTN l n = 0) (hr : addD l n = 0) {w w' : World} {base : Nat} {x : Value} (hb : Below w.heap.size w w') (ho : RowN w' base x (putL l n).length (putL l n)) (hle : w.heap.size ≤ base) : AddPost l n w (.returned (.tuple #[x, .int .i64 0])) w' := by
  have e1 : addC l n = 0 := by unfold addC; rw [if_neg (by simpa using h), hr]
  have e2 : addR l n = putL l n := by unfold addR; rw [if_neg (by simpa using h), if_pos hr]
  refine ⟨x, by rw [e1], hb, ?_⟩
  rw [e2]
  exact ⟨ho.1, own_down ho.2.1 hle, ho.2.2⟩
theorem nodeE_not {n : R} : nodeE n ≠ .long := by unfold nodeE; split <;> simp
theorem addD_place {l : List R} {n : R} {c : Int} (h : placeC l n.p = c) (hc : c ≠ 0) : addD l n = c := by unfold addD; rw [h, if_pos hc]
theorem addD_full {l : List R} {n : R} (h : placeC l n.p = 0) (hl : l.length = 24) : addD l n = 7 := by unfold addD; rw [if_neg (by simpa using h), if_pos hl]
theorem addD_put {l : List R} {n : R} (h : placeC l n.p = 0) (hl : l.length ≠ 24) : addD l n = 0 := by unfold addD; rw [if_neg (by simpa using h), if_neg hl]

set_option maxHeartbeats 6400000 in
theorem addNode_spec (v : Value) (l : List R) (n : R) (hno : n.o = false) (base : Nat) (w : World) (hrow : RowN w base v l.length l) (hv : v ≠ .slice none 0 0) (hl : l.length ≤ 1048576) :
    Calls Tryd.prog 25 #[v, n.nod] w (AddPost l n w) := by
  obtain ⟨i0, hi, hI0, hI1, hI2⟩ := info_parts nodInfo
  have hb0 : Below w.heap.size w (w.alloc (.cells #[.int .i64 n.k, .string n.p, .string n.b, .int .i64 n.m] 30)) := (Below.refl _ _).alloc (Nat.le_refl _) _
  have hIt : Item (w.alloc (.cells #[.int .i64 n.k, .string n.p, .string n.b, .int .i64 n.m] 30)) w.heap.size n := Item.new w n
  have hrow1 := hrow.below hb0
  have HC := l04OK_any v l _ hrow1.sl hl
  have HLO := Lib.hid hrow.2.2
  have hvv := Lib.hid hv
  obtain ⟨g, cap, rfl, hcap, hcm, hgb, hgl⟩ := notnil hrow hv
  unfold R.nod
  clear hv
  by_cases h4 : 4096 < l.length
  · have HE := Lib.hid (show codeTN l n = 2 by unfold codeTN; rw [if_pos h4])
    have hd : decide ((4096 : Int) < (l.length : Int)) = true := by simp; omega
    have hE : ((w.alloc (.cells #[.int .i64 n.k, .string n.p, .string n.b, .int .i64 n.m] 30)).alloc (.cells #[] 30)).ownsRow w.heap.size 30 4 (.slice (some ⟨w.heap.size + 1, 0, none⟩) 0 0) 0 [] := by
      have := World.ownsRow_lit (w.alloc (.cells #[.int .i64 n.k, .string n.p, .string n.b, .int .i64 n.m] 30)) (e := 30) (size := 4) (base := w.heap.size) #[] 0 hb0.size (Nat.zero_le _) rfl
      rw [World.size_alloc] at this
      exact this
    have cE : Below w.heap.size w ((w.alloc (.cells #[.int .i64 n.k, .string n.p, .string n.b, .int .i64 n.m] 30)).alloc (.cells #[] 30)) := hb0.alloc hb0.size _
    go_enter Tryd.func25, Tryd.ntmps25
    go_wp2_with fail
    go_ret2
    exact add_err HE.out (by decide) cE hE
  have hd4 : decide ((4096 : Int) < (l.length : Int)) = false := by simp; omega
  have HL : Hid (codeTN l n = if treeOK l && nodeK n then 0 else 1) := by show _ = _; unfold codeTN; rw [if_neg h4]
  obtain ⟨m0, m1, m2, m3⟩ := hIt.nod
  go_enter Tryd.func25, Tryd.ntmps25
  go_wp2_with fail
  refine HC.mono ?_
  rintro e w2 ⟨rfl, hb2⟩
  have c2 := hb0.trans (hb2.mono hb0.size)
  have IT2 := hIt.below hb2
  clear m0 m1 m2 m3
  obtain ⟨m0, m1, m2, m3⟩ := IT2.nod
  cases hk : treeOK l with
  | false =>
    have HE : Hid (codeTN l n = 1) := by show _ = _; rw [HL.out, hk]; rfl
    have hE : (w2.alloc (.cells #[] 30)).ownsRow w.heap.size 30 4 (.slice (some ⟨w2.heap.size, 0, none⟩) 0 0) 0 [] := World.ownsRow_lit w2 #[] 0 c2.size (Nat.zero_le _) rfl
    have cE : Below w.heap.size w (w2.alloc (.cells #[] 30)) := c2.alloc c2.size _
    go_wp2_with fail
    go_ret2
    exact add_err HE.out (by decide) cE hE
  | true =>
    have HTR := Lib.hid (tree_of hk)
    have hlen := HTR.out.len
    by_cases hn4 : n.k = 4
    · have HE : Hid (codeTN l n = 1) := by show _ = _; rw [HL.out, hk]; unfold nodeK; simp [hn4]
      have hd : (n.k == 4) = true := by simpa using hn4
      clear hn4
      have hE : (w2.alloc (.cells #[] 30)).ownsRow w.heap.size 30 4 (.slice (some ⟨w2.heap.size, 0, none⟩) 0 0) 0 [] := World.ownsRow_lit w2 #[] 0 c2.size (Nat.zero_le _) rfl
      have cE : Below w.heap.size w (w2.alloc (.cells #[] 30)) := c2.alloc c2.size _
      go_wp2_with fail
      go_ret2
      exact add_err HE.out (by decide) cE hE
    have hdk : (n.k == 4) = false := by simpa using hn4
    have HREC := l04Record_any n hno w2
    unfold R.nod R.val at HREC
    rw [hno] at HREC
    have HFI : Hid (n.fault = faultI n.k n.p.data.toList n.b.size n.m false) := by show _ = _; unfold R.fault; rw [hno]
    have H4 := Lib.hid hn4
    clear hn4
    go_wp2_with fail
    refine HREC.mono ?_
    rintro e w3 ⟨rfl, hb3⟩
    have c3 := c2.trans (hb3.mono c2.size)
    have IT3 := IT2.below hb3
    go_wp2_with fail
    refine (l02OK_any n.k n.m n.p n.b false w3).mono ?_
    rintro e w4 ⟨rfl, hb4⟩
    have c4 := c3.trans (hb4.mono c3.size)
    have IT4 := IT3.below hb4
    clear m0 m1 m2 m3
    obtain ⟨m0, m1, m2, m3⟩ := IT4.nod
    rcases Bool.eq_false_or_eq_true (faultI n.k n.p.data.toList n.b.size n.m false == 0) with hf | hf
    case inr =>
      have hf0 : n.fault ≠ 0 := by rw [HFI.out]; simpa using hf
      have HE : Hid (codeTN l n = 1) := by show _ = _; rw [HL.out, hk]; unfold nodeK; simp [hf0]
      rw [hf]
      clear hf hf0
      have hE : (w4.alloc (.cells #[] 30)).ownsRow w.heap.size 30 4 (.slice (some ⟨w4.heap.size, 0, none⟩) 0 0) 0 [] := World.ownsRow_lit w4 #[] 0 c4.size (Nat.zero_le _) rfl
      have cE : Below w.heap.size w (w4.alloc (.cells #[] 30)) := c4.alloc c4.size _
      go_wp2_with fail
      go_ret2
      exact add_err HE.out (by decide) cE hE
    have HF0 : Hid (n.fault = 0) := by show _ = _; rw [HFI.out]; simpa using hf
    have HC0 : Hid (codeTN l n = 0) := by show _ = _; rw [HL.out, hk]; unfold nodeK; simp [H4.out, HF0.out]
    have hp := (fault_path HF0.out).1
    have hps : n.p.size ≤ 35 := by rw [Lib.size_eq]; exact pathB_len hp
    have HFN := l04Find_any _ l n.p w4 (hrow.below c4).sl hl HTR.out.is hp
    unfold foundV R.nod at HFN
    rw [hf]
    clear hf
    generalize hF : findT l n.p = F at *
    go_wp2_with fail
    refine HFN.mono ?_
    rintro e w5 ⟨rfl, hb5⟩
    have c5 := c4.trans (hb5.mono c4.size)
    have IT5 := IT4.below hb5
    have hb6 : Below w5.heap.size w5 (w5.alloc (.cells #[.int .i64 F.1.k, .string F.1.p, .string F.1.b, .int .i64 F.1.m] 30)) := (Below.refl _ _).alloc (Nat.le_refl _) _
    have c6 := c5.trans (hb6.mono c5.size)
    have IT6 := IT5.below hb6
    clear m0 m1 m2 m3
    obtain ⟨m0, m1, m2, m3⟩ := IT6.nod
    have hr6 := hrow.below c6
    have hPAR := fun w' => l01Parent_any n.p w' (by unfold maxLen; omega)
    unfold strV at hPAR
    have hsz6 : (w5.alloc (.cells #[.int .i64 F.1.k, .string F.1.p, .string F.1.b, .int .i64 F.1.m] 30)).heap.size = w5.heap.size + 1 := by simp
    go_wp2_with fail
    generalize w5.alloc (.cells #[.int .i64 F.1.k, .string F.1.p, .string F.1.b, .int .i64 F.1.m] 30) = W6 at *
    refine (hPAR _).mono ?_
    rintro e w7 ⟨rfl, rfl⟩
    have HPC : Hid (placeC l n.p = if F.2 = 0 then 18 else if F.2 = 13 then 13 else if parO n.p = ByteArray.empty ∨ (recAt l (parO n.p)).isSome = true then 0 else 12) := by show _ = _; unfold placeC; rw [hF]
    have HCD : Hid (F.2 = 0 ∨ F.2 = 13 ∨ F.2 = 5) := by have := findT_codes l n.p; rw [hF] at this; exact this
    clear hb6 hsz6 IT5 IT4 IT3 IT2
    by_cases h0 : F.2 = 0
    · have HE : Hid (addD l n = 18) := addD_place (by rw [HPC.out, if_pos h0]) (by decide)
      have hd : (F.2 == 0) = true := by simpa using h0
      clear h0
      have hE : (W6.alloc (.cells #[] 30)).ownsRow w.heap.size 30 4 (.slice (some ⟨W6.heap.size, 0, none⟩) 0 0) 0 [] := World.ownsRow_lit W6 #[] 0 c6.size (Nat.zero_le _) rfl
      have cE : Below w.heap.size w (W6.alloc (.cells #[] 30)) := c6.alloc c6.size _
      have hsrc := src_cells (hr6.below ((Below.refl W6.heap.size W6).alloc (Nat.le_refl _) (.cells #[] 30))) 0 l (.inl rfl)
      have hfl := flatN_len l
      have hone := flatN_one l
      have hbz := cE.size
      rw [Nat.zero_mul] at hsrc
      go_wp2_with (first
        | (at_builtin; refine wpList_append_own _ rfl _ _ 25 rfl w.heap.size 30 i0 (.agg #[.int .i64 0, .string ByteArray.empty, .string ByteArray.empty, .int .i64 0]) 4 48 Tryd.underlying25 hi hI0 hI1 hI2 rfl (by decide) _ _ _ rfl hE ⟨g, 0, none⟩ l.length cap (flatN l) rfl hfl hsrc hone (by unfold maxLen; omega) (by omega) hbz ?_; intro v' w9 hown' hgrow9 hnil9; rw [Nat.zero_add, List.nil_append] at hown'; have HPO := Lib.hid (add_stay_at HC0.out HE.out (by decide) HLO.out (cE.grown hgrow9 hbz (fun j hj => (hE.lt j hj).1)) hown'); obtain ⟨vA, vc, rfl⟩ := own_form hown'; clear hown' hgrow9 hnil9))
      go_ret2
      exact HPO.out
    by_cases h13 : F.2 = 13
    · have HE : Hid (addD l n = 13) := addD_place (by rw [HPC.out, if_neg h0, if_pos h13]) (by decide)
      have hd : (F.2 == 0) = false := by simpa using h0
      have hd2 : (F.2 == 13) = true := by simpa using h13
      clear h0 h13
      have hE : (W6.alloc (.cells #[] 30)).ownsRow w.heap.size 30 4 (.slice (some ⟨W6.heap.size, 0, none⟩) 0 0) 0 [] := World.ownsRow_lit W6 #[] 0 c6.size (Nat.zero_le _) rfl
      have cE : Below w.heap.size w (W6.alloc (.cells #[] 30)) := c6.alloc c6.size _
      have hsrc := src_cells (hr6.below ((Below.refl W6.heap.size W6).alloc (Nat.le_refl _) (.cells #[] 30))) 0 l (.inl rfl)
      have hfl := flatN_len l
      have hone := flatN_one l
      have hbz := cE.size
      rw [Nat.zero_mul] at hsrc
      go_wp2_with (first
        | (at_builtin; refine wpList_append_own _ rfl _ _ 25 rfl w.heap.size 30 i0 (.agg #[.int .i64 0, .string ByteArray.empty, .string ByteArray.empty, .int .i64 0]) 4 48 Tryd.underlying25 hi hI0 hI1 hI2 rfl (by decide) _ _ _ rfl hE ⟨g, 0, none⟩ l.length cap (flatN l) rfl hfl hsrc hone (by unfold maxLen; omega) (by omega) hbz ?_; intro v' w9 hown' hgrow9 hnil9; rw [Nat.zero_add, List.nil_append] at hown'; have HPO := Lib.hid (add_stay_at HC0.out HE.out (by decide) HLO.out (cE.grown hgrow9 hbz (fun j hj => (hE.lt j hj).1)) hown'); obtain ⟨vA, vc, rfl⟩ := own_form hown'; clear hown' hgrow9 hnil9))
      go_ret2
      exact HPO.out
    have hF5 : F.2 = 5 := by rcases HCD.out with h | h | h; exact absurd h h0; exact absurd h h13; exact h
    have HPC2 : Hid (placeC l n.p = if parO n.p = ByteArray.empty ∨ (recAt l (parO n.p)).isSome = true then 0 else 12) := by show _ = _; rw [HPC.out, if_neg h0, if_neg h13]
    have hnew : recAt l n.p = none := by
      cases hr : recAt l n.p with
      | none => rfl
      | some r =>
        have := findT_zero.2 (show (recAt l n.p).isSome = true by rw [hr]; rfl)
        rw [hF] at this
        exact absurd this h0
    have hblk : blocked l n.p = false := by
      have := blocked_code hnew
      rw [hF, hF5] at this
      cases hb : blocked l n.p with
      | false => rfl
      | true => rw [hb] at this; simp at this
    have HPUT := l04Put_any (.slice (some ⟨g, 0, none⟩) l.length cap) l n base W6 hr6 hvv.out HTR.out.sorted (fun r hm => by rw [Lib.size_eq]; exact pathB_len (HTR.out.is.path r hm)) hps hno (by omega)
    unfold R.nod at HPUT
    have HAT := l04At_any (.slice (some ⟨g, 0, none⟩) l.length cap) l (parO n.p) W6 hr6.sl hl
    unfold parO at HAT
    have hd : (F.2 == 0) = false := by rw [hF5]; rfl
    have hd2 : (F.2 == 13) = false := by rw [hF5]; rfl
    have HNW := Lib.hid hnew
    have HBK := Lib.hid hblk
    clear h0 h13 hnew hblk hF5
    by_cases hpar : parentL n.p.data.toList = []
    · have hpe : (parentL n.p.data.toList).isEmpty = true := by rw [hpar]; rfl
      have HP0 : Hid (placeC l n.p = 0) := by show _ = _; rw [HPC2.out, if_pos (.inl (parO_empty.2 hpar))]
      by_cases h24 : l.length = 24
      · have HE := Lib.hid (addD_full HP0.out h24)
        have hd24 : ((l.length : Int) == 24) = true := by simp; omega
        clear h24
        have hE : (W6.alloc (.cells #[] 30)).ownsRow w.heap.size 30 4 (.slice (some ⟨W6.heap.size, 0, none⟩) 0 0) 0 [] := World.ownsRow_lit W6 #[] 0 c6.size (Nat.zero_le _) rfl
        have cE : Below w.heap.size w (W6.alloc (.cells #[] 30)) := c6.alloc c6.size _
        have hsrc := src_cells (hr6.below ((Below.refl W6.heap.size W6).alloc (Nat.le_refl _) (.cells #[] 30))) 0 l (.inl rfl)
        have hfl := flatN_len l
        have hone := flatN_one l
        have hbz := cE.size
        rw [Nat.zero_mul] at hsrc
        go_wp2_with (first
          | (at_builtin; refine wpList_append_own _ rfl _ _ 25 rfl w.heap.size 30 i0 (.agg #[.int .i64 0, .string ByteArray.empty, .string ByteArray.empty, .int .i64 0]) 4 48 Tryd.underlying25 hi hI0 hI1 hI2 rfl (by decide) _ _ _ rfl hE ⟨g, 0, none⟩ l.length cap (flatN l) rfl hfl hsrc hone (by unfold maxLen; omega) (by omega) hbz ?_; intro v' w9 hown' hgrow9 hnil9; rw [Nat.zero_add, List.nil_append] at hown'; have HPO := Lib.hid (add_stay_at HC0.out HE.out (by decide) HLO.out (cE.grown hgrow9 hbz (fun j hj => (hE.lt j hj).1)) hown'); obtain ⟨vA, vc, rfl⟩ := own_form hown'; clear hown' hgrow9 hnil9))
        go_ret2
        exact HPO.out
      · have HE := Lib.hid (addD_put HP0.out h24)
        have hd24 : ((l.length : Int) == 24) = false := by simp; omega
        clear h24
        go_wp2_with fail
        refine HPUT.mono ?_
        rintro e w9 ⟨x9, rfl, hb9, hr9, -⟩
        have HR := Lib.hid hr9
        obtain ⟨xA, xc, rfl⟩ := own_form hr9.2.1
        clear hr9
        go_wp2_with fail
        go_ret2
        exact add_done HC0.out HE.out (c6.trans (hb9.mono c6.size)) HR.out c6.size
    · have hpe : (parentL n.p.data.toList).isEmpty = false := by simpa using hpar
      rcases atL_recAt l (parO n.p) with ⟨ha, hn2⟩ | ⟨j, hj, ha, hn2⟩
      · have HE : Hid (addD l n = 12) := addD_place (by rw [HPC2.out, if_neg]; rintro (h | h); exact hpar (parO_empty.1 h); rw [hn2] at h; cases h) (by decide)
        have ha' : atL l ⟨(parentL n.p.data.toList).toArray⟩ = -1 := ha
        rw [ha'] at HAT
        clear ha ha' hn2
        go_wp2_with fail
        refine HAT.mono ?_
        rintro e w8 ⟨rfl, rfl⟩
        have hE : (W6.alloc (.cells #[] 30)).ownsRow w.heap.size 30 4 (.slice (some ⟨W6.heap.size, 0, none⟩) 0 0) 0 [] := World.ownsRow_lit W6 #[] 0 c6.size (Nat.zero_le _) rfl
        have cE : Below w.heap.size w (W6.alloc (.cells #[] 30)) := c6.alloc c6.size _
        have hsrc := src_cells (hr6.below ((Below.refl W6.heap.size W6).alloc (Nat.le_refl _) (.cells #[] 30))) 0 l (.inl rfl)
        have hfl := flatN_len l
        have hone := flatN_one l
        have hbz := cE.size
        rw [Nat.zero_mul] at hsrc
        go_wp2_with (first
          | (at_builtin; refine wpList_append_own _ rfl _ _ 25 rfl w.heap.size 30 i0 (.agg #[.int .i64 0, .string ByteArray.empty, .string ByteArray.empty, .int .i64 0]) 4 48 Tryd.underlying25 hi hI0 hI1 hI2 rfl (by decide) _ _ _ rfl hE ⟨g, 0, none⟩ l.length cap (flatN l) rfl hfl hsrc hone (by unfold maxLen; omega) (by omega) hbz ?_; intro v' w9 hown' hgrow9 hnil9; rw [Nat.zero_add, List.nil_append] at hown'; have HPO := Lib.hid (add_stay_at HC0.out HE.out (by decide) HLO.out (cE.grown hgrow9 hbz (fun j hj => (hE.lt j hj).1)) hown'); obtain ⟨vA, vc, rfl⟩ := own_form hown'; clear hown' hgrow9 hnil9))
        go_ret2
        exact HPO.out
      · have HP0 : Hid (placeC l n.p = 0) := by show _ = _; rw [HPC2.out, if_pos (.inr (by rw [hn2]; rfl))]
        have hj3 : l[j].k = 3 := by
          by_cases h3 : l[j].k = 3
          · exact h3
          · have : blocked l n.p = true := blocked_iff.2 ⟨parO n.p, by rw [ups_step hp, if_neg hpar]; exact List.mem_cons_self .., l[j], hn2, h3⟩
            rw [HBK.out] at this; cases this
        have ha' : atL l ⟨(parentL n.p.data.toList).toArray⟩ = (j : Int) := ha
        rw [ha'] at HAT
        obtain ⟨f0, _, _, _⟩ := hr6.cells hj
        rw [hj3] at f0
        have j1 : (0 : Int) ≤ (j : Int) := by omega
        have j2 : (j : Int) < (l.length : Int) := by omega
        have j3 : decide ((j : Int) < 0) = false := by simp
        clear ha ha' hn2 hj3
        go_wp2_with fail
        refine HAT.mono ?_
        rintro e w8 ⟨rfl, rfl⟩
        go_wp2_with fail
        refine HAT.mono ?_
        rintro e w8 ⟨rfl, rfl⟩
        by_cases h24 : l.length = 24
        · have HE := Lib.hid (addD_full HP0.out h24)
          have hd24 : ((l.length : Int) == 24) = true := by simp; omega
          clear h24
          have hE : (W6.alloc (.cells #[] 30)).ownsRow w.heap.size 30 4 (.slice (some ⟨W6.heap.size, 0, none⟩) 0 0) 0 [] := World.ownsRow_lit W6 #[] 0 c6.size (Nat.zero_le _) rfl
          have cE : Below w.heap.size w (W6.alloc (.cells #[] 30)) := c6.alloc c6.size _
          have hsrc := src_cells (hr6.below ((Below.refl W6.heap.size W6).alloc (Nat.le_refl _) (.cells #[] 30))) 0 l (.inl rfl)
          have hfl := flatN_len l
          have hone := flatN_one l
          have hbz := cE.size
          rw [Nat.zero_mul] at hsrc
          go_wp2_with (first
            | (at_builtin; refine wpList_append_own _ rfl _ _ 25 rfl w.heap.size 30 i0 (.agg #[.int .i64 0, .string ByteArray.empty, .string ByteArray.empty, .int .i64 0]) 4 48 Tryd.underlying25 hi hI0 hI1 hI2 rfl (by decide) _ _ _ rfl hE ⟨g, 0, none⟩ l.length cap (flatN l) rfl hfl hsrc hone (by unfold maxLen; omega) (by omega) hbz ?_; intro v' w9 hown' hgrow9 hnil9; rw [Nat.zero_add, List.nil_append] at hown'; have HPO := Lib.hid (add_stay_at HC0.out HE.out (by decide) HLO.out (cE.grown hgrow9 hbz (fun j hj => (hE.lt j hj).1)) hown'); obtain ⟨vA, vc, rfl⟩ := own_form hown'; clear hown' hgrow9 hnil9))
          go_ret2
          exact HPO.out
        · have HE := Lib.hid (addD_put HP0.out h24)
          have hd24 : ((l.length : Int) == 24) = false := by simp; omega
          clear h24
          go_wp2_with fail
          refine HPUT.mono ?_
          rintro e w9 ⟨x9, rfl, hb9, hr9, -⟩
          have HR := Lib.hid hr9
          obtain ⟨xA, xc, rfl⟩ := own_form hr9.2.1
          clear hr9
          go_wp2_with fail
          go_ret2
          exact add_done HC0.out HE.out (c6.trans (hb9.mono c6.size)) HR.out c6.size

set_option maxHeartbeats 6400000 in
theorem addNode_impl (v : Value) (l : List R) (n : R) (hno : n.o = false) (x y : Addr) (w : World) (h : NodSl w v l) (hl : l.length ≤ 1048576) (hr : ∀ r ∈ l, r.p.size ≤ maxLen) (hnp : n.p.size ≤ maxLen) (hT : Three w x y) :
    Calls Tryd.prog 27 #[v, n.nod] w (AddPost l n w) := by
  have hb0 : Below w.heap.size w (w.alloc (.cells #[.int .i64 n.k, .string n.p, .string n.b, .int .i64 n.m] 30)) := (Below.refl _ _).alloc (Nat.le_refl _) _
  have hIt : Item (w.alloc (.cells #[.int .i64 n.k, .string n.p, .string n.b, .int .i64 n.m] 30)) w.heap.size n := Item.new w n
  have HG := growTree_any v l x y _ (h.below hb0) hl hr (hT.below hb0 (Nat.le_refl _))
  obtain ⟨ho, sA, cap, rfl, hcap, h⟩ := h
  clear h
  unfold R.nod
  go_enter Tryd.func27, Tryd.ntmps27
  go_wp2_with fail
  refine HG.mono ?_
  rintro e w1 ⟨hb1, HK⟩
  have c1 := hb0.trans (hb1.mono hb0.size)
  have hT1 := hT.below c1 (Nat.le_refl _)
  have IT1 := hIt.below hb1
  obtain ⟨m0, m1, m2, m3⟩ := IT1.nod
  have HXA := checkNode_any n hno hnp x y w1 hT1
  rw [nodeE_val n x y] at HXA
  unfold R.nod at HXA
  rcases HK with ⟨hk, rfl⟩ | ⟨hk, A, S, rfl, hTr⟩
  · cases hg : growK l with
    | fine => exact absurd hg hk
    | long =>
      cases ht : nodeE n with
      | fine =>
        have HE : Hid (codeTN l n = 2) := by show _ = _; rw [← arg_tn, hg, ht]; rfl
        unfold EN.val
        unfold errV
        rw [ht] at HXA
        unfold EN.val at HXA
        unfold errV at HXA
        go_wp2_with fail
        refine HXA.mono ?_
        rintro e w2 ⟨rfl, hb2⟩
        have c2 := c1.trans (hb2.mono c1.size)
        have IT2 := IT1.below hb2
        have HA := argN2_any .long .fine x y w2 (hT.below c2 (Nat.le_refl _))
        unfold EN.val at HA
        unfold errV at HA
        clear m0 m1 m2 m3
        go_wp2_with fail
        refine HA.mono ?_
        rintro e w3 ⟨rfl, hb3⟩
        have c3 := c2.trans (hb3.mono c2.size)
        have IT3 := IT2.below hb3
        have hcode : enFrom [.long, .fine] 0 = 2 := rfl
        rw [hcode]
        go_wp2_with fail
        go_ret2
        exact add_err HE.out (by decide) c3 (World.ownsRow_nil _ _ _ _)
      | inv =>
        have HE : Hid (codeTN l n = 2) := by show _ = _; rw [← arg_tn, hg, ht]; rfl
        unfold EN.val
        unfold errV
        rw [ht] at HXA
        unfold EN.val at HXA
        unfold errV at HXA
        go_wp2_with fail
        refine HXA.mono ?_
        rintro e w2 ⟨rfl, hb2⟩
        have c2 := c1.trans (hb2.mono c1.size)
        have IT2 := IT1.below hb2
        have HA := argN2_any .long .inv x y w2 (hT.below c2 (Nat.le_refl _))
        unfold EN.val at HA
        unfold errV at HA
        clear m0 m1 m2 m3
        go_wp2_with fail
        refine HA.mono ?_
        rintro e w3 ⟨rfl, hb3⟩
        have c3 := c2.trans (hb3.mono c2.size)
        have IT3 := IT2.below hb3
        have hcode : enFrom [.long, .inv] 0 = 2 := rfl
        rw [hcode]
        go_wp2_with fail
        go_ret2
        exact add_err HE.out (by decide) c3 (World.ownsRow_nil _ _ _ _)
      | long => exact absurd ht nodeE_not
    | inv =>
      cases ht : nodeE n with
      | fine =>
        have HE : Hid (codeTN l n = 1) := by show _ = _; rw [← arg_tn, hg, ht]; rfl
        unfold EN.val
        unfold errV
        rw [ht] at HXA
        unfold EN.val at HXA
        unfold errV at HXA
        go_wp2_with fail
        refine HXA.mono ?_
        rintro e w2 ⟨rfl, hb2⟩
        have c2 := c1.trans (hb2.mono c1.size)
        have IT2 := IT1.below hb2
        have HA := argN2_any .inv .fine x y w2 (hT.below c2 (Nat.le_refl _))
        unfold EN.val at HA
        unfold errV at HA
        clear m0 m1 m2 m3
        go_wp2_with fail
        refine HA.mono ?_
        rintro e w3 ⟨rfl, hb3⟩
        have c3 := c2.trans (hb3.mono c2.size)
        have IT3 := IT2.below hb3
        have hcode : enFrom [.inv, .fine] 0 = 1 := rfl
        rw [hcode]
        go_wp2_with fail
        go_ret2
        exact add_err HE.out (by decide) c3 (World.ownsRow_nil _ _ _ _)
      | inv =>
        have HE : Hid (codeTN l n = 1) := by show _ = _; rw [← arg_tn, hg, ht]; rfl
        unfold EN.val
        unfold errV
        rw [ht] at HXA
        unfold EN.val at HXA
        unfold errV at HXA
        go_wp2_with fail
        refine HXA.mono ?_
        rintro e w2 ⟨rfl, hb2⟩
        have c2 := c1.trans (hb2.mono c1.size)
        have IT2 := IT1.below hb2
        have HA := argN2_any .inv .inv x y w2 (hT.below c2 (Nat.le_refl _))
        unfold EN.val at HA
        unfold errV at HA
        clear m0 m1 m2 m3
        go_wp2_with fail
        refine HA.mono ?_
        rintro e w3 ⟨rfl, hb3⟩
        have c3 := c2.trans (hb3.mono c2.size)
        have IT3 := IT2.below hb3
        have hcode : enFrom [.inv, .inv] 0 = 1 := rfl
        rw [hcode]
        go_wp2_with fail
        go_ret2
        exact add_err HE.out (by decide) c3 (World.ownsRow_nil _ _ _ _)
      | long => exact absurd ht nodeE_not
  · have hg := hk
    unfold ptr
    cases ht : nodeE n with
    | inv =>
      have HE : Hid (codeTN l n = 1) := by show _ = _; rw [← arg_tn, hg, ht]; rfl
      rw [ht] at HXA
      unfold EN.val at HXA
      unfold errV at HXA
      go_wp2_with fail
      refine HXA.mono ?_
      rintro e w2 ⟨rfl, hb2⟩
      have c2 := c1.trans (hb2.mono c1.size)
      have IT2 := IT1.below hb2
      have HA := argN2_any .fine .inv x y w2 (hT.below c2 (Nat.le_refl _))
      unfold EN.val at HA
      unfold errV at HA
      clear m0 m1 m2 m3
      go_wp2_with fail
      refine HA.mono ?_
      rintro e w3 ⟨rfl, hb3⟩
      have c3 := c2.trans (hb3.mono c2.size)
      have IT3 := IT2.below hb3
      have hcode : enFrom [.fine, .inv] 0 = 1 := rfl
      rw [hcode]
      go_wp2_with fail
      go_ret2
      exact add_err HE.out (by decide) c3 (World.ownsRow_nil _ _ _ _)
    | long => exact absurd ht nodeE_not
    | fine =>
      have HC0 := Lib.hid (show codeTN l n = 0 by rw [← arg_tn, hg, ht]; rfl)
      rw [ht] at HXA
      unfold EN.val at HXA
      unfold errV at HXA
      go_wp2_with fail
      refine HXA.mono ?_
      rintro e w2 ⟨rfl, hb2⟩
      have c2 := c1.trans (hb2.mono c1.size)
      have IT2 := IT1.below hb2
      have HA := argN2_any .fine .fine x y w2 (hT.below c2 (Nat.le_refl _))
      unfold EN.val at HA
      unfold errV at HA
      clear m0 m1 m2 m3
      go_wp2_with fail
      refine HA.mono ?_
      rintro e w3 ⟨rfl, hb3⟩
      have c3 := c2.trans (hb3.mono c2.size)
      have IT3 := IT2.below hb3
      have hcode : enFrom [.fine, .fine] 0 = 0 := rfl
      rw [hcode]
      have hTr3 := (hTr.below hb2).below hb3
      obtain ⟨htree, hk4, hf0⟩ := codeTN_zero HC0.out
      have hl24 := htree.len
      have hp := (fault_path hf0).1
      have HTR := Lib.hid htree
      have H4 := Lib.hid hk4
      have HF0 := Lib.hid hf0
      obtain ⟨m0, m1, m2, m3⟩ := IT3.nod
      have HPL := placeFor_any hTr3 htree.is (by omega) n.p hnp hp
      unfold ptr placeV at HPL
      clear htree hk4 hf0
      by_cases hpc : placeC l n.p = 0
      · obtain ⟨xr, hxm, hxp⟩ := (place_home hp hpc).1
        have hnew := (place_ok hpc).1
        rw [hpc, if_pos rfl] at HPL
        by_cases h24 : l.length = 24
        · have HE := Lib.hid (addD_full hpc h24)
          have hd : ((l.length : Int) == 24) = true := by simp; omega
          clear hpc h24
          go_wp2_with fail
          refine HPL.mono ?_
          rintro e w4 ⟨rfl, hb4⟩
          have c4 := c3.trans (hb4.mono c3.size)
          have HN := nodes_any (hTr3.below hb4) HTR.out.is (by omega) ho
          unfold ptr at HN
          go_wp2_with fail
          refine HN.mono ?_
          rintro e w5 ⟨x5, rfl, hb5, hr5⟩
          have HR := Lib.hid hr5
          obtain ⟨xA, xc, rfl⟩ := own_form hr5.2.1
          clear hr5
          go_wp2_with fail
          go_ret2
          exact add_stay HC0.out HE.out (by decide) ho (c4.trans (hb5.mono c4.size)) HR.out.2.1 c4.size
        · have HE := Lib.hid (addD_put hpc h24)
          have hd : ((l.length : Int) == 24) = false := by simp; omega
          have hput := put_tree HTR.out H4.out HF0.out hnew (place_home hp hpc).2 (by omega)
          have HPT := Lib.hid hput
          clear hpc h24 hput
          go_wp2_with fail
          refine HPL.mono ?_
          rintro e w4 ⟨rfl, hb4⟩
          have c4 := c3.trans (hb4.mono c3.size)
          have IT4 := IT3.below hb4
          clear m0 m1 m2 m3
          obtain ⟨m0, m1, m2, m3⟩ := IT4.nod
          have HAT := attach_any (hTr3.below hb4) HTR.out.is (by omega) hp hnp hxm hxp hnew
          rw [hxp] at HAT
          unfold ptr R.nod at HAT
          go_wp2_with fail
          refine HAT.mono ?_
          rintro e w5 ⟨⟨v5, rfl⟩, A', S', hTr5, hb5, hA5⟩
          have c5 := c4.trans (hb5.mono hb0.size)
          have HN := nodes_any hTr5 HPT.out.is (Nat.le_trans HPT.out.len (by decide)) (fun r hm => by
            rcases mem_put.1 hm with rfl | ⟨h1, _⟩
            · exact hno
            · exact ho r h1)
          rw [hA5] at HN
          unfold ptr at HN
          go_wp2_with fail
          refine HN.mono ?_
          rintro e w6 ⟨x6, rfl, hb6, hr6⟩
          have HR := Lib.hid hr6
          obtain ⟨xA, xc, rfl⟩ := own_form hr6.2.1
          clear hr6
          go_wp2_with fail
          go_ret2
          exact add_done HC0.out HE.out (c5.trans (hb6.mono c5.size)) HR.out c5.size
      · have HE := Lib.hid (addD_place (n := n) rfl hpc)
        have H0 := Lib.hid hpc
        have hd : (placeC l n.p == 0) = false := by simpa using hpc
        rw [if_neg hpc] at HPL
        generalize placeC l n.p = c at *
        clear hpc
        go_wp2_with fail
        refine HPL.mono ?_
        rintro e w4 ⟨rfl, hb4⟩
        have c4 := c3.trans (hb4.mono c3.size)
        have HN := nodes_any (hTr3.below hb4) HTR.out.is (by omega) ho
        unfold ptr at HN
        go_wp2_with fail
        refine HN.mono ?_
        rintro e w5 ⟨x5, rfl, hb5, hr5⟩
        have HR := Lib.hid hr5
        obtain ⟨xA, xc, rfl⟩ := own_form hr5.2.1
        clear hr5
        go_wp2_with fail
        go_ret2
        exact add_stay HC0.out HE.out H0.out ho (c4.trans (hb5.mono c4.size)) HR.out.2.1 c4.size
end Go.Proofs.YtblfgnlelhjcnaaDoor.Recs

/- Trees: RemoveNode, of the program and of its model. Conditions (of the program's): the table of kinds, the two sentinels. -/

namespace Go.Proofs.YtblfgnlelhjcnaaDoor.Recs
set_option maxRecDepth 100000
open Go.RowKit Paths Errs

theorem without_step {l : List R} {k : Nat} (hk : k < l.length) (q : ByteArray) (s : Bool) : withoutL (l.take (k + 1)) q s = if (!isUp q l[k].p && !(s && decide (l[k].p = q))) = true then withoutL (l.take k) q s ++ [l[k]] else withoutL (l.take k) q s := by
  unfold withoutL
  rw [List.take_add_one, List.getElem?_eq_getElem hk, List.filter_append]
  simp only [Option.toList]
  cases hb : (!isUp q l[k].p && !(s && decide (l[k].p = q))) with
  | true =>
    rw [if_pos rfl, List.filter_cons_of_pos (p := fun x : R => !isUp q x.p && !(s && decide (x.p = q))) hb]
    rfl
  | false =>
    rw [if_neg (by decide), List.filter_cons_of_neg (p := fun x : R => !isUp q x.p && !(s && decide (x.p = q))) (by rw [hb]; decide)]
    simp
theorem without_len (l : List R) (q : ByteArray) (s : Bool) : (withoutL l q s).length ≤ l.length := List.length_filter_le _ _

set_option maxHeartbeats 3200000 in
theorem l04Without_any (v : Value) (l : List R) (q : ByteArray) (s : Bool) (w : World) (h : NodSl w v l) (hl : l.length ≤ 1000) (ht : ∀ r ∈ l, pathB r.p.data.toList = true) (hq : pathB q.data.toList = true) :
    Calls Tryd.prog 57 #[v, .string q, .bool s] w fun e w' => ∃ x, e = .returned x ∧ Below w.heap.size w w' ∧ RowN w' w.heap.size x (withoutL l q s).length (withoutL l q s) ∧ x ≠ .slice none 0 0 := by
  obtain ⟨i0, hi, hI0, hI1, hI2⟩ := info_parts nodInfo
  obtain ⟨ho, sA, cap, rfl, hcap, h⟩ := h
  have H := Lib.hid h
  have HT := Lib.hid ht
  have HO := Lib.hid ho
  have hqs : q.size ≤ 35 := by rw [Lib.size_eq]; exact pathB_len hq
  have hqp : 0 < q.size := by rw [Lib.size_eq]; exact List.length_pos_iff.2 (pathB_ne hq)
  have hb0 : Below w.heap.size w (w.alloc (.cells #[] 30)) := (Below.refl _ _).alloc (Nat.le_refl _) _
  have hown0 : (w.alloc (.cells #[] 30)).ownsRow w.heap.size 30 4 (.slice (some ⟨w.heap.size, 0, none⟩) 0 0) 0 [] := World.ownsRow_lit w #[] 0 (Nat.le_refl _) (Nat.zero_le _) rfl
  clear h ht ho
  go_enter Tryd.func57, Tryd.ntmps57
  go_wp2
  go_loopw [7, 8] (fun f i wr => ∃ (k : Nat) (M : List R), k ≤ l.length ∧ i = .int .i64 k ∧ Hid (M = withoutL (l.take k) q s) ∧ RowN wr w.heap.size f M.length M ∧ Hid (f ≠ .slice none 0 0) ∧ Below w.heap.size w wr) (fun _ i _ => l.length - (intOf i).toNat)
  case atStart => exact ⟨0, [], by omega, rfl, rfl, ⟨rfl, hown0, fun r hr => by cases hr⟩, (fun e => by cases e), hb0⟩
  case round =>
    obtain ⟨k, M, hk, rfl, HM, hrow, HNN, hbw⟩ := hrel
    by_cases hlt : k < l.length
    · obtain ⟨b, off, rfl, hb, hcell⟩ := H.out (by omega)
      obtain ⟨c0, c1, c2, c3⟩ := (hcell k l[k] (by simp [hlt])).below hbw hb
      clear hcell
      have hi1 : (k : Int) < (l.length : Int) := by omega
      have hi0 : (0 : Int) ≤ (k : Int) := by omega
      have hp := HT.out _ (List.getElem_mem hlt)
      have hko := HO.out _ (List.getElem_mem hlt)
      have hs : l[k].p.size ≤ 35 := by rw [Lib.size_eq]; exact pathB_len hp
      have HBL := l01Below_two l[k].p q wr hqp (by omega) (by omega)
      rw [← isUp_below hp] at HBL
      have HST := Lib.hid (without_step hlt q s)
      have hMl : M.length ≤ 1000 := by
        rw [HM.out]
        exact Nat.le_trans (without_len _ _ _) (by rw [List.length_take]; omega)
      obtain ⟨fA, fcap, rfl⟩ := own_form hrow.2.1
      have hr3 : (wr.alloc (.cells #[.int .i64 l[k].k, .string l[k].p, .string l[k].b, .int .i64 l[k].m] 30)).ownsRow w.heap.size 30 4 (.slice fA M.length fcap) M.length (flatN M) := hrow.2.1.alloc _
      have hnews := nodR_cells_new wr l[k] 30
      have hone := nodR_one l[k]
      have hbz : w.heap.size ≤ (wr.alloc (.cells #[.int .i64 l[k].k, .string l[k].p, .string l[k].b, .int .i64 l[k].m] 30)).heap.size := (hbw.alloc hbw.size _).size
      have HROW := Lib.hid hrow
      cases hu : isUp q l[k].p with
      | true =>
        have HN : Hid (M = withoutL (l.take (k + 1)) q s) := by show _ = _; rw [HST.out, hu, if_neg (by simp), ← HM.out]
        rw [hu] at HBL
        go_wp2_with fail
        refine HBL.mono ?_
        rintro e w2 ⟨rfl, rfl⟩
        go_wp2_with fail
        exact ⟨⟨k + 1, M, by omega, by go_num, HN, HROW.out, HNN, hbw⟩, by simp [intOf]; omega⟩
      | false =>
        rw [hu] at HBL
        cases s with
        | false =>
          have HN : Hid (M ++ [l[k]] = withoutL (l.take (k + 1)) q false) := by show _ = _; rw [HST.out, hu, if_pos (by simp), ← HM.out]
          clear hrow
          go_wp2_with fail
          refine HBL.mono ?_
          rintro e w2 ⟨rfl, rfl⟩
          go_wp2_with (first
            | (at_builtin; refine wpList_append_own _ rfl _ _ 25 rfl w.heap.size 30 i0 (.agg #[.int .i64 0, .string ByteArray.empty, .string ByteArray.empty, .int .i64 0]) 4 48 Tryd.underlying25 hi hI0 hI1 hI2 rfl (by decide) _ _ _ rfl hr3 ⟨wr.heap.size, 0, none⟩ 1 1 (R.ns l[k]) rfl rfl hnews hone (by unfold maxLen; omega) (by omega) hbz ?_; intro v' w9 hown' hgrow9 hnil9; skip))
          exact ⟨⟨k + 1, M ++ [l[k]], by omega, by go_num, HN, rowN_snoc hown' HROW.out.2.2 hko, (fun e => by have := (hnil9.1 e).2; omega), (hbw.alloc hbw.size _).grown hgrow9 hbz (fun j hj => (HROW.out.2.1.lt j hj).1)⟩, by simp [intOf]; omega⟩
        | true =>
          by_cases he : l[k].p = q
          · have HN : Hid (M = withoutL (l.take (k + 1)) q true) := by show _ = _; rw [HST.out, hu, if_neg (by simp [he]), ← HM.out]
            have hd : (l[k].p.toList != q.toList) = false := by rw [he]; simp
            have hd2 : (l[k].p.toList == q.toList) = true := by rw [he]; simp
            clear he
            go_wp2_with fail
            refine HBL.mono ?_
            rintro e w2 ⟨rfl, rfl⟩
            go_wp2_with fail
            exact ⟨⟨k + 1, M, by omega, by go_num, HN, HROW.out, HNN, hbw⟩, by simp [intOf]; omega⟩
          · have HN : Hid (M ++ [l[k]] = withoutL (l.take (k + 1)) q true) := by show _ = _; rw [HST.out, hu, if_pos (by simp [he]), ← HM.out]
            have hd2 : (l[k].p.toList == q.toList) = false := by rw [str_eq_dec, decide_eq_false he]
            have hd : (l[k].p.toList != q.toList) = true := by rw [bne, hd2]; rfl
            clear he hrow
            go_wp2_with fail
            refine HBL.mono ?_
            rintro e w2 ⟨rfl, rfl⟩
            go_wp2_with (first
              | (at_builtin; refine wpList_append_own _ rfl _ _ 25 rfl w.heap.size 30 i0 (.agg #[.int .i64 0, .string ByteArray.empty, .string ByteArray.empty, .int .i64 0]) 4 48 Tryd.underlying25 hi hI0 hI1 hI2 rfl (by decide) _ _ _ rfl hr3 ⟨wr.heap.size, 0, none⟩ 1 1 (R.ns l[k]) rfl rfl hnews hone (by unfold maxLen; omega) (by omega) hbz ?_; intro v' w9 hown' hgrow9 hnil9; skip))
            exact ⟨⟨k + 1, M ++ [l[k]], by omega, by go_num, HN, rowN_snoc hown' HROW.out.2.2 hko, (fun e => by have := (hnil9.1 e).2; omega), (hbw.alloc hbw.size _).grown hgrow9 hbz (fun j hj => (HROW.out.2.1.lt j hj).1)⟩, by simp [intOf]; omega⟩
    · have HF : Hid (M = withoutL l q s) := by show _ = _; rw [HM.out, List.take_of_length_le (by omega)]
      have HROW := Lib.hid hrow
      obtain ⟨fA, fcap, rfl⟩ := own_form hrow.2.1
      clear hrow
      go_wp2_with fail
      go_ret
      exact ⟨_, rfl, hbw, by rw [← HF.out]; exact HROW.out, HNN.out⟩

def rmC (l : List R) (q : ByteArray) : Int := if codeTT l q ≠ 0 then codeTT l q else remC l q
def remR (l : List R) (q : ByteArray) : List R := if codeTT l q ≠ 0 then [] else if remC l q = 0 then withoutL l q true else l
def RmPost (l : List R) (q : ByteArray) (w : World) (e : Ending) (w' : World) : Prop :=
  ∃ x, e = .returned (.tuple #[x, .int .i64 (rmC l q)]) ∧ Below w.heap.size w w' ∧ RowN w' w.heap.size x (remR l q).length (remR l q)
theorem rem_len (l : List R) (q : ByteArray) (hl : l.length ≤ 1048576) : (remR l q).length ≤ 1048576 := by
  unfold remR
  split
  · simp
  · split
    · exact Nat.le_trans (without_len _ _ _) hl
    · exact hl
theorem rm_err {l : List R} {q : ByteArray} {c : Int} (h : codeTT l q = c) (hc : c ≠ 0) {w w' : World} {x : Value} (hb : Below w.heap.size w w') (ho : w'.ownsRow w.heap.size 30 4 x 0 []) : RmPost l q w (.returned (.tuple #[x, .int .i64 c])) w' := by
  have e1 : rmC l q = c := by unfold rmC; rw [h, if_pos hc]
  have e2 : remR l q = [] := by unfold remR; rw [h, if_pos hc]
  refine ⟨x, by rw [e1], hb, ?_⟩
  rw [e2]
  exact ⟨rfl, ho, fun r hr => by cases hr⟩
theorem rm_stay {l : List R} {q : ByteArray} {c : Int} (h : codeTT l q = 0) (hr : remC l q = c) (hc : c ≠ 0) (hlo : ∀ r ∈ l, r.o = false) {w w' : World} {base : Nat} {x : Value} (hb : Below w.heap.size w w') (ho : w'.ownsRow base 30 4 x l.length (flatN l)) (hle : w.heap.size ≤ base) : RmPost l q w (.returned (.tuple #[x, .int .i64 c])) w' := by
  have e1 : rmC l q = c := by unfold rmC; rw [if_neg (by simpa using h), hr]
  have e2 : remR l q = l := by unfold remR; rw [if_neg (by simpa using h), if_neg (by rw [hr]; exact hc)]
  refine ⟨x, by rw [e1], hb, ?_⟩
  rw [e2]
  exact ⟨rfl, own_down ho hle, hlo⟩
theorem rm_stay_at {l : List R} {q : ByteArray} {c : Int} (h : codeTT l q = 0) (hr : remC l q = c) (hc : c ≠ 0) (hlo : ∀ r ∈ l, r.o = false) {w w' : World} {x : Value} (hb : Below w.heap.size w w') (ho : w'.ownsRow w.heap.size 30 4 x l.length (flatN l)) : RmPost l q w (.returned (.tuple #[x, .int .i64 c])) w' := rm_stay h hr hc hlo hb ho (Nat.le_refl _)
theorem rm_done {l : List R} {q : ByteArray} (h : codeTT l q = 0) (hr : remC l q = 0) {w w' : World} {base : Nat} {x : Value} (hb : Below w.heap.size w w') (ho : RowN w' base x (withoutL l q true).length (withoutL l q true)) (hle : w.heap.size ≤ base) : RmPost l q w (.returned (.tuple #[x, .int .i64 0])) w' := by
  have e1 : rmC l q = 0 := by unfold rmC; rw [if_neg (by simpa using h), hr]
  have e2 : remR l q = withoutL l q true := by unfold remR; rw [if_neg (by simpa using h), if_pos hr]
  refine ⟨x, by rw [e1], hb, ?_⟩
  rw [e2]
  exact ⟨ho.1, own_down ho.2.1 hle, ho.2.2⟩
theorem remC_name {l : List R} {q : ByteArray} (h : pathB q.data.toList = false) : remC l q = 10 := by unfold remC; rw [h]; rfl
theorem remC_find {l : List R} {q : ByteArray} (h : pathB q.data.toList = true) : remC l q = (findT l q).2 := by unfold remC; rw [h, if_pos rfl]

set_option maxHeartbeats 3200000 in
theorem removeNode_spec (v : Value) (l : List R) (q : ByteArray) (base : Nat) (w : World) (hrow : RowN w base v l.length l) (hv : v ≠ .slice none 0 0) (hl : l.length ≤ 1048576) :
    Calls Tryd.prog 29 #[v, .string q] w (RmPost l q w) := by
  obtain ⟨i0, hi, hI0, hI1, hI2⟩ := info_parts nodInfo
  have hsl := hrow.sl
  have HC := l04Ask_any v l q w hsl hl
  obtain ⟨g, cap, rfl, hcap, hcm, hgb, hgl⟩ := notnil hrow hv
  have HLO := Lib.hid hrow.2.2
  clear hv
  by_cases h4 : 4096 < l.length
  · have HE := Lib.hid (show codeTT l q = 2 by unfold codeTT; rw [if_pos (.inl h4)])
    have hd : decide ((4096 : Int) < (l.length : Int)) = true := by simp; omega
    have c0 := Below.refl w.heap.size w
    go_enter Tryd.func29, Tryd.ntmps29
    have hE : (w.alloc (.cells #[] 30)).ownsRow w.heap.size 30 4 (.slice (some ⟨w.heap.size, 0, none⟩) 0 0) 0 [] := World.ownsRow_lit w #[] 0 c0.size (Nat.zero_le _) rfl
    have cE : Below w.heap.size w (w.alloc (.cells #[] 30)) := c0.alloc c0.size _
    go_wp2_with fail
    go_ret2
    exact rm_err HE.out (by decide) cE hE
  have hd4 : decide ((4096 : Int) < (l.length : Int)) = false := by simp; omega
  by_cases h5 : 65536 < q.size
  · have HE := Lib.hid (show codeTT l q = 2 by unfold codeTT; rw [if_pos (.inr h5)])
    have hd : decide ((65536 : Int) < (q.size : Int)) = true := by simp; omega
    have c0 := Below.refl w.heap.size w
    go_enter Tryd.func29, Tryd.ntmps29
    have hE : (w.alloc (.cells #[] 30)).ownsRow w.heap.size 30 4 (.slice (some ⟨w.heap.size, 0, none⟩) 0 0) 0 [] := World.ownsRow_lit w #[] 0 c0.size (Nat.zero_le _) rfl
    have cE : Below w.heap.size w (w.alloc (.cells #[] 30)) := c0.alloc c0.size _
    go_wp2_with fail
    go_ret2
    exact rm_err HE.out (by decide) cE hE
  have hd5 : decide ((65536 : Int) < (q.size : Int)) = false := by simp; omega
  go_enter Tryd.func29, Tryd.ntmps29
  go_wp2_with fail
  refine HC.mono ?_
  rintro e w1 ⟨rfl, hb1⟩
  by_cases h0 : codeTT l q = 0
  case neg =>
    have hd : (codeTT l q != 0) = true := by simpa using h0
    generalize hcc : codeTT l q = c at *
    have HE := Lib.hid hcc
    have H0 := Lib.hid h0
    clear h0 hcc
    have hE : (w1.alloc (.cells #[] 30)).ownsRow w.heap.size 30 4 (.slice (some ⟨w1.heap.size, 0, none⟩) 0 0) 0 [] := World.ownsRow_lit w1 #[] 0 hb1.size (Nat.zero_le _) rfl
    have cE : Below w.heap.size w (w1.alloc (.cells #[] 30)) := hb1.alloc hb1.size _
    go_wp2_with fail
    go_ret2
    exact rm_err HE.out H0.out cE hE
  have HT := Lib.hid (code_tree h0)
  have hlen := HT.out.len
  have H0 := Lib.hid h0
  have HP := l01OK_any q w1
  rw [h0]
  clear h0
  cases hp : pathB q.data.toList with
  | false =>
    have HE := Lib.hid (remC_name (l := l) hp)
    rw [hp] at HP
    go_wp2_with fail
    refine HP.mono ?_
    rintro e w2 ⟨rfl, hb2⟩
    have c2 := hb1.trans (hb2.mono hb1.size)
    have hr2 := hrow.below c2
    have hE : (w2.alloc (.cells #[] 30)).ownsRow w.heap.size 30 4 (.slice (some ⟨w2.heap.size, 0, none⟩) 0 0) 0 [] := World.ownsRow_lit w2 #[] 0 c2.size (Nat.zero_le _) rfl
    have cE : Below w.heap.size w (w2.alloc (.cells #[] 30)) := c2.alloc c2.size _
    have hsrc := src_cells (hr2.below ((Below.refl w2.heap.size w2).alloc (Nat.le_refl _) (.cells #[] 30))) 0 l (.inl rfl)
    have hfl := flatN_len l
    have hone := flatN_one l
    have hbz := cE.size
    rw [Nat.zero_mul] at hsrc
    go_wp2_with (first
      | (at_builtin; refine wpList_append_own _ rfl _ _ 25 rfl w.heap.size 30 i0 (.agg #[.int .i64 0, .string ByteArray.empty, .string ByteArray.empty, .int .i64 0]) 4 48 Tryd.underlying25 hi hI0 hI1 hI2 rfl (by decide) _ _ _ rfl hE ⟨g, 0, none⟩ l.length cap (flatN l) rfl hfl hsrc hone (by unfold maxLen; omega) (by omega) hbz ?_; intro v' w9 hown' hgrow9 hnil9; rw [Nat.zero_add, List.nil_append] at hown'; have HPO := Lib.hid (rm_stay_at H0.out HE.out (by decide) HLO.out (cE.grown hgrow9 hbz (fun j hj => (hE.lt j hj).1)) hown'); obtain ⟨vA, vc, rfl⟩ := own_form hown'; clear hown' hgrow9 hnil9))
    go_ret2
    exact HPO.out
  | true =>
    have HRC := Lib.hid (remC_find (l := l) hp)
    rw [hp] at HP
    go_wp2_with fail
    refine HP.mono ?_
    rintro e w2 ⟨rfl, hb2⟩
    have c2 := hb1.trans (hb2.mono hb1.size)
    have HFI := l04Find_any _ l q w2 (hsl.below c2) hl HT.out.is hp
    unfold foundV R.nod at HFI
    generalize hF : findT l q = F at *
    go_wp2_with fail
    refine HFI.mono ?_
    rintro e w3 ⟨rfl, hb3⟩
    have c3 := c2.trans (hb3.mono c2.size)
    have c4 : Below w.heap.size w (w3.alloc (.cells #[.int .i64 F.1.k, .string F.1.p, .string F.1.b, .int .i64 F.1.m] 30)) := c3.alloc c3.size _
    have hsz4 : (w3.alloc (.cells #[.int .i64 F.1.k, .string F.1.p, .string F.1.b, .int .i64 F.1.m] 30)).heap.size = w3.heap.size + 1 := by simp
    have hr4 := hrow.below c4
    by_cases h2 : F.2 = 0
    · have HE : Hid (remC l q = 0) := by show _ = _; rw [HRC.out, h2]
      have hd : (F.2 != 0) = false := by simpa using h2
      have HWI := l04Without_any _ l q true _ hr4.sl (by omega) HT.out.is.path hp
      clear h2
      go_wp2_with fail
      refine HWI.mono ?_
      rintro e w5 ⟨x, rfl, hb5, hr5, -⟩
      have HR := Lib.hid hr5
      obtain ⟨xA, xc, rfl⟩ := own_form hr5.2.1
      clear hr5
      go_wp2_with fail
      go_ret2
      exact rm_done H0.out HE.out (c4.trans (hb5.mono c4.size)) HR.out c4.size
    · have HE := HRC
      have H2 := Lib.hid h2
      have hd : (F.2 != 0) = true := by simpa using h2
      clear h2 hsz4
      have hE : ((w3.alloc (.cells #[.int .i64 F.1.k, .string F.1.p, .string F.1.b, .int .i64 F.1.m] 30)).alloc (.cells #[] 30)).ownsRow w.heap.size 30 4 (.slice (some ⟨w3.heap.size + 1, 0, none⟩) 0 0) 0 [] := by have := World.ownsRow_lit (w3.alloc (.cells #[.int .i64 F.1.k, .string F.1.p, .string F.1.b, .int .i64 F.1.m] 30)) (e := 30) (size := 4) (base := w.heap.size) #[] 0 c4.size (Nat.zero_le _) rfl; rw [World.size_alloc] at this; exact this
      have cE : Below w.heap.size w ((w3.alloc (.cells #[.int .i64 F.1.k, .string F.1.p, .string F.1.b, .int .i64 F.1.m] 30)).alloc (.cells #[] 30)) := c4.alloc c4.size _
      have hsrc := src_cells (hr4.below ((Below.refl (w3.alloc (.cells #[.int .i64 F.1.k, .string F.1.p, .string F.1.b, .int .i64 F.1.m] 30)).heap.size (w3.alloc (.cells #[.int .i64 F.1.k, .string F.1.p, .string F.1.b, .int .i64 F.1.m] 30))).alloc (Nat.le_refl _) (.cells #[] 30))) 0 l (.inl rfl)
      have hfl := flatN_len l
      have hone := flatN_one l
      have hbz := cE.size
      rw [Nat.zero_mul] at hsrc
      go_wp2_with (first
        | (at_builtin; refine wpList_append_own _ rfl _ _ 25 rfl w.heap.size 30 i0 (.agg #[.int .i64 0, .string ByteArray.empty, .string ByteArray.empty, .int .i64 0]) 4 48 Tryd.underlying25 hi hI0 hI1 hI2 rfl (by decide) _ _ _ rfl hE ⟨g, 0, none⟩ l.length cap (flatN l) rfl hfl hsrc hone (by unfold maxLen; omega) (by omega) hbz ?_; intro v' w9 hown' hgrow9 hnil9; rw [Nat.zero_add, List.nil_append] at hown'; have HPO := Lib.hid (rm_stay_at H0.out HE.out H2.out HLO.out (cE.grown hgrow9 hbz (fun j hj => (hE.lt j hj).1)) hown'); obtain ⟨vA, vc, rfl⟩ := own_form hown'; clear hown' hgrow9 hnil9))
      go_ret2
      exact HPO.out

set_option maxHeartbeats 3200000 in
theorem removeNode_impl (v : Value) (l : List R) (q : ByteArray) (x y : Addr) (w : World) (h : NodSl w v l) (hl : l.length ≤ 1048576) (hr : ∀ r ∈ l, r.p.size ≤ maxLen) (hqm : q.size ≤ maxLen) (hT : Three w x y) :
    Calls Tryd.prog 30 #[v, .string q] w (RmPost l q w) := by
  have HG := growTree_any v l x y w h hl hr hT
  obtain ⟨ho, sA, cap, rfl, hcap, h⟩ := h
  clear h
  go_enter Tryd.func30, Tryd.ntmps30
  go_wp2_with fail
  refine HG.mono ?_
  rintro e w1 ⟨hb1, HK⟩
  have hT1 := hT.below hb1 (Nat.le_refl _)
  have HXA := checkTextN_any q x y w1 hT1.long
  rcases HK with ⟨hk, rfl⟩ | ⟨hk, A, S, rfl, hTr⟩
  · cases hg : growK l with
    | fine => exact absurd hg hk
    | long =>
      cases ht : textN q with
      | fine =>
        unfold EN.val
        unfold errV
        have HA := argN2_any .long .fine x y w1 hT1
        have HX := HXA
        rw [ht] at HX
        have HE : Hid (codeTT l q = 2) := by show _ = _; rw [← arg_tt, hg, ht]; rfl
        clear HXA
        unfold EN.val at HX HA
        unfold errV at HX HA
        go_wp2_with fail
        refine HX.mono ?_
        rintro e w2 ⟨rfl, rfl⟩
        go_wp2_with fail
        refine HA.mono ?_
        rintro e w3 ⟨rfl, hb3⟩
        have c3 := hb1.trans (hb3.mono hb1.size)
        have hcode : enFrom [.long, .fine] 0 = 2 := rfl
        rw [hcode]
        go_wp2_with fail
        go_ret2
        exact rm_err HE.out (by decide) c3 (World.ownsRow_nil _ _ _ _)
      | long =>
        unfold EN.val
        unfold errV
        have HA := argN2_any .long .long x y w1 hT1
        have HX := HXA
        rw [ht] at HX
        have HE : Hid (codeTT l q = 2) := by show _ = _; rw [← arg_tt, hg, ht]; rfl
        clear HXA
        unfold EN.val at HX HA
        unfold errV at HX HA
        go_wp2_with fail
        refine HX.mono ?_
        rintro e w2 ⟨rfl, rfl⟩
        go_wp2_with fail
        refine HA.mono ?_
        rintro e w3 ⟨rfl, hb3⟩
        have c3 := hb1.trans (hb3.mono hb1.size)
        have hcode : enFrom [.long, .long] 0 = 2 := rfl
        rw [hcode]
        go_wp2_with fail
        go_ret2
        exact rm_err HE.out (by decide) c3 (World.ownsRow_nil _ _ _ _)
      | inv => exact absurd ht textN_not
    | inv =>
      cases ht : textN q with
      | fine =>
        unfold EN.val
        unfold errV
        have HA := argN2_any .inv .fine x y w1 hT1
        have HX := HXA
        rw [ht] at HX
        have HE : Hid (codeTT l q = 1) := by show _ = _; rw [← arg_tt, hg, ht]; rfl
        clear HXA
        unfold EN.val at HX HA
        unfold errV at HX HA
        go_wp2_with fail
        refine HX.mono ?_
        rintro e w2 ⟨rfl, rfl⟩
        go_wp2_with fail
        refine HA.mono ?_
        rintro e w3 ⟨rfl, hb3⟩
        have c3 := hb1.trans (hb3.mono hb1.size)
        have hcode : enFrom [.inv, .fine] 0 = 1 := rfl
        rw [hcode]
        go_wp2_with fail
        go_ret2
        exact rm_err HE.out (by decide) c3 (World.ownsRow_nil _ _ _ _)
      | long =>
        unfold EN.val
        unfold errV
        have HA := argN2_any .inv .long x y w1 hT1
        have HX := HXA
        rw [ht] at HX
        have HE : Hid (codeTT l q = 2) := by show _ = _; rw [← arg_tt, hg, ht]; rfl
        clear HXA
        unfold EN.val at HX HA
        unfold errV at HX HA
        go_wp2_with fail
        refine HX.mono ?_
        rintro e w2 ⟨rfl, rfl⟩
        go_wp2_with fail
        refine HA.mono ?_
        rintro e w3 ⟨rfl, hb3⟩
        have c3 := hb1.trans (hb3.mono hb1.size)
        have hcode : enFrom [.inv, .long] 0 = 2 := rfl
        rw [hcode]
        go_wp2_with fail
        go_ret2
        exact rm_err HE.out (by decide) c3 (World.ownsRow_nil _ _ _ _)
      | inv => exact absurd ht textN_not
  · have hg := hk
    unfold ptr
    cases ht : textN q with
    | long =>
      have HA := argN2_any .fine .long x y w1 hT1
      have HX := HXA
      rw [ht] at HX
      have HE : Hid (codeTT l q = 2) := by show _ = _; rw [← arg_tt, hg, ht]; rfl
      clear HXA
      unfold EN.val at HX HA
      unfold errV at HX HA
      go_wp2_with fail
      refine HX.mono ?_
      rintro e w2 ⟨rfl, rfl⟩
      go_wp2_with fail
      refine HA.mono ?_
      rintro e w3 ⟨rfl, hb3⟩
      have c3 := hb1.trans (hb3.mono hb1.size)
      have hcode : enFrom [.fine, .long] 0 = 2 := rfl
      rw [hcode]
      go_wp2_with fail
      go_ret2
      exact rm_err HE.out (by decide) c3 (World.ownsRow_nil _ _ _ _)
    | inv => exact absurd ht textN_not
    | fine =>
      have H0 := Lib.hid (show codeTT l q = 0 by rw [← arg_tt, hg, ht]; rfl)
      have HA := argN2_any .fine .fine x y w1 hT1
      have HX := HXA
      rw [ht] at HX
      clear HXA
      unfold EN.val at HX HA
      unfold errV at HX HA
      go_wp2_with fail
      refine HX.mono ?_
      rintro e w2 ⟨rfl, rfl⟩
      go_wp2_with fail
      refine HA.mono ?_
      rintro e w3 ⟨rfl, hb3⟩
      have c3 := hb1.trans (hb3.mono hb1.size)
      have hTr3 := hTr.below hb3
      have hcode : enFrom [.fine, .fine] 0 = 0 := rfl
      rw [hcode]
      have HTR := Lib.hid (code_tree H0.out)
      have hl24 := HTR.out.len
      have HRM := remove_any hTr3 HTR.out.is (by omega) q hqm
      unfold ptr at HRM
      go_wp2_with fail
      refine HRM.mono ?_
      rintro e w4 ⟨rfl, ⟨S', hTr4⟩, hb4⟩
      have c4 := c3.trans hb4
      by_cases h0 : remC l q = 0
      · rw [if_pos h0] at hTr4
        have htw := without_tree HTR.out q
        have HN := nodes_any hTr4 htw.is (Nat.le_trans htw.len (by decide)) (fun r hm => ho r (mem_without.1 hm).1)
        have HE := Lib.hid h0
        unfold ptr at HN
        rw [h0]
        clear h0
        go_wp2_with fail
        refine HN.mono ?_
        rintro e w5 ⟨x5, rfl, hb5, hr5⟩
        have HR := Lib.hid hr5
        obtain ⟨xA, xc, rfl⟩ := own_form hr5.2.1
        clear hr5
        go_wp2_with fail
        go_ret2
        exact rm_done H0.out HE.out (c4.trans (hb5.mono c4.size)) HR.out c4.size
      · rw [if_neg h0] at hTr4
        have HN := nodes_any hTr4 HTR.out.is (by omega) ho
        have HE := Lib.hid h0
        unfold ptr at HN
        generalize hrc : remC l q = c at *
        have HRC := Lib.hid hrc
        clear h0 hrc
        go_wp2_with fail
        refine HN.mono ?_
        rintro e w5 ⟨x5, rfl, hb5, hr5⟩
        have HR := Lib.hid hr5
        obtain ⟨xA, xc, rfl⟩ := own_form hr5.2.1
        clear hr5
        go_wp2_with fail
        go_ret2
        exact rm_stay H0.out HRC.out HE.out ho (c4.trans (hb5.mono c4.size)) HR.out.2.1 c4.size
end Go.Proofs.YtblfgnlelhjcnaaDoor.Recs
