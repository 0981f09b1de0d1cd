/- Parts of several texts of mine in one file (each begins with its own remark). -/
import Derived.Test.YtibekkfbpmloiabGreatDoorHA1
import Derived.Test.YtibekkfbpmloiabGreatDoorChecked
import Derived.Deep.Draws
import Derived.Deep.LoopGhost
import Derived.WalkKit
import Derived.WalkSpells
import Derived.WalkSmall
import Derived.Lib.OthersKept
import Derived.Lib.Hide
import Derived.Lib.Strings
/- Paths: what splitPath of the program answers. -/
namespace Go.Proofs.YtibekkfbpmloiabGreatDoor.Paths
open Go.RowKit

theorem strInfo : (Tryz.prog.info? 9).map (fun i => (i.zero, i.size, i.bytes)) = some (some (.string ByteArray.empty), 1, 16) := by kernel_rfl

def strV (l : List UInt8) : Value := .string ⟨l.toArray⟩
theorem strV_data (s : ByteArray) : strV s.data.toList = .string s := rfl
theorem strV_take (s : ByteArray) (k : Nat) : .string (s.extract 0 k) = strV (s.data.toList.take k) := by
  unfold strV
  rw [Lib.extract_eq]
  simp
theorem extract_take (s : ByteArray) (k : Nat) : (s.extract 0 k).data.toList = s.data.toList.take k := by
  rw [Lib.extract_data]; simp
theorem extract_drop (s : ByteArray) (k : Nat) : (s.extract k s.size).data.toList = s.data.toList.drop k := by
  rw [Lib.extract_data, List.take_of_length_le]
  rw [List.length_drop, ← Lib.size_eq]
  exact Nat.le_refl _
def partsOf (l : List UInt8) : List (List UInt8) := if pathB l then cutAt 47 l else []

/-- What splitPath leaves: its parts in a row of its own, nil where there are none. -/
def SplitPost (l : List UInt8) (w w' : World) (v : Value) : Prop :=
  Below w.heap.size w w' ∧ w'.ownsRow w.heap.size 9 1 v (partsOf l).length ((partsOf l).map strV) ∧ (pathB l = false → v = .slice none 0 0) ∧ (pathB l = true → v ≠ .slice none 0 0)

theorem SplitPost.bad {l : List UInt8} {w w' : World} (h : pathB l = false) (hb : Below w.heap.size w w') : SplitPost l w w' (.slice none 0 0) := by
  refine ⟨hb, ?_, fun _ => rfl, fun h2 => by rw [h] at h2; cases h2⟩
  simp [partsOf, h]
  exact World.ownsRow_nil _ _ _ _

theorem own_form {w : World} {base : Nat} {e : TypeId} {size : Nat} {v : Value} {n : Nat} {xs : List Value} (h : w.ownsRow base e size v n xs) : ∃ A cap, v = .slice A n cap := by
  rcases h.2 with ⟨rfl, rfl⟩ | ⟨g, cap, cur, rfl, _⟩
  · exact ⟨none, 0, rfl⟩
  · exact ⟨_, _, rfl⟩

theorem own_below {w w' : World} {base : Nat} {e : TypeId} {size : Nat} {v : Value} {n : Nat} {xs : List Value} (h : w.ownsRow base e size v n xs) (hb : Below w.heap.size w w') : w'.ownsRow base e size v n xs := by
  obtain ⟨h1, h2⟩ := h
  refine ⟨h1, ?_⟩
  rcases h2 with h2 | ⟨g, cap', cur, a, b, c, d⟩
  · exact .inl h2
  · exact .inr ⟨g, cap', cur, a, b, by rw [hb.block g (Array.getElem?_eq_some_iff.1 c).1]; exact c, d⟩

theorem split_more {l : List UInt8} {P : List (List UInt8)} {R : ByteArray} {pos : Nat} (h : cutAt 47 l = P ++ cutAt 47 R.data.toList) (hp : pos < R.size)
    (h47 : ((Utf8.decode R pos).1 : Int) = 47) (hB : partB (R.data.toList.take pos) = true) : cutAt 47 l = (P ++ [R.data.toList.take pos]) ++ cutAt 47 (R.extract (pos + 1) R.size).data.toList := by
  rw [extract_drop, h, cut_step hp h47 hB]
  simp
theorem split_more_no {l : List UInt8} {P : List (List UInt8)} {R : ByteArray} {pos : Nat} (h : cutAt 47 l = P ++ cutAt 47 R.data.toList) (hp : pos < R.size) (hs : Seen R.data.toList pos)
    (h47 : ((Utf8.decode R pos).1 : Int) = 47) (hB : partB (R.data.toList.take pos) = false) : pathB l = false := by
  exact pathB_bad h (cut_step_no hp hs h47 hB)
theorem split_end_no {l : List UInt8} {P : List (List UInt8)} {R : ByteArray} {pos : Nat} (h : cutAt 47 l = P ++ cutAt 47 R.data.toList) (hp : ¬ pos < R.size) (hs : Seen R.data.toList pos)
    (hB : partB R.data.toList = false) : pathB l = false :=
  pathB_bad h (cut_last_no (k := pos) (by rw [← Lib.size_eq]; omega) hs hB)
theorem SplitPost.good {l : List UInt8} {P : List (List UInt8)} {R : ByteArray} {w w' : World} {v : Value} (h : cutAt 47 l = P ++ cutAt 47 R.data.toList) (hP : P.length < 4) (ha : P.all partB = true) (hB : partB R.data.toList = true)
    (hb : Below w.heap.size w w') (hown : w'.ownsRow w.heap.size 9 1 v (P.length + 1) (P.map strV ++ [.string R])) (hn : v ≠ .slice none 0 0) : SplitPost l w w' v := by
  obtain ⟨h1, h2⟩ := pathB_good h hP ha hB
  refine ⟨hb, ?_, fun h3 => (by rw [h1] at h3; cases h3), fun _ => hn⟩
  unfold partsOf
  rw [if_pos h1, h2]
  simpa [strV_data] using hown

theorem own_iterAt {w : World} {base : Nat} {e : TypeId} {size : Nat} {A : Option Addr} {n cap : Nat} {xs : List Value} (h : w.ownsRow base e size (.slice A n cap) n xs) {k : Nat} (hk : A.map Addr.block ≠ some k) (s : ByteArray) (p : Nat) :
    (w.iterAt k s p).ownsRow base e size (.slice A n cap) n xs := by
  obtain ⟨h1, h2⟩ := h
  refine ⟨h1, ?_⟩
  rcases h2 with h2 | ⟨g, cap', cur, a, b, c, d⟩
  · exact .inl h2
  · refine .inr ⟨g, cap', cur, a, b, ?_, d⟩
    cases a
    rw [Lib.iterAt_other _ _ _ _ _ (fun e => hk (by simp [e]))]
    exact c

set_option maxRecDepth 100000 in
set_option maxHeartbeats 1000000 in
theorem splitPath_any (s : ByteArray) (w : World) (hs : s.size ≤ maxLen) : Calls Tryz.prog 100 #[.string s] w fun e w' => ∃ v, e = .returned v ∧ SplitPost s.data.toList w w' v := by
  obtain ⟨i0, hi, hz0, hz1, hz2⟩ := info_parts strInfo
  unfold maxLen at hs
  go_enter Tryz.func100, Tryz.ntmps100
  go_wp2
  go_step3
  go_wp2
  go_step3
  go_wp2
  go_loopg [3, 4] 4 (fun g v r wr => ∃ (P : List (List UInt8)) (R : ByteArray), r = .string R ∧ P.length + g = 4 ∧ P.all partB = true ∧ Hid (cutAt 47 s.data.toList = P ++ cutAt 47 R.data.toList) ∧ wr.ownsRow w.heap.size 9 1 v P.length (P.map strV) ∧ Below w.heap.size w wr ∧ R.size ≤ s.size)
  case atStart => exact ⟨[], s, rfl, rfl, rfl, rfl, World.ownsRow_nil _ _ _ _, Below.refl _ _, Nat.le_refl _⟩
  case round =>
    obtain ⟨P, R, rfl, hP4, hPa, HC, hown, hbw, hRs⟩ := hrel
    obtain ⟨A, cap, rfl⟩ := own_form hown
    cases gk with
    | zero =>
      have hd : decide ((P.length : Int) < 4) = false := by simp; omega
      have HB : Hid (pathB s.data.toList = false) := pathB_many HC.out (by omega)
      go_wp2
      rw [Exit.noGoto_ret]
      go_ret
      exact ⟨_, rfl, SplitPost.bad HB.out hbw⟩
    | succ g =>
      have hd : decide ((P.length : Int) < 4) = true := by simp; omega
      generalize hwo : wr = wo at *
      clear hwo wr
      have hwl := hbw.size
      go_wp2
      go_loopw [3, 4] (fun v3 v4 wx => v3 = .slice A P.length cap ∧ v4 = .string R ∧ ∃ pos : Nat, wx.heap[wo.heap.size]? = some (.stringIter R pos) ∧ Below w.heap.size w wx ∧ wx.ownsRow w.heap.size 9 1 (.slice A P.length cap) P.length (P.map strV) ∧ Seen R.data.toList pos ∧ Hid (A.map Addr.block ≠ some wo.heap.size)) (fun _ _ wx => R.size - wx.iterPos wo.heap.size)
      case atStart => exact ⟨rfl, rfl, 0, World.iter_heap wo R 0, hbw.alloc hbw.size _, hown.alloc _, Seen.zero _, fun h => by have := (hown.lt wo.heap.size (by cases A <;> simp_all [Value.ownBlock])).2; omega⟩
      case round =>
        obtain ⟨rfl, rfl, pos, hit, hbx, hownx, hseen, HA⟩ := hrel
        have hpos0 := iterPos_of hit
        by_cases hp : pos < R.size
        · have hnx : ∀ ty, (Instr.next (.pointer (some ⟨wo.heap.size, 0, none⟩)) true ty).run Tryz.prog wr = _ := fun ty => Lib.run_next_any_at wr wo.heap.size R pos ty hit hp
          have hwd := width_pos R pos hp
          have hit2 := Lib.iterAt_heap wr wo.heap.size R pos (pos + (Utf8.decode R pos).2) hit
          have hbw2 := Lib.below_iterAt hbx (k := wo.heap.size) hwl R (pos + (Utf8.decode R pos).2)
          have hown2 : (wr.iterAt wo.heap.size R (pos + (Utf8.decode R pos).2)).ownsRow w.heap.size 9 1 (.slice A P.length cap) P.length (P.map strV) := own_iterAt hownx HA.out R _
          obtain ⟨W1, hW1⟩ : ∃ W1, W1 = wr.iterAt wo.heap.size R (pos + (Utf8.decode R pos).2) := ⟨_, rfl⟩
          rw [← hW1] at hnx hit2 hbw2 hown2
          clear hW1 hbw hown
          rcases Bool.eq_false_or_eq_true (((Utf8.decode R pos).1 : Int) != 47) with h47 | h47
          · have Hs := Lib.hid (hseen.next hp (by simpa using h47))
            clear hseen
            go_wp2
            go_roundw
            case rel => exact ⟨rfl, rfl, _, hit2, hbw2, hown2, Hs.out, HA⟩
            case measure => rw [hpos0, iterPos_of hit2]; omega
          · have H47 : Hid (((Utf8.decode R pos).1 : Int) = 47) := by show _ = _; simpa using h47
            rcases Bool.eq_false_or_eq_true (partB (R.data.toList.take pos)) with hB | hB
            · have HM := Lib.hid (split_more HC.out hp H47.out hB)
              have HB := Lib.hid hB
              clear hseen
              go_wp2_with fail
              refine (partOK_impl _ _).mono ?_
              rintro e w2 ⟨rfl, hb2⟩
              have hown3 := own_below hown2 hb2
              have hbw3 := hbw2.trans (hb2.mono hbw2.size)
              have hs3 := hbw3.size
              go_wp2_with (first
                | (at_builtin; refine wpList_append_own _ rfl _ _ 32 rfl w.heap.size 9 i0 (.string ByteArray.empty) 1 16 Tryz.underlying32 hi hz0 hz1 hz2 rfl (by decide) _ _ _ rfl (hown3.alloc _) ⟨w2.heap.size, 0, none⟩ 1 1 [.string (R.extract 0 pos)] rfl rfl (cell_one_new _ _ _) (fun x hx => by simp at hx; subst hx; rfl) (by unfold maxLen; omega) (by omega) (by simp; omega) ?_; intro v' w3 hown' hgrow3 hnil3))
              go_roundg g
              case measure => omega
              case rel =>
                refine ⟨P ++ [R.data.toList.take pos], _, rfl, by simp; omega, by simp [hPa, HB.out], HM.out, ?_, (hbw3.alloc hbw3.size _).grown hgrow3 (by simp; omega) (fun q hq => (hown3.lt q hq).1), by simp; omega⟩
                simpa [strV_take] using hown'
            · have HB := Lib.hid (split_more_no HC.out hp hseen H47.out hB)
              clear hseen
              go_wp2_with fail
              refine (partOK_impl _ _).mono ?_
              rintro e w2 ⟨rfl, hb2⟩
              go_wp2
              rw [Exit.noGoto_ret]
              go_ret
              exact ⟨_, rfl, SplitPost.bad HB.out (hbw2.trans (hb2.mono hbw2.size))⟩
        · have hnx : ∀ ty, (Instr.next (.pointer (some ⟨wo.heap.size, 0, none⟩)) true ty).run Tryz.prog wr = _ := fun ty => Lib.run_next_end_at wr wo.heap.size R pos ty hit hp
          clear hbw hown
          rcases Bool.eq_false_or_eq_true (partB R.data.toList) with hB | hB
          · have HB := Lib.hid hB
            clear hseen
            go_wp2_with fail
            refine (partOK_impl _ _).mono ?_
            rintro e w2 ⟨rfl, hb2⟩
            have hown3 := own_below hownx hb2
            have hbw3 := hbx.trans (hb2.mono hbx.size)
            have hs3 := hbw3.size
            go_wp2_with (first
              | (at_builtin; refine wpList_append_own _ rfl _ _ 32 rfl w.heap.size 9 i0 (.string ByteArray.empty) 1 16 Tryz.underlying32 hi hz0 hz1 hz2 rfl (by decide) _ _ _ rfl (hown3.alloc _) ⟨w2.heap.size, 0, none⟩ 1 1 [.string R] rfl rfl (cell_one_new _ _ _) (fun x hx => by simp at hx; subst hx; rfl) (by unfold maxLen; omega) (by omega) (by simp; omega) ?_; intro v' w3 hown' hgrow3 hnil3))
            rw [Exit.noGoto_ret]
            go_ret
            exact ⟨_, rfl, SplitPost.good HC.out (by omega) hPa HB.out ((hbw3.alloc hbw3.size _).grown hgrow3 (by simp; omega) (fun q hq => (hown3.lt q hq).1)) hown' (fun h => by have := (hnil3.1 h).2; omega)⟩
          · have HB := Lib.hid (split_end_no HC.out hp hseen hB)
            clear hseen
            go_wp2_with fail
            refine (partOK_impl _ _).mono ?_
            rintro e w2 ⟨rfl, hb2⟩
            go_wp2
            rw [Exit.noGoto_ret]
            go_ret
            exact ⟨_, rfl, SplitPost.bad HB.out (hbx.trans (hb2.mono hbx.size))⟩
end Go.Proofs.YtibekkfbpmloiabGreatDoor.Paths

/- Plain facts on lists of bytes: a list cut at a sign, step by step. -/
namespace Go.Proofs.YtibekkfbpmloiabGreatDoor

/-- From place f up to k no byte is c. -/
def Gap (l : List UInt8) (c : UInt8) (f k : Nat) : Prop := ∀ d ∈ (l.drop f).take (k - f), d ≠ c
theorem Gap.refl (l : List UInt8) (c : UInt8) (f : Nat) : Gap l c f f := by unfold Gap; simp

theorem gap_snoc (s : ByteArray) {f k : Nat} (hf : f ≤ k) (hk : k < s.size) : (s.data.toList.drop f).take (k + 1 - f) = (s.data.toList.drop f).take (k - f) ++ [s[k]] := by
  have hl : k < s.data.toList.length := by rw [← Lib.size_eq]; exact hk
  rw [show k + 1 - f = (k - f) + 1 by omega, List.take_succ_eq_append_getElem (by rw [List.length_drop]; omega)]
  congr 2
  rw [List.getElem_drop]
  simp only [show f + (k - f) = k by omega]
  rfl
theorem Gap.next {s : ByteArray} {c : UInt8} {f k : Nat} (h : Gap s.data.toList c f k) (hf : f ≤ k) (hk : k < s.size) (hne : s[k] ≠ c) : Gap s.data.toList c f (k + 1) := by
  unfold Gap
  rw [gap_snoc s hf hk]
  intro d hd
  rcases List.mem_append.1 hd with hd | hd
  · exact h d hd
  · simp at hd; subst hd; exact hne
theorem Gap.cut {s : ByteArray} {c : UInt8} {f k : Nat} (h : Gap s.data.toList c f k) (hf : f ≤ k) (hk : k < s.size) (he : s[k] = c) :
    cutAt c (s.data.toList.drop f) = (s.data.toList.drop f).take (k - f) :: cutAt c (s.data.toList.drop (k + 1)) := by
  have e : s.data.toList.drop f = (s.data.toList.drop f).take (k - f) ++ c :: s.data.toList.drop (k + 1) := by
    conv => lhs; rw [← List.take_append_drop (k - f) (s.data.toList.drop f)]
    rw [List.drop_drop, show f + (k - f) = k by omega, drop_cons s k hk, he]
  have := cutAt_at (s.data.toList.drop (k + 1)) h
  rw [← e] at this
  exact this
theorem Gap.last {s : ByteArray} {c : UInt8} {f k : Nat} (h : Gap s.data.toList c f k) (hk : ¬ k < s.size) : cutAt c (s.data.toList.drop f) = [s.data.toList.drop f] := by
  apply cutAt_clean
  unfold Gap at h
  rw [List.take_of_length_le (by rw [List.length_drop, ← Lib.size_eq]; omega)] at h
  exact h

theorem cutAt_sum (x : UInt8) (l : List UInt8) : ((cutAt x l).map List.length).sum + (cutAt x l).length = l.length + 1 := by
  induction l with
  | nil => rfl
  | cons c r ih =>
    simp only [cutAt]
    split
    · simp; omega
    · split
      · rename_i h; exact absurd h (cutAt_ne x r)
      · rename_i h; rw [h] at ih; simp at ih ⊢; omega
theorem sum_le {L : List (List UInt8)} (h : L.all partB = true) : (L.map List.length).sum ≤ 8 * L.length := by
  induction L with
  | nil => simp
  | cons a r ih =>
    simp only [List.all_cons, Bool.and_eq_true] at h
    have := partB_len h.1
    have := ih h.2
    simp
    omega
/-- A path has at most 35 bytes. -/
theorem pathB_len {l : List UInt8} (h : pathB l = true) : l.length ≤ 35 := by
  unfold pathB at h
  simp only [Bool.and_eq_true, decide_eq_true_eq] at h
  have := cutAt_sum 47 l
  have := sum_le h.2
  omega
theorem pathB_long {s : ByteArray} (h : 36 < s.size) : pathB s.data.toList = false := by
  rw [Bool.eq_false_iff]
  intro hp
  have := pathB_len hp
  rw [← Lib.size_eq] at this
  omega
theorem pathB_ne {l : List UInt8} (h : pathB l = true) : l ≠ [] := by
  rintro rfl
  revert h
  decide

end Go.Proofs.YtibekkfbpmloiabGreatDoor

/- Paths: what the model's l00Cut and l01OK answer. -/
namespace Go.Proofs.YtibekkfbpmloiabGreatDoor.Paths
open Go.RowKit

/-- What l00Cut leaves: the pieces in a row of its own. -/
def CutPost (c : UInt8) (l : List UInt8) (w w' : World) (v : Value) : Prop :=
  Below w.heap.size w w' ∧ w'.ownsRow w.heap.size 9 1 v (cutAt c l).length ((cutAt c l).map strV)

theorem strV_mid (s : ByteArray) (f k : Nat) : .string (s.extract f k) = strV ((s.data.toList.drop f).take (k - f)) := by
  unfold strV
  rw [Lib.extract_eq]
theorem strV_drop (s : ByteArray) (f : Nat) : .string (s.extract f s.size) = strV (s.data.toList.drop f) := by
  rw [← strV_data, extract_drop]

set_option maxRecDepth 100000 in
set_option maxHeartbeats 1000000 in
theorem l00Cut_any (s : ByteArray) (x : Int) (c : UInt8) (hx : x = (c.toNat : Int)) (w : World) (hs : s.size ≤ 1099511627776) : Calls Tryz.prog 142 #[.string s, .int .u8 x] w fun e w' => ∃ v, e = .returned v ∧ CutPost c s.data.toList w w' v := by
  obtain ⟨i0, hi, hz0, hz1, hz2⟩ := info_parts strInfo
  have HX := Lib.hid hx
  clear hx
  go_enter Tryz.func142, Tryz.ntmps142
  go_wp2
  go_loopw [5, 6, 7] (fun v f i wr => ∃ (P : List (List UInt8)) (fn k : Nat), f = .int .i64 fn ∧ i = .int .i64 k ∧ fn ≤ k ∧ k ≤ s.size ∧ P.length ≤ fn ∧ Hid (cutAt c s.data.toList = P ++ cutAt c (s.data.toList.drop fn)) ∧ Hid (Gap s.data.toList c fn k) ∧ wr.ownsRow w.heap.size 9 1 v P.length (P.map strV) ∧ Below w.heap.size w wr) (fun _ _ i _ => s.size - (intOf i).toNat)
  case atStart =>
    exact ⟨[], 0, 0, rfl, rfl, by omega, by omega, by simp, rfl, Gap.refl _ _ _, World.ownsRow_made _ _ 0 (Nat.le_refl _) (by simp [maxLen]) (by simp), (Below.refl _ _).alloc (Nat.le_refl _) _⟩
  case round =>
    obtain ⟨P, f, k, rfl, rfl, hfk, hks, hPf, HC, HG, hown, hbw⟩ := hrel
    obtain ⟨A, cap, rfl⟩ := own_form hown
    have hsz := hbw.size
    by_cases hlt : k < s.size
    · rcases Bool.eq_false_or_eq_true ((s[k].toNat : Int) == x) with he | he
      · have HE : Hid (s[k] = c) := by show _ = _; simp at he; rw [HX.out] at he; exact UInt8.toNat_inj.1 (by omega)
        have HM : Hid (cutAt c s.data.toList = (P ++ [(s.data.toList.drop f).take (k - f)]) ++ cutAt c (s.data.toList.drop (k + 1))) := by
          show _ = _
          rw [HC.out, HG.out.cut hfk hlt HE.out]
          simp
        go_wp2_with (first
          | (at_builtin; refine wpList_append_own _ rfl _ _ 32 rfl w.heap.size 9 i0 (.string ByteArray.empty) 1 16 Tryz.underlying32 hi hz0 hz1 hz2 rfl (by decide) _ _ _ rfl (hown.alloc _) ⟨wr.heap.size, 0, none⟩ 1 1 [.string (s.extract f k)] rfl rfl (cell_one_new _ _ _) (fun x hx => by simp at hx; subst hx; rfl) (by unfold maxLen; omega) (by omega) (by simp; omega) ?_; intro v' w3 hown' hgrow3 hnil3))
        go_roundw
        case rel =>
          refine ⟨P ++ [(s.data.toList.drop f).take (k - f)], k + 1, k + 1, by go_num, by go_num, by omega, by omega, by simp; omega, HM, Gap.refl _ _ _, ?_, (hbw.alloc hbw.size _).grown hgrow3 (by simp; omega) (fun q hq => (hown.lt q hq).1)⟩
          simpa [strV_mid] using hown'
        case measure => simp [intOf]; omega
      · have HN : Hid (s[k] ≠ c) := fun e => by simp at he; rw [HX.out, e] at he; exact he rfl
        go_wp2
        go_roundw
        case rel => exact ⟨P, f, k + 1, rfl, by go_num, by omega, by omega, hPf, HC, HG.out.next hfk hlt HN.out, hown, hbw⟩
        case measure => simp [intOf]; omega
    · have HM : Hid (cutAt c s.data.toList = P ++ [s.data.toList.drop f]) := by
        show _ = _
        rw [HC.out, HG.out.last hlt]
      go_wp2_with (first
        | (at_builtin; refine wpList_append_own _ rfl _ _ 32 rfl w.heap.size 9 i0 (.string ByteArray.empty) 1 16 Tryz.underlying32 hi hz0 hz1 hz2 rfl (by decide) _ _ _ rfl (hown.alloc _) ⟨wr.heap.size, 0, none⟩ 1 1 [.string (s.extract f s.size)] rfl rfl (cell_one_new _ _ _) (fun x hx => by simp at hx; subst hx; rfl) (by unfold maxLen; omega) (by omega) (by simp; omega) ?_; intro v' w3 hown' hgrow3 hnil3))
      go_ret
      refine ⟨_, rfl, (hbw.alloc hbw.size _).grown hgrow3 (by simp; omega) (fun q hq => (hown.lt q hq).1), ?_⟩
      rw [HM.out]
      simpa [strV_drop] using hown'

/-- A row that is not empty: where it lies. -/
theorem own_slice {w : World} {base : Nat} {e : TypeId} {v : Value} {n : Nat} {xs : List Value} (h : w.ownsRow base e 1 v n xs) (hn : 0 < n) :
    ∃ g cap, v = .slice (some ⟨g, 0, none⟩) n cap ∧ n ≤ cap ∧ base ≤ g ∧ g < w.heap.size ∧ ∀ k u, xs[k]? = some u → w.cell? ⟨g, k, none⟩ = some u := by
  rcases h.2 with ⟨rfl, rfl⟩ | ⟨g, cap, cur, rfl, hb, hg, hc, _⟩
  · omega
  · refine ⟨g, cap, rfl, hc, hb, (Array.getElem?_eq_some_iff.1 hg).1, fun k u hu => ?_⟩
    have := h.cells (g := g) rfl k u hu
    simpa [Addr.add_lit] using this

theorem all_take_snoc {L : List (List UInt8)} {k : Nat} (hk : k < L.length) : (L.take (k + 1)).all partB = ((L.take k).all partB && partB L[k]) := by
  rw [List.take_succ_eq_append_getElem hk, List.all_append]
  simp

set_option maxRecDepth 100000 in
set_option maxHeartbeats 1000000 in
theorem l01OK_any (s : ByteArray) (w : World) : Calls Tryz.prog 96 #[.string s] w fun e w' => e = .returned (.bool (pathB s.data.toList)) ∧ Below w.heap.size w w' := by
  by_cases h36 : s.size ≤ 36
  · have hd : decide ((36 : Int) < (s.size : Int)) = false := by simp; omega
    go_enter Tryz.func96, Tryz.ntmps96
    go_wp2_with fail
    refine (l00Cut_any s 47 47 rfl _ (by omega)).mono ?_
    rintro e w1 ⟨v, rfl, hb1, hown⟩
    have hpos := cutAt_pos 47 s.data.toList
    have hlen := cutAt_length_le 47 s.data.toList
    rw [← Lib.size_eq] at hlen
    generalize hL : cutAt 47 s.data.toList = L at *
    have HL := Lib.hid hL
    clear hL
    obtain ⟨g, cap, rfl, hcap, hg0, hg1, hcell⟩ := own_slice hown (by omega)
    have HC := Lib.hid hcell
    clear hcell
    by_cases h4 : L.length ≤ 4
    · have hd4 : decide ((4 : Int) < (L.length : Int)) = false := by simp; omega
      have HP : Hid (pathB s.data.toList = L.all partB) := by show _ = _; unfold pathB; rw [HL.out, decide_eq_true h4]; simp
      go_wp2_with fail
      go_loop [4] (fun i => ∃ k : Nat, k ≤ L.length ∧ i = .int .i64 k ∧ Hid ((L.take k).all partB = true)) (fun i => L.length - (intOf i).toNat)
      case atStart => exact ⟨0, by omega, rfl, rfl⟩
      case round =>
        obtain ⟨k, hk, rfl, HK⟩ := hrel
        by_cases hlt : k < L.length
        · have hc := HC.out k (strV L[k]) (by simp [hlt])
          unfold strV at hc
          have HS := Lib.hid (all_take_snoc hlt)
          rcases Bool.eq_false_or_eq_true (partB L[k]) with hB | hB
          · go_wp2_with fail
            refine (l01Part_any _ _).mono ?_
            rintro e w2 ⟨rfl, rfl⟩
            go_wp2_with fail
            exact ⟨⟨k + 1, by omega, by go_num, by show _ = _; rw [HS.out, HK.out, hB]; rfl⟩, by simp [intOf]; omega⟩
          · have HF : Hid (L.all partB = false) := by
              show _ = _
              rw [List.all_eq_false]
              exact ⟨L[k], by simp, by simp [hB]⟩
            go_wp2_with fail
            refine (l01Part_any _ _).mono ?_
            rintro e w2 ⟨rfl, rfl⟩
            go_wp2_with fail
            go_ret
            exact ⟨ret_bool (by rw [HP.out, HF.out]), hb1⟩
        · have HE : Hid (L.all partB = true) := by show _ = _; rw [← HK.out, List.take_of_length_le (by omega)]
          go_wp2_with fail
          go_ret
          exact ⟨ret_bool (by rw [HP.out, HE.out]), hb1⟩
    · have hd4 : decide ((4 : Int) < (L.length : Int)) = true := by simp; omega
      have HP : Hid (pathB s.data.toList = false) := by show _ = _; unfold pathB; rw [HL.out, decide_eq_false h4]; rfl
      go_wp2_with fail
      go_ret
      exact ⟨ret_bool HP.out.symm, hb1⟩
  · rw [pathB_long (by omega)]
    have hd : decide ((36 : Int) < (s.size : Int)) = true := by simp; omega
    go_enter Tryz.func96, Tryz.ntmps96
    go_wp2_with fail
    go_ret
    exact ⟨rfl, Below.refl _ _⟩

end Go.Proofs.YtibekkfbpmloiabGreatDoor.Paths

/- Paths: PathOK and PartsOf, of the program and of its model. -/
namespace Go.Proofs.YtibekkfbpmloiabGreatDoor.Paths
open Go.RowKit

theorem split_nil {l : List UInt8} {w w' : World} {v : Value} (h : SplitPost l w w' v) : ∃ A cap, v = .slice A (partsOf l).length cap ∧ A.isNone = !pathB l := by
  obtain ⟨hb, hown, h1, h2⟩ := h
  rcases hown.2 with ⟨rfl, hn⟩ | ⟨g, cap, cur, rfl, _⟩
  · refine ⟨none, 0, by rw [hn], ?_⟩
    rcases Bool.eq_false_or_eq_true (pathB l) with h | h
    · exact absurd rfl (h2 h)
    · rw [h]; rfl
  · refine ⟨_, cap, rfl, ?_⟩
    rcases Bool.eq_false_or_eq_true (pathB l) with h | h
    · rw [h]; rfl
    · have := h1 h; cases this

theorem pathOK_impl (s : ByteArray) (w : World) (hs : s.size ≤ maxLen) : Calls Tryz.prog 158 #[.string s] w fun e w' => e = .returned (.bool (pathB s.data.toList)) ∧ Below w.heap.size w w' := by
  have hq := fun (w : World) (a : Option Addr) (n c n' c' : Nat) => run_neq_slice_nil_any (P := Tryz.prog) w 32 9 a n c n' c' Tryz.underlying32
  go_enter Tryz.func158, Tryz.ntmps158
  go_wp2_with fail
  refine (splitPath_any s _ hs).mono ?_
  rintro e w1 ⟨v, rfl, hp⟩
  obtain ⟨A, cap, rfl, hA⟩ := split_nil hp
  go_wp2_with fail
  go_ret
  exact ⟨ret_bool (by simp), hp.1⟩

/-- The code that asks whether a string is a path. -/
def askC (s : ByteArray) : Int := if 65536 < s.size then 2 else if pathB s.data.toList then 0 else 10
theorem askC_long {s : ByteArray} (h : ¬ s.size ≤ 65536) : askC s = 2 := by unfold askC; rw [if_pos (by omega)]
theorem askC_yes {s : ByteArray} (h : s.size ≤ 65536) (hp : pathB s.data.toList = true) : askC s = 0 := by unfold askC; rw [if_neg (by omega), if_pos hp]
theorem askC_no {s : ByteArray} (h : s.size ≤ 65536) (hp : pathB s.data.toList = false) : askC s = 10 := by unfold askC; rw [if_neg (by omega), hp]; rfl
theorem ret_int {a b : Int} (h : a = b) : Ending.returned (.int .i64 a) = .returned (.int .i64 b) := by rw [h]

/-- What PartsOf answers: the parts in a row of its own, and the code. -/
def PartsPost (s : ByteArray) (w : World) (e : Ending) (w' : World) : Prop :=
  ∃ v, e = .returned (.tuple #[v, .int .i64 (askC s)]) ∧ Below w.heap.size w w' ∧ w'.ownsRow w.heap.size 9 1 v (partsOf s.data.toList).length ((partsOf s.data.toList).map strV)

theorem partsOf_no {l : List UInt8} (h : pathB l = false) : partsOf l = [] := by unfold partsOf; rw [h]; rfl
theorem partsOf_yes {l : List UInt8} (h : pathB l = true) : partsOf l = cutAt 47 l := by unfold partsOf; rw [h]; rfl

theorem longText_any (s : ByteArray) (w : World) : Calls Tryz.prog 166 #[.string s] w fun e w' => e = .returned (.bool (decide ((65536 : Int) < (s.size : Int)))) ∧ w = w' := by
  go_enter Tryz.func166, Tryz.ntmps166
  go_wp2_with fail
  go_ret
  exact ⟨rfl, rfl⟩

theorem partsOf_impl (s : ByteArray) (w : World) (hs : s.size ≤ maxLen) : Calls Tryz.prog 189 #[.string s] w (PartsPost s w) := by
  have hq := fun (w : World) (a : Option Addr) (n c n' c' : Nat) => Lib.run_eql_slice_nil (P := Tryz.prog) w 32 9 a n c n' c' Tryz.underlying32
  by_cases h : s.size ≤ 65536
  · have hd : decide ((65536 : Int) < (s.size : Int)) = false := by simp; omega
    go_enter Tryz.func189, Tryz.ntmps189
    go_wp2_with fail
    refine (longText_any s _).mono ?_
    rintro e w1 ⟨rfl, rfl⟩
    go_wp2_with fail
    refine (splitPath_any s _ hs).mono ?_
    rintro e w1 ⟨v, rfl, hp⟩
    obtain ⟨A, cap, rfl, hA⟩ := split_nil hp
    rcases Bool.eq_false_or_eq_true (pathB s.data.toList) with hB | hB
    · have HP := Lib.hid hp
      have HA : Hid (askC s = 0) := askC_yes h hB
      clear hp
      rw [hB] at hA
      go_wp2_with fail
      go_ret2
      exact ⟨_, by rw [HA.out]; rfl, HP.out.1, HP.out.2.1⟩
    · have HP := Lib.hid hp
      have HA : Hid (askC s = 10) := askC_no h hB
      have HN : Hid (partsOf s.data.toList = []) := partsOf_no hB
      clear hp
      rw [hB] at hA
      go_wp2_with fail
      go_ret2
      exact ⟨_, by rw [HA.out]; rfl, HP.out.1, by rw [HN.out]; exact World.ownsRow_nil _ _ _ _⟩
  · have hd : decide ((65536 : Int) < (s.size : Int)) = true := by simp; omega
    have HA : Hid (askC s = 2) := askC_long h
    have HN : Hid (partsOf s.data.toList = []) := partsOf_no (pathB_long (by omega))
    go_enter Tryz.func189, Tryz.ntmps189
    go_wp2_with fail
    refine (longText_any s _).mono ?_
    rintro e w1 ⟨rfl, rfl⟩
    go_wp2_with fail
    go_ret2
    exact ⟨_, by rw [HA.out]; rfl, Below.refl _ _, by rw [HN.out]; exact World.ownsRow_nil _ _ _ _⟩

end Go.Proofs.YtibekkfbpmloiabGreatDoor.Paths
