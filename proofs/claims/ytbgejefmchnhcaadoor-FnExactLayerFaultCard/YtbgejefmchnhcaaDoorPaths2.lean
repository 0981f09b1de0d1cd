/- Paths: what splitPath of the program answers. -/
import Derived.Test.YtbgejefmchnhcaaDoorPaths1
import Derived.Deep.Draws
import Derived.Deep.LoopGhost
namespace Go.Proofs.YtbgejefmchnhcaaDoor.Paths
open Go.RowKit

theorem strInfo : (Tryd.prog.info? 9).map (fun i => (i.zero, i.size, i.bytes)) = some (some (.string ByteArray.empty), 1, 16) := by kernel_rfl

def strV (l : List UInt8) : Value := .string ⟨l.toArray⟩
theorem strV_data (s : ByteArray) : strV s.data.toList = .string s := rfl
theorem strV_take (s : ByteArray) (k : Nat) : .string (s.extract 0 k) = strV (s.data.toList.take k) := by
  unfold strV
  rw [Lib.extract_eq]
  simp
theorem extract_take (s : ByteArray) (k : Nat) : (s.extract 0 k).data.toList = s.data.toList.take k := by
  rw [Lib.extract_data]; simp
theorem extract_drop (s : ByteArray) (k : Nat) : (s.extract k s.size).data.toList = s.data.toList.drop k := by
  rw [Lib.extract_data, List.take_of_length_le]
  rw [List.length_drop, ← Lib.size_eq]
  exact Nat.le_refl _
def partsOf (l : List UInt8) : List (List UInt8) := if pathB l then cutAt 47 l else []

/-- What splitPath leaves: its parts in a row of its own, nil where there are none. -/
def SplitPost (l : List UInt8) (w w' : World) (v : Value) : Prop :=
  Below w.heap.size w w' ∧ w'.ownsRow w.heap.size 9 1 v (partsOf l).length ((partsOf l).map strV) ∧ (pathB l = false → v = .slice none 0 0) ∧ (pathB l = true → v ≠ .slice none 0 0)

theorem SplitPost.bad {l : List UInt8} {w w' : World} (h : pathB l = false) (hb : Below w.heap.size w w') : SplitPost l w w' (.slice none 0 0) := by
  refine ⟨hb, ?_, fun _ => rfl, fun h2 => by rw [h] at h2; cases h2⟩
  simp [partsOf, h]
  exact World.ownsRow_nil _ _ _ _

theorem own_form {w : World} {base : Nat} {e : TypeId} {size : Nat} {v : Value} {n : Nat} {xs : List Value} (h : w.ownsRow base e size v n xs) : ∃ A cap, v = .slice A n cap := by
  rcases h.2 with ⟨rfl, rfl⟩ | ⟨g, cap, cur, rfl, _⟩
  · exact ⟨none, 0, rfl⟩
  · exact ⟨_, _, rfl⟩

theorem own_below {w w' : World} {base : Nat} {e : TypeId} {size : Nat} {v : Value} {n : Nat} {xs : List Value} (h : w.ownsRow base e size v n xs) (hb : Below w.heap.size w w') : w'.ownsRow base e size v n xs := by
  obtain ⟨h1, h2⟩ := h
  refine ⟨h1, ?_⟩
  rcases h2 with h2 | ⟨g, cap', cur, a, b, c, d⟩
  · exact .inl h2
  · exact .inr ⟨g, cap', cur, a, b, by rw [hb.block g (Array.getElem?_eq_some_iff.1 c).1]; exact c, d⟩

theorem split_more {l : List UInt8} {P : List (List UInt8)} {R : ByteArray} {pos : Nat} (h : cutAt 47 l = P ++ cutAt 47 R.data.toList) (hp : pos < R.size)
    (h47 : ((Utf8.decode R pos).1 : Int) = 47) (hB : partB (R.data.toList.take pos) = true) : cutAt 47 l = (P ++ [R.data.toList.take pos]) ++ cutAt 47 (R.extract (pos + 1) R.size).data.toList := by
  rw [extract_drop, h, cut_step hp h47 hB]
  simp
theorem split_more_no {l : List UInt8} {P : List (List UInt8)} {R : ByteArray} {pos : Nat} (h : cutAt 47 l = P ++ cutAt 47 R.data.toList) (hp : pos < R.size) (hs : Seen R.data.toList pos)
    (h47 : ((Utf8.decode R pos).1 : Int) = 47) (hB : partB (R.data.toList.take pos) = false) : pathB l = false := by
  exact pathB_bad h (cut_step_no hp hs h47 hB)
theorem split_end_no {l : List UInt8} {P : List (List UInt8)} {R : ByteArray} {pos : Nat} (h : cutAt 47 l = P ++ cutAt 47 R.data.toList) (hp : ¬ pos < R.size) (hs : Seen R.data.toList pos)
    (hB : partB R.data.toList = false) : pathB l = false :=
  pathB_bad h (cut_last_no (k := pos) (by rw [← Lib.size_eq]; omega) hs hB)
theorem SplitPost.good {l : List UInt8} {P : List (List UInt8)} {R : ByteArray} {w w' : World} {v : Value} (h : cutAt 47 l = P ++ cutAt 47 R.data.toList) (hP : P.length < 4) (ha : P.all partB = true) (hB : partB R.data.toList = true)
    (hb : Below w.heap.size w w') (hown : w'.ownsRow w.heap.size 9 1 v (P.length + 1) (P.map strV ++ [.string R])) (hn : v ≠ .slice none 0 0) : SplitPost l w w' v := by
  obtain ⟨h1, h2⟩ := pathB_good h hP ha hB
  refine ⟨hb, ?_, fun h3 => (by rw [h1] at h3; cases h3), fun _ => hn⟩
  unfold partsOf
  rw [if_pos h1, h2]
  simpa [strV_data] using hown

theorem own_iterAt {w : World} {base : Nat} {e : TypeId} {size : Nat} {A : Option Addr} {n cap : Nat} {xs : List Value} (h : w.ownsRow base e size (.slice A n cap) n xs) {k : Nat} (hk : A.map Addr.block ≠ some k) (s : ByteArray) (p : Nat) :
    (w.iterAt k s p).ownsRow base e size (.slice A n cap) n xs := by
  obtain ⟨h1, h2⟩ := h
  refine ⟨h1, ?_⟩
  rcases h2 with h2 | ⟨g, cap', cur, a, b, c, d⟩
  · exact .inl h2
  · refine .inr ⟨g, cap', cur, a, b, ?_, d⟩
    cases a
    rw [Lib.iterAt_other _ _ _ _ _ (fun e => hk (by simp [e]))]
    exact c

set_option maxRecDepth 100000 in
set_option maxHeartbeats 1000000 in
theorem splitPath_any (s : ByteArray) (w : World) (hs : s.size ≤ maxLen) : Calls Tryd.prog 62 #[.string s] w fun e w' => ∃ v, e = .returned v ∧ SplitPost s.data.toList w w' v := by
  obtain ⟨i0, hi, hz0, hz1, hz2⟩ := info_parts strInfo
  unfold maxLen at hs
  go_enter Tryd.func62, Tryd.ntmps62
  go_wp2
  go_step3
  go_wp2
  go_step3
  go_wp2
  go_loopg [3, 4] 4 (fun g v r wr => ∃ (P : List (List UInt8)) (R : ByteArray), r = .string R ∧ P.length + g = 4 ∧ P.all partB = true ∧ Hid (cutAt 47 s.data.toList = P ++ cutAt 47 R.data.toList) ∧ wr.ownsRow w.heap.size 9 1 v P.length (P.map strV) ∧ Below w.heap.size w wr ∧ R.size ≤ s.size)
  case atStart => exact ⟨[], s, rfl, rfl, rfl, rfl, World.ownsRow_nil _ _ _ _, Below.refl _ _, Nat.le_refl _⟩
  case round =>
    obtain ⟨P, R, rfl, hP4, hPa, HC, hown, hbw, hRs⟩ := hrel
    obtain ⟨A, cap, rfl⟩ := own_form hown
    cases gk with
    | zero =>
      have hd : decide ((P.length : Int) < 4) = false := by simp; omega
      have HB : Hid (pathB s.data.toList = false) := pathB_many HC.out (by omega)
      go_wp2
      rw [Exit.noGoto_ret]
      go_ret
      exact ⟨_, rfl, SplitPost.bad HB.out hbw⟩
    | succ g =>
      have hd : decide ((P.length : Int) < 4) = true := by simp; omega
      generalize hwo : wr = wo at *
      clear hwo wr
      have hwl := hbw.size
      go_wp2
      go_loopw [3, 4] (fun v3 v4 wx => v3 = .slice A P.length cap ∧ v4 = .string R ∧ ∃ pos : Nat, wx.heap[wo.heap.size]? = some (.stringIter R pos) ∧ Below w.heap.size w wx ∧ wx.ownsRow w.heap.size 9 1 (.slice A P.length cap) P.length (P.map strV) ∧ Seen R.data.toList pos ∧ Hid (A.map Addr.block ≠ some wo.heap.size)) (fun _ _ wx => R.size - wx.iterPos wo.heap.size)
      case atStart => exact ⟨rfl, rfl, 0, World.iter_heap wo R 0, hbw.alloc hbw.size _, hown.alloc _, Seen.zero _, fun h => by have := (hown.lt wo.heap.size (by cases A <;> simp_all [Value.ownBlock])).2; omega⟩
      case round =>
        obtain ⟨rfl, rfl, pos, hit, hbx, hownx, hseen, HA⟩ := hrel
        have hpos0 := iterPos_of hit
        by_cases hp : pos < R.size
        · have hnx : ∀ ty, (Instr.next (.pointer (some ⟨wo.heap.size, 0, none⟩)) true ty).run Tryd.prog wr = _ := fun ty => Lib.run_next_any_at wr wo.heap.size R pos ty hit hp
          have hwd := width_pos R pos hp
          have hit2 := Lib.iterAt_heap wr wo.heap.size R pos (pos + (Utf8.decode R pos).2) hit
          have hbw2 := Lib.below_iterAt hbx (k := wo.heap.size) hwl R (pos + (Utf8.decode R pos).2)
          have hown2 : (wr.iterAt wo.heap.size R (pos + (Utf8.decode R pos).2)).ownsRow w.heap.size 9 1 (.slice A P.length cap) P.length (P.map strV) := own_iterAt hownx HA.out R _
          obtain ⟨W1, hW1⟩ : ∃ W1, W1 = wr.iterAt wo.heap.size R (pos + (Utf8.decode R pos).2) := ⟨_, rfl⟩
          rw [← hW1] at hnx hit2 hbw2 hown2
          clear hW1 hbw hown
          rcases Bool.eq_false_or_eq_true (((Utf8.decode R pos).1 : Int) != 47) with h47 | h47
          · have Hs := Lib.hid (hseen.next hp (by simpa using h47))
            clear hseen
            go_wp2
            go_roundw
            case rel => exact ⟨rfl, rfl, _, hit2, hbw2, hown2, Hs.out, HA⟩
            case measure => rw [hpos0, iterPos_of hit2]; omega
          · have H47 : Hid (((Utf8.decode R pos).1 : Int) = 47) := by show _ = _; simpa using h47
            rcases Bool.eq_false_or_eq_true (partB (R.data.toList.take pos)) with hB | hB
            · have HM := Lib.hid (split_more HC.out hp H47.out hB)
              have HB := Lib.hid hB
              clear hseen
              go_wp2_with fail
              refine (partOK_impl _ _).mono ?_
              rintro e w2 ⟨rfl, hb2⟩
              have hown3 := own_below hown2 hb2
              have hbw3 := hbw2.trans (hb2.mono hbw2.size)
              have hs3 := hbw3.size
              go_wp2_with (first
                | (at_builtin; refine wpList_append_own _ rfl _ _ 81 rfl w.heap.size 9 i0 (.string ByteArray.empty) 1 16 Tryd.underlying81 hi hz0 hz1 hz2 rfl (by decide) _ _ _ rfl (hown3.alloc _) ⟨w2.heap.size, 0, none⟩ 1 1 [.string (R.extract 0 pos)] rfl rfl (cell_one_new _ _ _) (fun x hx => by simp at hx; subst hx; rfl) (by unfold maxLen; omega) (by omega) (by simp; omega) ?_; intro v' w3 hown' hgrow3 hnil3))
              go_roundg g
              case measure => omega
              case rel =>
                refine ⟨P ++ [R.data.toList.take pos], _, rfl, by simp; omega, by simp [hPa, HB.out], HM.out, ?_, (hbw3.alloc hbw3.size _).grown hgrow3 (by simp; omega) (fun q hq => (hown3.lt q hq).1), by simp; omega⟩
                simpa [strV_take] using hown'
            · have HB := Lib.hid (split_more_no HC.out hp hseen H47.out hB)
              clear hseen
              go_wp2_with fail
              refine (partOK_impl _ _).mono ?_
              rintro e w2 ⟨rfl, hb2⟩
              go_wp2
              rw [Exit.noGoto_ret]
              go_ret
              exact ⟨_, rfl, SplitPost.bad HB.out (hbw2.trans (hb2.mono hbw2.size))⟩
        · have hnx : ∀ ty, (Instr.next (.pointer (some ⟨wo.heap.size, 0, none⟩)) true ty).run Tryd.prog wr = _ := fun ty => Lib.run_next_end_at wr wo.heap.size R pos ty hit hp
          clear hbw hown
          rcases Bool.eq_false_or_eq_true (partB R.data.toList) with hB | hB
          · have HB := Lib.hid hB
            clear hseen
            go_wp2_with fail
            refine (partOK_impl _ _).mono ?_
            rintro e w2 ⟨rfl, hb2⟩
            have hown3 := own_below hownx hb2
            have hbw3 := hbx.trans (hb2.mono hbx.size)
            have hs3 := hbw3.size
            go_wp2_with (first
              | (at_builtin; refine wpList_append_own _ rfl _ _ 81 rfl w.heap.size 9 i0 (.string ByteArray.empty) 1 16 Tryd.underlying81 hi hz0 hz1 hz2 rfl (by decide) _ _ _ rfl (hown3.alloc _) ⟨w2.heap.size, 0, none⟩ 1 1 [.string R] rfl rfl (cell_one_new _ _ _) (fun x hx => by simp at hx; subst hx; rfl) (by unfold maxLen; omega) (by omega) (by simp; omega) ?_; intro v' w3 hown' hgrow3 hnil3))
            rw [Exit.noGoto_ret]
            go_ret
            exact ⟨_, rfl, SplitPost.good HC.out (by omega) hPa HB.out ((hbw3.alloc hbw3.size _).grown hgrow3 (by simp; omega) (fun q hq => (hown3.lt q hq).1)) hown' (fun h => by have := (hnil3.1 h).2; omega)⟩
          · have HB := Lib.hid (split_end_no HC.out hp hseen hB)
            clear hseen
            go_wp2_with fail
            refine (partOK_impl _ _).mono ?_
            rintro e w2 ⟨rfl, hb2⟩
            go_wp2
            rw [Exit.noGoto_ret]
            go_ret
            exact ⟨_, rfl, SplitPost.bad HB.out (hbx.trans (hb2.mono hbx.size))⟩
end Go.Proofs.YtbgejefmchnhcaaDoor.Paths
