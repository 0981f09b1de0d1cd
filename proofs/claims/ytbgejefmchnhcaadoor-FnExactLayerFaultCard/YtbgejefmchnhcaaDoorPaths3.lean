/- Paths: what the model's l00Cut and l01OK answer. -/
import Derived.Test.YtbgejefmchnhcaaDoorPaths2
import Derived.Test.YtbgejefmchnhcaaDoorPlainC
namespace Go.Proofs.YtbgejefmchnhcaaDoor.Paths
open Go.RowKit

/-- What l00Cut leaves: the pieces in a row of its own. -/
def CutPost (c : UInt8) (l : List UInt8) (w w' : World) (v : Value) : Prop :=
  Below w.heap.size w w' ∧ w'.ownsRow w.heap.size 9 1 v (cutAt c l).length ((cutAt c l).map strV)

theorem strV_mid (s : ByteArray) (f k : Nat) : .string (s.extract f k) = strV ((s.data.toList.drop f).take (k - f)) := by
  unfold strV
  rw [Lib.extract_eq]
theorem strV_drop (s : ByteArray) (f : Nat) : .string (s.extract f s.size) = strV (s.data.toList.drop f) := by
  rw [← strV_data, extract_drop]

set_option maxRecDepth 100000 in
set_option maxHeartbeats 1000000 in
theorem l00Cut_any (s : ByteArray) (x : Int) (c : UInt8) (hx : x = (c.toNat : Int)) (w : World) (hs : s.size ≤ 1099511627776) : Calls Tryd.prog 61 #[.string s, .int .u8 x] w fun e w' => ∃ v, e = .returned v ∧ CutPost c s.data.toList w w' v := by
  obtain ⟨i0, hi, hz0, hz1, hz2⟩ := info_parts strInfo
  have HX := Lib.hid hx
  clear hx
  go_enter Tryd.func61, Tryd.ntmps61
  go_wp2
  go_loopw [5, 6, 7] (fun v f i wr => ∃ (P : List (List UInt8)) (fn k : Nat), f = .int .i64 fn ∧ i = .int .i64 k ∧ fn ≤ k ∧ k ≤ s.size ∧ P.length ≤ fn ∧ Hid (cutAt c s.data.toList = P ++ cutAt c (s.data.toList.drop fn)) ∧ Hid (Gap s.data.toList c fn k) ∧ wr.ownsRow w.heap.size 9 1 v P.length (P.map strV) ∧ Below w.heap.size w wr) (fun _ _ i _ => s.size - (intOf i).toNat)
  case atStart =>
    exact ⟨[], 0, 0, rfl, rfl, by omega, by omega, by simp, rfl, Gap.refl _ _ _, World.ownsRow_made _ _ 0 (Nat.le_refl _) (by simp [maxLen]) (by simp), (Below.refl _ _).alloc (Nat.le_refl _) _⟩
  case round =>
    obtain ⟨P, f, k, rfl, rfl, hfk, hks, hPf, HC, HG, hown, hbw⟩ := hrel
    obtain ⟨A, cap, rfl⟩ := own_form hown
    have hsz := hbw.size
    by_cases hlt : k < s.size
    · rcases Bool.eq_false_or_eq_true ((s[k].toNat : Int) == x) with he | he
      · have HE : Hid (s[k] = c) := by show _ = _; simp at he; rw [HX.out] at he; exact UInt8.toNat_inj.1 (by omega)
        have HM : Hid (cutAt c s.data.toList = (P ++ [(s.data.toList.drop f).take (k - f)]) ++ cutAt c (s.data.toList.drop (k + 1))) := by
          show _ = _
          rw [HC.out, HG.out.cut hfk hlt HE.out]
          simp
        go_wp2_with (first
          | (at_builtin; refine wpList_append_own _ rfl _ _ 81 rfl w.heap.size 9 i0 (.string ByteArray.empty) 1 16 Tryd.underlying81 hi hz0 hz1 hz2 rfl (by decide) _ _ _ rfl (hown.alloc _) ⟨wr.heap.size, 0, none⟩ 1 1 [.string (s.extract f k)] rfl rfl (cell_one_new _ _ _) (fun x hx => by simp at hx; subst hx; rfl) (by unfold maxLen; omega) (by omega) (by simp; omega) ?_; intro v' w3 hown' hgrow3 hnil3))
        go_roundw
        case rel =>
          refine ⟨P ++ [(s.data.toList.drop f).take (k - f)], k + 1, k + 1, by go_num, by go_num, by omega, by omega, by simp; omega, HM, Gap.refl _ _ _, ?_, (hbw.alloc hbw.size _).grown hgrow3 (by simp; omega) (fun q hq => (hown.lt q hq).1)⟩
          simpa [strV_mid] using hown'
        case measure => simp [intOf]; omega
      · have HN : Hid (s[k] ≠ c) := fun e => by simp at he; rw [HX.out, e] at he; exact he rfl
        go_wp2
        go_roundw
        case rel => exact ⟨P, f, k + 1, rfl, by go_num, by omega, by omega, hPf, HC, HG.out.next hfk hlt HN.out, hown, hbw⟩
        case measure => simp [intOf]; omega
    · have HM : Hid (cutAt c s.data.toList = P ++ [s.data.toList.drop f]) := by
        show _ = _
        rw [HC.out, HG.out.last hlt]
      go_wp2_with (first
        | (at_builtin; refine wpList_append_own _ rfl _ _ 81 rfl w.heap.size 9 i0 (.string ByteArray.empty) 1 16 Tryd.underlying81 hi hz0 hz1 hz2 rfl (by decide) _ _ _ rfl (hown.alloc _) ⟨wr.heap.size, 0, none⟩ 1 1 [.string (s.extract f s.size)] rfl rfl (cell_one_new _ _ _) (fun x hx => by simp at hx; subst hx; rfl) (by unfold maxLen; omega) (by omega) (by simp; omega) ?_; intro v' w3 hown' hgrow3 hnil3))
      go_ret
      refine ⟨_, rfl, (hbw.alloc hbw.size _).grown hgrow3 (by simp; omega) (fun q hq => (hown.lt q hq).1), ?_⟩
      rw [HM.out]
      simpa [strV_drop] using hown'

/-- A row that is not empty: where it lies. -/
theorem own_slice {w : World} {base : Nat} {e : TypeId} {v : Value} {n : Nat} {xs : List Value} (h : w.ownsRow base e 1 v n xs) (hn : 0 < n) :
    ∃ g cap, v = .slice (some ⟨g, 0, none⟩) n cap ∧ n ≤ cap ∧ base ≤ g ∧ g < w.heap.size ∧ ∀ k u, xs[k]? = some u → w.cell? ⟨g, k, none⟩ = some u := by
  rcases h.2 with ⟨rfl, rfl⟩ | ⟨g, cap, cur, rfl, hb, hg, hc, _⟩
  · omega
  · refine ⟨g, cap, rfl, hc, hb, (Array.getElem?_eq_some_iff.1 hg).1, fun k u hu => ?_⟩
    have := h.cells (g := g) rfl k u hu
    simpa [Addr.add_lit] using this

theorem all_take_snoc {L : List (List UInt8)} {k : Nat} (hk : k < L.length) : (L.take (k + 1)).all partB = ((L.take k).all partB && partB L[k]) := by
  rw [List.take_succ_eq_append_getElem hk, List.all_append]
  simp

set_option maxRecDepth 100000 in
set_option maxHeartbeats 1000000 in
theorem l01OK_any (s : ByteArray) (w : World) : Calls Tryd.prog 45 #[.string s] w fun e w' => e = .returned (.bool (pathB s.data.toList)) ∧ Below w.heap.size w w' := by
  by_cases h36 : s.size ≤ 36
  · have hd : decide ((36 : Int) < (s.size : Int)) = false := by simp; omega
    go_enter Tryd.func45, Tryd.ntmps45
    go_wp2_with fail
    refine (l00Cut_any s 47 47 rfl _ (by omega)).mono ?_
    rintro e w1 ⟨v, rfl, hb1, hown⟩
    have hpos := cutAt_pos 47 s.data.toList
    have hlen := cutAt_length_le 47 s.data.toList
    rw [← Lib.size_eq] at hlen
    generalize hL : cutAt 47 s.data.toList = L at *
    have HL := Lib.hid hL
    clear hL
    obtain ⟨g, cap, rfl, hcap, hg0, hg1, hcell⟩ := own_slice hown (by omega)
    have HC := Lib.hid hcell
    clear hcell
    by_cases h4 : L.length ≤ 4
    · have hd4 : decide ((4 : Int) < (L.length : Int)) = false := by simp; omega
      have HP : Hid (pathB s.data.toList = L.all partB) := by show _ = _; unfold pathB; rw [HL.out, decide_eq_true h4]; simp
      go_wp2_with fail
      go_loop [4] (fun i => ∃ k : Nat, k ≤ L.length ∧ i = .int .i64 k ∧ Hid ((L.take k).all partB = true)) (fun i => L.length - (intOf i).toNat)
      case atStart => exact ⟨0, by omega, rfl, rfl⟩
      case round =>
        obtain ⟨k, hk, rfl, HK⟩ := hrel
        by_cases hlt : k < L.length
        · have hc := HC.out k (strV L[k]) (by simp [hlt])
          unfold strV at hc
          have HS := Lib.hid (all_take_snoc hlt)
          rcases Bool.eq_false_or_eq_true (partB L[k]) with hB | hB
          · go_wp2_with fail
            refine (l01Part_any _ _).mono ?_
            rintro e w2 ⟨rfl, rfl⟩
            go_wp2_with fail
            exact ⟨⟨k + 1, by omega, by go_num, by show _ = _; rw [HS.out, HK.out, hB]; rfl⟩, by simp [intOf]; omega⟩
          · have HF : Hid (L.all partB = false) := by
              show _ = _
              rw [List.all_eq_false]
              exact ⟨L[k], by simp, by simp [hB]⟩
            go_wp2_with fail
            refine (l01Part_any _ _).mono ?_
            rintro e w2 ⟨rfl, rfl⟩
            go_wp2_with fail
            go_ret
            exact ⟨ret_bool (by rw [HP.out, HF.out]), hb1⟩
        · have HE : Hid (L.all partB = true) := by show _ = _; rw [← HK.out, List.take_of_length_le (by omega)]
          go_wp2_with fail
          go_ret
          exact ⟨ret_bool (by rw [HP.out, HE.out]), hb1⟩
    · have hd4 : decide ((4 : Int) < (L.length : Int)) = true := by simp; omega
      have HP : Hid (pathB s.data.toList = false) := by show _ = _; unfold pathB; rw [HL.out, decide_eq_false h4]; rfl
      go_wp2_with fail
      go_ret
      exact ⟨ret_bool HP.out.symm, hb1⟩
  · rw [pathB_long (by omega)]
    have hd : decide ((36 : Int) < (s.size : Int)) = true := by simp; omega
    go_enter Tryd.func45, Tryd.ntmps45
    go_wp2_with fail
    go_ret
    exact ⟨rfl, Below.refl _ _⟩

end Go.Proofs.YtbgejefmchnhcaaDoor.Paths
