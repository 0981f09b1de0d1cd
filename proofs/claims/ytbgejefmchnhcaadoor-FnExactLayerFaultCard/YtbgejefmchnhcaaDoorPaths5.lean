/- Paths: ParentOf and JoinPath, of the program and of its model. -/
import Derived.Test.YtbgejefmchnhcaaDoorMarks
import Derived.Test.YtbgejefmchnhcaaDoorPlainD
import Derived.Test.YtbgejefmchnhcaaDoorShelf
namespace Go.Proofs.YtbgejefmchnhcaaDoor.Paths
open Go.RowKit

/-- strings.Join with a stroke between, at a slice that reads as L. -/
theorem join_any (v : Value) (L : List (List UInt8)) (w : World) (h : Strs w v L) (hl : (Lib.join L [47]).length ≤ 140737488355328) (hL : L.length ≤ 140737488355328) :
    Calls Tryd.prog 85 #[v, .string ⟨#[47]⟩] w fun e w' => e = .returned (strV (Lib.join L [47])) ∧ Below w.heap.size w w' := by
  obtain ⟨A, cap, rfl, hcap, h⟩ := h
  cases L with
  | nil =>
    refine (Tryd.strings_Join_none A cap _ w).mono ?_
    rintro e w' ⟨rfl, rfl⟩
    exact ⟨rfl, Below.refl _ _⟩
  | cons p r =>
    obtain ⟨b, off, rfl, hb, hc⟩ := h (by simp)
    have hm : ((p :: r).map fun l => (⟨l.toArray⟩ : ByteArray)).map (·.data.toList) = p :: r := by simp [Function.comp_def]
    have := Tryd.strings_Join b off cap ((p :: r).map fun l => (⟨l.toArray⟩ : ByteArray)) ⟨#[47]⟩ w (fun j x hx => by
      simp only [List.getElem?_map, Option.map_eq_some_iff] at hx
      obtain ⟨l, hl, rfl⟩ := hx
      exact hc j l hl) hb (by simpa using hL) (by simpa using hcap) (by rw [hm]; exact hl)
    rw [hm, List.length_map] at this
    exact this

theorem Strs.take {w : World} {A : Option Addr} {cap : Nat} {L : List (List UInt8)} {k : Nat} (h : Strs w (.slice A L.length cap) L) (hk : k ≤ L.length) : Strs w (.slice A k cap) (L.take k) := by
  obtain ⟨A', cap', e, hc, h⟩ := h
  cases e
  refine ⟨A, cap, by rw [List.length_take, Nat.min_eq_left hk], by rw [List.length_take]; omega, fun hn => ?_⟩
  rw [List.length_take] at hn
  obtain ⟨b, off, e, hb, hcell⟩ := h (by omega)
  refine ⟨b, off, e, hb, fun j p hj => hcell j p ?_⟩
  rw [List.getElem?_take] at hj
  split at hj
  · exact hj
  · cases hj

def parS (s : ByteArray) : List UInt8 := if pathB s.data.toList then parentL s.data.toList else []
theorem parS_yes {s : ByteArray} (h : pathB s.data.toList = true) : parS s = Lib.join (cutAt 47 s.data.toList).dropLast [47] := by unfold parS; rw [h]; rfl
theorem parS_no {s : ByteArray} (h : pathB s.data.toList = false) : parS s = [] := by unfold parS; rw [h]; rfl
theorem askC_zero {s : ByteArray} (h : askC s = 0) : s.size ≤ 65536 ∧ pathB s.data.toList = true := by
  unfold askC at h
  split at h
  · cases h
  · split at h
    · exact ⟨by omega, ‹_›⟩
    · cases h
theorem askC_bad {s : ByteArray} (h : askC s ≠ 0) : pathB s.data.toList = false := by
  unfold askC at h
  split at h
  · exact pathB_long (by omega)
  · split at h
    · exact absurd rfl h
    · rename_i h2; simpa using h2
theorem join_dropLast_len (l : List UInt8) : (Lib.join (cutAt 47 l).dropLast [47]).length ≤ l.length := by
  have h := cutAt_ne 47 l
  conv => rhs; rw [← join_cut l]
  rw [← List.dropLast_concat_getLast h, List.dropLast_concat]
  by_cases hd : (cutAt 47 l).dropLast = []
  · rw [hd]; simp [Lib.join_nil]
  · rw [join_snoc _ hd]; simp

set_option maxHeartbeats 400000 in
theorem parentOf_impl (s : ByteArray) (w : World) (hs : s.size ≤ maxLen) : Calls Tryd.prog 79 #[.string s] w fun e w' => e = .returned (.tuple #[strV (parS s), .int .i64 (askC s)]) ∧ Below w.heap.size w w' := by
  go_enter Tryd.func79, Tryd.ntmps79
  go_wp2_with fail
  refine (partsOf_impl _ _ hs).mono ?_
  rintro e w1 ⟨v, rfl, hb1, ho1⟩
  by_cases h0 : askC s = 0
  · have hB := askC_zero h0
    have HP := Lib.hid (parS_yes hB.2)
    have H0 := Lib.hid h0
    rw [partsOf_yes hB.2] at ho1
    have hpos := cutAt_pos 47 s.data.toList
    have hlen := (pathB_parts hB.2).1
    have hjl := join_dropLast_len s.data.toList
    rw [← Lib.size_eq] at hjl
    generalize hL : cutAt 47 s.data.toList = L at *
    have HL := Lib.hid hL
    clear hL
    obtain ⟨g, cap, rfl, hcap, hg0, hg1, hcell⟩ := own_slice ho1 (by omega)
    have hst := (Strs.own ho1).take (k := L.length - 1) (by omega)
    rw [← List.dropLast_eq_take] at hst
    have HS := Lib.hid hst
    clear hcell hst
    have hc1 : (1 : Int) ≤ (L.length : Int) := by omega
    rw [h0]
    clear h0
    go_wp2_with fail
    refine (join_any _ _ _ HS.out (by omega) (by rw [List.length_dropLast]; omega)).mono ?_
    rintro e w2 ⟨rfl, hb2⟩
    go_wp2_with fail
    go_ret2
    exact ⟨by rw [HP.out, H0.out]; rfl, hb1.trans (hb2.mono hb1.size)⟩
  · have HP := Lib.hid (parS_no (askC_bad h0))
    have hne : (askC s != 0) = true := by simpa using h0
    clear h0
    go_wp2_with fail
    go_ret2
    exact ⟨by rw [HP.out]; rfl, hb1⟩

set_option maxHeartbeats 400000 in
theorem l01Parent_any (s : ByteArray) (w : World) (hs : s.size ≤ maxLen) : Calls Tryd.prog 51 #[.string s] w fun e w' => e = .returned (strV (parentL s.data.toList)) ∧ w = w' := by
  unfold maxLen at hs
  go_enter Tryd.func51, Tryd.ntmps51
  go_wp2
  go_loop [3] (fun i => ∃ k : Nat, k ≤ s.size ∧ i = .int .i64 ((k : Int) - 1) ∧ Hid (Clear s.data.toList k)) (fun i => (intOf i + 1).toNat)
  case atStart => exact ⟨s.size, by omega, rfl, Clear.start s⟩
  case round =>
    obtain ⟨k, hk, rfl, HC⟩ := hrel
    cases k with
    | zero =>
      have HN := Lib.hid (Clear.none HC.out)
      go_wp2
      go_ret
      exact ⟨by rw [HN.out]; rfl, rfl⟩
    | succ k =>
      have e1 : (((k + 1 : Nat) : Int) - 1) = (k : Int) := by omega
      rw [e1]
      clear e1
      have hlt : k < s.size := by omega
      rcases Bool.eq_false_or_eq_true ((s[k].toNat : Int) == 47) with he | he
      · have HE : Hid (parentL s.data.toList = s.data.toList.take k) := HC.out.hit hlt (by simp at he; exact UInt8.toNat_inj.1 (by show _ = 47; omega))
        go_wp2
        go_ret
        exact ⟨by rw [HE.out, ← strV_take]; rfl, rfl⟩
      · have HD := Lib.hid (HC.out.down hlt (fun e => by rw [e] at he; exact absurd he (by decide)))
        go_wp2
        exact ⟨⟨k, by omega, rfl, HD⟩, by simp [intOf]⟩

end Go.Proofs.YtbgejefmchnhcaaDoor.Paths
