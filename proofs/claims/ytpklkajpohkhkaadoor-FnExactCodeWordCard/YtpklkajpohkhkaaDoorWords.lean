/- The words of the codes: what CodeWord and CodeOf, of the program and of its model, answer where the program's table holds its words. -/
import Derived.Test.YtpklkajpohkhkaaDoorChecked
import Derived.WalkKit
import Derived.WalkSpells
import Derived.WalkSmall
import Derived.WalkLawsBesides
import Derived.Lib.Hide
import Derived.Lib.LaidTab
import Derived.Lib.Strings
namespace Go.Proofs.YtpklkajpohkhkaaDoor.Words
open Go.RowKit

def words : List (List UInt8) := [[111, 107], [98, 97, 100], [108, 111, 110, 103], [102, 111, 114, 109], [114, 97, 110, 103, 101], [110, 111, 110, 101], [109, 97, 110, 121], [102, 117, 108, 108], [115, 105, 122, 101], [107, 105, 110, 100], [110, 97, 109, 101], [111, 114, 100, 101, 114], [111, 114, 112, 104, 97, 110], [110, 111, 116, 100, 105, 114], [105, 115, 100, 105, 114], [115, 117, 109], [102, 97, 117, 108, 116], [115, 116, 97, 116, 101], [115, 97, 109, 101]]
def cells : Array Value := #[.string ⟨#[111, 107]⟩, .string ⟨#[98, 97, 100]⟩, .string ⟨#[108, 111, 110, 103]⟩, .string ⟨#[102, 111, 114, 109]⟩, .string ⟨#[114, 97, 110, 103, 101]⟩, .string ⟨#[110, 111, 110, 101]⟩, .string ⟨#[109, 97, 110, 121]⟩, .string ⟨#[102, 117, 108, 108]⟩, .string ⟨#[115, 105, 122, 101]⟩, .string ⟨#[107, 105, 110, 100]⟩, .string ⟨#[110, 97, 109, 101]⟩, .string ⟨#[111, 114, 100, 101, 114]⟩, .string ⟨#[111, 114, 112, 104, 97, 110]⟩, .string ⟨#[110, 111, 116, 100, 105, 114]⟩, .string ⟨#[105, 115, 100, 105, 114]⟩, .string ⟨#[115, 117, 109]⟩, .string ⟨#[102, 97, 117, 108, 116]⟩, .string ⟨#[115, 116, 97, 116, 101]⟩, .string ⟨#[115, 97, 109, 101]⟩]
def wordN (n : Nat) : ByteArray := ⟨(words.getD n []).toArray⟩
theorem cells_at {n : Nat} (h : n < 19) : cells[n]? = some (.string (wordN n)) := by
  have e : n = 0 ∨ n = 1 ∨ n = 2 ∨ n = 3 ∨ n = 4 ∨ n = 5 ∨ n = 6 ∨ n = 7 ∨ n = 8 ∨ n = 9 ∨ n = 10 ∨ n = 11 ∨ n = 12 ∨ n = 13 ∨ n = 14 ∨ n = 15 ∨ n = 16 ∨ n = 17 ∨ n = 18 := by omega
  rcases e with rfl | rfl | rfl | rfl | rfl | rfl | rfl | rfl | rfl | rfl | rfl | rfl | rfl | rfl | rfl | rfl | rfl | rfl | rfl <;> rfl
def wordOf (k : Int) : ByteArray := if 0 ≤ k ∧ k < 19 then wordN k.toNat else ⟨#[]⟩
theorem wordOf_in {n : Nat} (h : n < 19) : wordOf (n : Int) = wordN n := by unfold wordOf; rw [if_pos (by omega)]; rfl
theorem wordOf_low {k : Int} (h : k < 0) : wordOf k = ⟨#[]⟩ := by unfold wordOf; rw [if_neg (by omega)]
theorem wordOf_high {k : Int} (h : 19 ≤ k) : wordOf k = ⟨#[]⟩ := by unfold wordOf; rw [if_neg (by omega)]
theorem ret_str {a b : ByteArray} (h : a = b) : Ending.returned (.string a) = .returned (.string b) := by rw [h]

/-- The table holds its words. -/
def Tab (w : World) : Prop := ∃ t fr, w.heap[(0 : Nat)]? = some (.cells cells t fr)
theorem Tab.cell {w : World} (h : Tab w) {n : Nat} (hn : n < 19) : w.cell? ⟨0, n, none⟩ = some (.string (wordN n)) := by
  obtain ⟨t, fr, h⟩ := h
  rw [cell_of_row w _ n _ _ _ h]
  exact cells_at hn

theorem codeWord_impl (k : Int) (w : World) (h : Tab w) : Calls Tryd.prog 6 #[.int .i64 k] w fun e w' => e = .returned (.string (wordOf k)) ∧ w = w' := by
  by_cases h0 : k < 0
  · have HW := Lib.hid (wordOf_low h0)
    have hd : decide (k < 0) = true := by simpa using h0
    go_enter Tryd.func6, Tryd.ntmps6
    go_wp2
    go_ret
    exact ⟨ret_str HW.out.symm, rfl⟩
  have hd : decide (k < 0) = false := by simpa using h0
  by_cases h1 : 19 ≤ k
  · have HW := Lib.hid (wordOf_high h1)
    go_enter Tryd.func6, Tryd.ntmps6
    go_wp2
    go_ret
    exact ⟨ret_str HW.out.symm, rfl⟩
  obtain ⟨n, rfl⟩ := Int.eq_ofNat_of_zero_le (by omega : 0 ≤ k)
  have hn : n < 19 := by omega
  have HW := Lib.hid (wordOf_in hn)
  have hc := h.cell hn
  have hi0 : (0 : Int) ≤ (n : Int) := by omega
  have hi1 : (n : Int) < 19 := by omega
  have hd1 : decide ((19 : Int) ≤ (n : Int)) = false := by simp; omega
  go_enter Tryd.func6, Tryd.ntmps6
  go_wp2
  go_ret
  exact ⟨ret_str HW.out.symm, rfl⟩

theorem codeWord_spec (k : Int) (w : World) : Calls Tryd.prog 5 #[.int .i64 k] w fun e w' => e = .returned (.string (wordOf k)) ∧ Below w.heap.size w w' := by
  by_cases h0 : k < 0
  · have HW := Lib.hid (wordOf_low h0)
    have hd : decide (k < 0) = true := by simpa using h0
    go_enter Tryd.func5, Tryd.ntmps5
    go_wp2
    go_ret
    exact ⟨ret_str HW.out.symm, (Below.refl _ _).alloc (Nat.le_refl _) _⟩
  have hd : decide (k < 0) = false := by simpa using h0
  by_cases h1 : 19 ≤ k
  · have HW := Lib.hid (wordOf_high h1)
    go_enter Tryd.func5, Tryd.ntmps5
    go_wp2
    go_ret
    exact ⟨ret_str HW.out.symm, (Below.refl _ _).alloc (Nat.le_refl _) _⟩
  obtain ⟨n, rfl⟩ := Int.eq_ofNat_of_zero_le (by omega : 0 ≤ k)
  have hn : n < 19 := by omega
  have HW := Lib.hid (wordOf_in hn)
  have hc : (w.alloc (.cells #[.string ⟨#[111, 107]⟩, .string ⟨#[98, 97, 100]⟩, .string ⟨#[108, 111, 110, 103]⟩, .string ⟨#[102, 111, 114, 109]⟩, .string ⟨#[114, 97, 110, 103, 101]⟩, .string ⟨#[110, 111, 110, 101]⟩, .string ⟨#[109, 97, 110, 121]⟩, .string ⟨#[102, 117, 108, 108]⟩, .string ⟨#[115, 105, 122, 101]⟩, .string ⟨#[107, 105, 110, 100]⟩, .string ⟨#[110, 97, 109, 101]⟩, .string ⟨#[111, 114, 100, 101, 114]⟩, .string ⟨#[111, 114, 112, 104, 97, 110]⟩, .string ⟨#[110, 111, 116, 100, 105, 114]⟩, .string ⟨#[105, 115, 100, 105, 114]⟩, .string ⟨#[115, 117, 109]⟩, .string ⟨#[102, 97, 117, 108, 116]⟩, .string ⟨#[115, 116, 97, 116, 101]⟩, .string ⟨#[115, 97, 109, 101]⟩] 9)).cell? ⟨w.heap.size, n, none⟩ = some (.string (wordN n)) := by
    rw [cell_of_row _ _ n _ _ _ (heap_alloc_new w _)]
    exact cells_at hn
  have hi0 : (0 : Int) ≤ (n : Int) := by omega
  have hi1 : (n : Int) < 19 := by omega
  have hd1 : decide ((19 : Int) ≤ (n : Int)) = false := by simp; omega
  go_enter Tryd.func5, Tryd.ntmps5
  go_wp2
  go_ret
  exact ⟨ret_str HW.out.symm, (Below.refl _ _).alloc (Nat.le_refl _) _⟩

/-- The place of a word in a list, counted from n on; -1 of none. -/
def findFrom : List (List UInt8) → Nat → List UInt8 → Int
  | [], _, _ => -1
  | a :: r, n, l => if a = l then (n : Int) else findFrom r (n + 1) l
theorem find_at {k : Nat} (h : k < 19) (l : List UInt8) : findFrom (words.drop k) k l = if (wordN k).data.toList = l then (k : Int) else findFrom (words.drop (k + 1)) (k + 1) l := by
  have hl : k < words.length := h
  rw [List.drop_eq_getElem_cons hl]
  simp only [findFrom, wordN, List.getD, List.getElem?_eq_getElem hl, Option.getD_some]
theorem find_end (l : List UInt8) : findFrom (words.drop 19) 19 l = -1 := rfl
theorem ret_int {a b : Int} (h : a = b) : Ending.returned (.int .i64 a) = .returned (.int .i64 b) := by rw [h]
theorem wordN_beq (k : Nat) (s : ByteArray) : ((wordN k).toList == s.toList) = decide ((wordN k).data.toList = s.data.toList) := by
  rw [Lib.toList_data, Lib.toList_data, Bool.eq_iff_iff]
  simp

set_option maxHeartbeats 400000 in
theorem codeOf_spec (s : ByteArray) (w : World) : Calls Tryd.prog 7 #[.string s] w fun e w' => e = .returned (.int .i64 (findFrom words 0 s.data.toList)) ∧ Below w.heap.size w w' := by
  go_enter Tryd.func7, Tryd.ntmps7
  go_wp2
  go_loopw [3] (fun i wr => ∃ k : Nat, k ≤ 19 ∧ i = .int .i64 k ∧ Below w.heap.size w wr ∧ Hid (findFrom words 0 s.data.toList = findFrom (words.drop k) k s.data.toList)) (fun i _ => 19 - (intOf i).toNat)
  case atStart => exact ⟨0, by omega, rfl, Below.refl _ _, rfl⟩
  case round =>
    obtain ⟨k, hk, rfl, hbw, HF⟩ := hrel
    by_cases hlt : k < 19
    · have hd : decide ((k : Int) ≤ 18) = true := by simp; omega
      have HA := Lib.hid (find_at hlt s.data.toList)
      have HB := Lib.hid (wordN_beq k s)
      have hw := wordOf_in hlt
      rcases Bool.eq_false_or_eq_true ((wordN k).toList == s.toList) with he | he
      · have HE : Hid (findFrom words 0 s.data.toList = (k : Int)) := by show _ = _; rw [HF.out, HA.out, if_pos (by simpa using HB.out.symm.trans he)]
        go_wp2_with (first | (go_at_call 5; refine (codeWord_spec _ _).mono ?_; rintro e w1 ⟨rfl, hb1⟩; rw [hw]))
        go_ret
        exact ⟨ret_int HE.out.symm, hbw.trans (hb1.mono hbw.size)⟩
      · have HE : Hid (findFrom words 0 s.data.toList = findFrom (words.drop (k + 1)) (k + 1) s.data.toList) := by show _ = _; rw [HF.out, HA.out, if_neg (by simpa using HB.out.symm.trans he)]
        go_wp2_with (first | (go_at_call 5; refine (codeWord_spec _ _).mono ?_; rintro e w1 ⟨rfl, hb1⟩; rw [hw]))
        exact ⟨⟨k + 1, by omega, by go_num, hbw.trans (hb1.mono hbw.size), HE⟩, by simp [intOf]; omega⟩
    · obtain rfl : k = 19 := by omega
      have HE := Lib.hid (find_end s.data.toList)
      go_wp2
      go_ret
      exact ⟨ret_int (by rw [HF.out, HE.out]), hbw⟩

theorem index_words {n : Nat} (h : n < 19) (w : World) : (Instr.index 27 (.agg cells) (.int .i64 n)).run Tryd.prog w = .ok (.string (wordN n)) w := by
  have hc := cells_at h
  simp [Instr.index, run_underlying Tryd.underlying27, asIntOf, hc, go_sem]
  intro h2
  omega

set_option maxHeartbeats 400000 in
theorem codeOf_impl (s : ByteArray) (w : World) (h : Tab w) : Calls Tryd.prog 8 #[.string s] w fun e w' => e = .returned (.int .i64 (findFrom words 0 s.data.toList)) ∧ w = w' := by
  obtain ⟨t, fr, hg⟩ := h
  go_enter Tryd.func8, Tryd.ntmps8
  go_wp2_with (refine wpList_load_row rfl 27 _ rfl 0 rfl t cells fr _ hg Tryd.underlying27 rfl (by kernel_rfl) ?_)
  clear hg
  go_loop [6] (fun i => ∃ k : Nat, k ≤ 19 ∧ i = .int .i64 k ∧ Hid (findFrom words 0 s.data.toList = findFrom (words.drop k) k s.data.toList)) (fun i => 19 - (intOf i).toNat)
  case atStart => exact ⟨0, by omega, rfl, rfl⟩
  case round =>
    obtain ⟨k, hk, rfl, HF⟩ := hrel
    by_cases hlt : k < 19
    · have hd : decide ((k : Int) < 19) = true := by simp; omega
      have HA := Lib.hid (find_at hlt s.data.toList)
      have HB := Lib.hid (wordN_beq k s)
      have hi := index_words hlt
      rcases Bool.eq_false_or_eq_true ((wordN k).toList == s.toList) with he | he
      · have HE : Hid (findFrom words 0 s.data.toList = (k : Int)) := by show _ = _; rw [HF.out, HA.out, if_pos (by simpa using HB.out.symm.trans he)]
        go_wp2
        go_ret
        exact ⟨ret_int HE.out.symm, rfl⟩
      · have HE : Hid (findFrom words 0 s.data.toList = findFrom (words.drop (k + 1)) (k + 1) s.data.toList) := by show _ = _; rw [HF.out, HA.out, if_neg (by simpa using HB.out.symm.trans he)]
        go_wp2
        exact ⟨⟨k + 1, by omega, by go_num, HE⟩, by simp [intOf]; omega⟩
    · obtain rfl : k = 19 := by omega
      have HE := Lib.hid (find_end s.data.toList)
      go_wp2
      go_ret
      exact ⟨ret_int (by rw [HF.out, HE.out]), rfl⟩

/-! ### From the row's condition to the table -/
def strsData {H : Type} (L : List (List UInt8)) : DataW H := .agg (L.map fun l => .lit (.string l))
theorem cells_of_strs {H : Type} {enc : TypeId × Value → H} {P : Program} {w : World} {base : Nat} {sp : Nat → Bool} {held : Bool} {fuel : Nat} {t e : TypeId} {n : Nat} {cs : List Value} {L : List (List UInt8)} {p : List MemPlace}
    (ht : P.underlying t = some (.array n e)) (he : P.underlying e = some .string) (hce : P.cellsOf e = 1) (hct : P.cellsOf t = n)
    (h : DataW.trod enc P w base sp held fuel t cs = some (strsData L, p)) : cs = L.map fun l => Value.string ⟨l.toArray⟩ := by
  cases fuel with
  | zero => simp [DataW.trod] at h
  | succ fuel =>
    simp only [DataW.trod, ht, hce, hct, Nat.mul_one] at h
    split at h
    · rename_i hl
      obtain ⟨xs, hm, hx⟩ := Option.map_eq_some_iff.1 h
      have hxs : xs.map (·.1) = L.map fun l => (DataW.lit (.string l) : DataW H) := by
        have := congrArg Prod.fst hx
        simpa [strsData] using this
      have hxl : xs.length = n := by simpa using Lib.mapM_length hm
      have hzl : L.length = n := by
        have := congrArg List.length hxs
        simp at this
        omega
      apply List.ext_getElem?
      intro i
      by_cases hi : i < n
      · obtain ⟨b, hb, hf⟩ := Lib.mapM_at hm i i (by simp [hi])
        obtain ⟨s, hc, rfl, _⟩ := DataW.trod_string he hf
        have h1 : cs[i]? = some (.string s) := by
          have := congrArg (·[0]?) hc
          simpa [List.getElem?_take, List.getElem?_drop] using this
        have h2 : (xs.map (·.1))[i]? = some (DataW.lit (.string s.data.toList) : DataW H) := by simp [hb]
        rw [hxs] at h2
        simp only [List.getElem?_map, Option.map_eq_some_iff, DataW.lit.injEq, Lit.string.injEq] at h2
        obtain ⟨z', hz', e2⟩ := h2
        subst e2
        simp [h1, hz']
      · rw [List.getElem?_eq_none (by omega), List.getElem?_eq_none (by simp; omega)]
    · cases h
theorem cells_eq : cells.toList = words.map fun l => Value.string ⟨l.toArray⟩ := rfl
theorem tab_of_var {n : String} {W : World} {cs : Array Value} (hg : Tryd.prog.globalNamed n = some 0) (hv : W.var? Tryd.prog n = some cs) (hc : cs.toList = words.map fun l => Value.string ⟨l.toArray⟩) : Tab W := by
  have e : cs = cells := by
    apply Array.ext'
    rw [hc, cells_eq]
  subst e
  simp only [World.var?, hg, Option.bind_some] at hv
  split at hv
  · rename_i c t fr hb
    cases hv
    exact ⟨t, fr, hb⟩
  · cases hv
theorem Tab.below {w w' : World} (h : Tab w) (hb : Below w.heap.size w w') : Tab w' := by
  obtain ⟨t, fr, h⟩ := h
  exact ⟨t, fr, by rw [hb.block _ (Array.getElem?_eq_some_iff.1 h).1]; exact h⟩
theorem Tab.lt {w : World} (h : Tab w) : 0 < w.heap.size := by
  obtain ⟨t, fr, h⟩ := h
  exact (Array.getElem?_eq_some_iff.1 h).1

end Go.Proofs.YtpklkajpohkhkaaDoor.Words
