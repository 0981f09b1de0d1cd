/- Parts of several texts of mine in one file (each begins with its own remark). -/
import Derived.Test.YtibekkfbpmloiaaDoorCA1
import Derived.Test.YtibekkfbpmloiaaDoorChecked
import Derived.Deep.Draws
import Derived.Deep.LoopGhost
import Derived.WalkKit
import Derived.WalkSpells
import Derived.WalkSmall
import Derived.Lib.OthersKept
import Derived.Lib.Hide
import Derived.Lib.Strings
import Derived.BigQuiet
import Derived.Deep.QuietTactic
import Derived.Deep.RegionHeld3
import Derived.StillTailTactics
import Derived.OpenShut
import Derived.ShutString
import Derived.ChangeArms
import Derived.WideShapes
import Derived.Lib.LaidTab
/- Paths: what the model's l00Cut and l01OK answer. -/
namespace Go.Proofs.YtibekkfbpmloiaaDoor.Paths
open Go.RowKit

/-- What l00Cut leaves: the pieces in a row of its own. -/
def CutPost (c : UInt8) (l : List UInt8) (w w' : World) (v : Value) : Prop :=
  Below w.heap.size w w' ∧ w'.ownsRow w.heap.size 9 1 v (cutAt c l).length ((cutAt c l).map strV)

theorem strV_mid (s : ByteArray) (f k : Nat) : .string (s.extract f k) = strV ((s.data.toList.drop f).take (k - f)) := by
  unfold strV
  rw [Lib.extract_eq]
theorem strV_drop (s : ByteArray) (f : Nat) : .string (s.extract f s.size) = strV (s.data.toList.drop f) := by
  rw [← strV_data, extract_drop]

set_option maxRecDepth 100000 in
set_option maxHeartbeats 1000000 in
theorem l00Cut_any (s : ByteArray) (x : Int) (c : UInt8) (hx : x = (c.toNat : Int)) (w : World) (hs : s.size ≤ 1099511627776) : Calls Tryd.prog 20 #[.string s, .int .u8 x] w fun e w' => ∃ v, e = .returned v ∧ CutPost c s.data.toList w w' v := by
  obtain ⟨i0, hi, hz0, hz1, hz2⟩ := info_parts strInfo
  have HX := Lib.hid hx
  clear hx
  go_enter Tryd.func20, Tryd.ntmps20
  go_wp2
  go_loopw [5, 6, 7] (fun v f i wr => ∃ (P : List (List UInt8)) (fn k : Nat), f = .int .i64 fn ∧ i = .int .i64 k ∧ fn ≤ k ∧ k ≤ s.size ∧ P.length ≤ fn ∧ Hid (cutAt c s.data.toList = P ++ cutAt c (s.data.toList.drop fn)) ∧ Hid (Gap s.data.toList c fn k) ∧ wr.ownsRow w.heap.size 9 1 v P.length (P.map strV) ∧ Below w.heap.size w wr) (fun _ _ i _ => s.size - (intOf i).toNat)
  case atStart =>
    exact ⟨[], 0, 0, rfl, rfl, by omega, by omega, by simp, rfl, Gap.refl _ _ _, World.ownsRow_made _ _ 0 (Nat.le_refl _) (by simp [maxLen]) (by simp), (Below.refl _ _).alloc (Nat.le_refl _) _⟩
  case round =>
    obtain ⟨P, f, k, rfl, rfl, hfk, hks, hPf, HC, HG, hown, hbw⟩ := hrel
    obtain ⟨A, cap, rfl⟩ := own_form hown
    have hsz := hbw.size
    by_cases hlt : k < s.size
    · rcases Bool.eq_false_or_eq_true ((s[k].toNat : Int) == x) with he | he
      · have HE : Hid (s[k] = c) := by show _ = _; simp at he; rw [HX.out] at he; exact UInt8.toNat_inj.1 (by omega)
        have HM : Hid (cutAt c s.data.toList = (P ++ [(s.data.toList.drop f).take (k - f)]) ++ cutAt c (s.data.toList.drop (k + 1))) := by
          show _ = _
          rw [HC.out, HG.out.cut hfk hlt HE.out]
          simp
        go_wp2_with (first
          | (at_builtin; refine wpList_append_own _ rfl _ _ 49 rfl w.heap.size 9 i0 (.string ByteArray.empty) 1 16 Tryd.underlying49 hi hz0 hz1 hz2 rfl (by decide) _ _ _ rfl (hown.alloc _) ⟨wr.heap.size, 0, none⟩ 1 1 [.string (s.extract f k)] rfl rfl (cell_one_new _ _ _) (fun x hx => by simp at hx; subst hx; rfl) (by unfold maxLen; omega) (by omega) (by simp; omega) ?_; intro v' w3 hown' hgrow3 hnil3))
        go_roundw
        case rel =>
          refine ⟨P ++ [(s.data.toList.drop f).take (k - f)], k + 1, k + 1, by go_num, by go_num, by omega, by omega, by simp; omega, HM, Gap.refl _ _ _, ?_, (hbw.alloc hbw.size _).grown hgrow3 (by simp; omega) (fun q hq => (hown.lt q hq).1)⟩
          simpa [strV_mid] using hown'
        case measure => simp [intOf]; omega
      · have HN : Hid (s[k] ≠ c) := fun e => by simp at he; rw [HX.out, e] at he; exact he rfl
        go_wp2
        go_roundw
        case rel => exact ⟨P, f, k + 1, rfl, by go_num, by omega, by omega, hPf, HC, HG.out.next hfk hlt HN.out, hown, hbw⟩
        case measure => simp [intOf]; omega
    · have HM : Hid (cutAt c s.data.toList = P ++ [s.data.toList.drop f]) := by
        show _ = _
        rw [HC.out, HG.out.last hlt]
      go_wp2_with (first
        | (at_builtin; refine wpList_append_own _ rfl _ _ 49 rfl w.heap.size 9 i0 (.string ByteArray.empty) 1 16 Tryd.underlying49 hi hz0 hz1 hz2 rfl (by decide) _ _ _ rfl (hown.alloc _) ⟨wr.heap.size, 0, none⟩ 1 1 [.string (s.extract f s.size)] rfl rfl (cell_one_new _ _ _) (fun x hx => by simp at hx; subst hx; rfl) (by unfold maxLen; omega) (by omega) (by simp; omega) ?_; intro v' w3 hown' hgrow3 hnil3))
      go_ret
      refine ⟨_, rfl, (hbw.alloc hbw.size _).grown hgrow3 (by simp; omega) (fun q hq => (hown.lt q hq).1), ?_⟩
      rw [HM.out]
      simpa [strV_drop] using hown'

/-- A row that is not empty: where it lies. -/
theorem own_slice {w : World} {base : Nat} {e : TypeId} {v : Value} {n : Nat} {xs : List Value} (h : w.ownsRow base e 1 v n xs) (hn : 0 < n) :
    ∃ g cap, v = .slice (some ⟨g, 0, none⟩) n cap ∧ n ≤ cap ∧ base ≤ g ∧ g < w.heap.size ∧ ∀ k u, xs[k]? = some u → w.cell? ⟨g, k, none⟩ = some u := by
  rcases h.2 with ⟨rfl, rfl⟩ | ⟨g, cap, cur, rfl, hb, hg, hc, _⟩
  · omega
  · refine ⟨g, cap, rfl, hc, hb, (Array.getElem?_eq_some_iff.1 hg).1, fun k u hu => ?_⟩
    have := h.cells (g := g) rfl k u hu
    simpa [Addr.add_lit] using this

theorem all_take_snoc {L : List (List UInt8)} {k : Nat} (hk : k < L.length) : (L.take (k + 1)).all partB = ((L.take k).all partB && partB L[k]) := by
  rw [List.take_succ_eq_append_getElem hk, List.all_append]
  simp

set_option maxRecDepth 100000 in
set_option maxHeartbeats 1000000 in
theorem l01OK_any (s : ByteArray) (w : World) : Calls Tryd.prog 12 #[.string s] w fun e w' => e = .returned (.bool (pathB s.data.toList)) ∧ Below w.heap.size w w' := by
  by_cases h36 : s.size ≤ 36
  · have hd : decide ((36 : Int) < (s.size : Int)) = false := by simp; omega
    go_enter Tryd.func12, Tryd.ntmps12
    go_wp2_with fail
    refine (l00Cut_any s 47 47 rfl _ (by omega)).mono ?_
    rintro e w1 ⟨v, rfl, hb1, hown⟩
    have hpos := cutAt_pos 47 s.data.toList
    have hlen := cutAt_length_le 47 s.data.toList
    rw [← Lib.size_eq] at hlen
    generalize hL : cutAt 47 s.data.toList = L at *
    have HL := Lib.hid hL
    clear hL
    obtain ⟨g, cap, rfl, hcap, hg0, hg1, hcell⟩ := own_slice hown (by omega)
    have HC := Lib.hid hcell
    clear hcell
    by_cases h4 : L.length ≤ 4
    · have hd4 : decide ((4 : Int) < (L.length : Int)) = false := by simp; omega
      have HP : Hid (pathB s.data.toList = L.all partB) := by show _ = _; unfold pathB; rw [HL.out, decide_eq_true h4]; simp
      go_wp2_with fail
      go_loop [4] (fun i => ∃ k : Nat, k ≤ L.length ∧ i = .int .i64 k ∧ Hid ((L.take k).all partB = true)) (fun i => L.length - (intOf i).toNat)
      case atStart => exact ⟨0, by omega, rfl, rfl⟩
      case round =>
        obtain ⟨k, hk, rfl, HK⟩ := hrel
        by_cases hlt : k < L.length
        · have hc := HC.out k (strV L[k]) (by simp [hlt])
          unfold strV at hc
          have HS := Lib.hid (all_take_snoc hlt)
          rcases Bool.eq_false_or_eq_true (partB L[k]) with hB | hB
          · go_wp2_with fail
            refine (l01Part_any _ _).mono ?_
            rintro e w2 ⟨rfl, rfl⟩
            go_wp2_with fail
            exact ⟨⟨k + 1, by omega, by go_num, by show _ = _; rw [HS.out, HK.out, hB]; rfl⟩, by simp [intOf]; omega⟩
          · have HF : Hid (L.all partB = false) := by
              show _ = _
              rw [List.all_eq_false]
              exact ⟨L[k], by simp, by simp [hB]⟩
            go_wp2_with fail
            refine (l01Part_any _ _).mono ?_
            rintro e w2 ⟨rfl, rfl⟩
            go_wp2_with fail
            go_ret
            exact ⟨ret_bool (by rw [HP.out, HF.out]), hb1⟩
        · have HE : Hid (L.all partB = true) := by show _ = _; rw [← HK.out, List.take_of_length_le (by omega)]
          go_wp2_with fail
          go_ret
          exact ⟨ret_bool (by rw [HP.out, HE.out]), hb1⟩
    · have hd4 : decide ((4 : Int) < (L.length : Int)) = true := by simp; omega
      have HP : Hid (pathB s.data.toList = false) := by show _ = _; unfold pathB; rw [HL.out, decide_eq_false h4]; rfl
      go_wp2_with fail
      go_ret
      exact ⟨ret_bool HP.out.symm, hb1⟩
  · rw [pathB_long (by omega)]
    have hd : decide ((36 : Int) < (s.size : Int)) = true := by simp; omega
    go_enter Tryd.func12, Tryd.ntmps12
    go_wp2_with fail
    go_ret
    exact ⟨rfl, Below.refl _ _⟩

end Go.Proofs.YtibekkfbpmloiaaDoor.Paths

/- Paths: PathOK and PartsOf, of the program and of its model. -/
namespace Go.Proofs.YtibekkfbpmloiaaDoor.Paths
open Go.RowKit

theorem split_nil {l : List UInt8} {w w' : World} {v : Value} (h : SplitPost l w w' v) : ∃ A cap, v = .slice A (partsOf l).length cap ∧ A.isNone = !pathB l := by
  obtain ⟨hb, hown, h1, h2⟩ := h
  rcases hown.2 with ⟨rfl, hn⟩ | ⟨g, cap, cur, rfl, _⟩
  · refine ⟨none, 0, by rw [hn], ?_⟩
    rcases Bool.eq_false_or_eq_true (pathB l) with h | h
    · exact absurd rfl (h2 h)
    · rw [h]; rfl
  · refine ⟨_, cap, rfl, ?_⟩
    rcases Bool.eq_false_or_eq_true (pathB l) with h | h
    · rw [h]; rfl
    · have := h1 h; cases this

theorem pathOK_impl (s : ByteArray) (w : World) (hs : s.size ≤ maxLen) : Calls Tryd.prog 29 #[.string s] w fun e w' => e = .returned (.bool (pathB s.data.toList)) ∧ Below w.heap.size w w' := by
  have hq := fun (w : World) (a : Option Addr) (n c n' c' : Nat) => run_neq_slice_nil_any (P := Tryd.prog) w 49 9 a n c n' c' Tryd.underlying49
  go_enter Tryd.func29, Tryd.ntmps29
  go_wp2_with fail
  refine (splitPath_any s _ hs).mono ?_
  rintro e w1 ⟨v, rfl, hp⟩
  obtain ⟨A, cap, rfl, hA⟩ := split_nil hp
  go_wp2_with fail
  go_ret
  exact ⟨ret_bool (by simp), hp.1⟩

/-- The code that asks whether a string is a path. -/
def askC (s : ByteArray) : Int := if 65536 < s.size then 2 else if pathB s.data.toList then 0 else 10
theorem askC_long {s : ByteArray} (h : ¬ s.size ≤ 65536) : askC s = 2 := by unfold askC; rw [if_pos (by omega)]
theorem askC_yes {s : ByteArray} (h : s.size ≤ 65536) (hp : pathB s.data.toList = true) : askC s = 0 := by unfold askC; rw [if_neg (by omega), if_pos hp]
theorem askC_no {s : ByteArray} (h : s.size ≤ 65536) (hp : pathB s.data.toList = false) : askC s = 10 := by unfold askC; rw [if_neg (by omega), hp]; rfl
theorem ret_int {a b : Int} (h : a = b) : Ending.returned (.int .i64 a) = .returned (.int .i64 b) := by rw [h]

/-- What PartsOf answers: the parts in a row of its own, and the code. -/
def PartsPost (s : ByteArray) (w : World) (e : Ending) (w' : World) : Prop :=
  ∃ v, e = .returned (.tuple #[v, .int .i64 (askC s)]) ∧ Below w.heap.size w w' ∧ w'.ownsRow w.heap.size 9 1 v (partsOf s.data.toList).length ((partsOf s.data.toList).map strV)

theorem partsOf_no {l : List UInt8} (h : pathB l = false) : partsOf l = [] := by unfold partsOf; rw [h]; rfl
theorem partsOf_yes {l : List UInt8} (h : pathB l = true) : partsOf l = cutAt 47 l := by unfold partsOf; rw [h]; rfl

theorem longText_any (s : ByteArray) (w : World) : Calls Tryd.prog 38 #[.string s] w fun e w' => e = .returned (.bool (decide ((65536 : Int) < (s.size : Int)))) ∧ w = w' := by
  go_enter Tryd.func38, Tryd.ntmps38
  go_wp2_with fail
  go_ret
  exact ⟨rfl, rfl⟩

theorem partsOf_impl (s : ByteArray) (w : World) (hs : s.size ≤ maxLen) : Calls Tryd.prog 71 #[.string s] w (PartsPost s w) := by
  have hq := fun (w : World) (a : Option Addr) (n c n' c' : Nat) => Lib.run_eql_slice_nil (P := Tryd.prog) w 49 9 a n c n' c' Tryd.underlying49
  by_cases h : s.size ≤ 65536
  · have hd : decide ((65536 : Int) < (s.size : Int)) = false := by simp; omega
    go_enter Tryd.func71, Tryd.ntmps71
    go_wp2_with fail
    refine (longText_any s _).mono ?_
    rintro e w1 ⟨rfl, rfl⟩
    go_wp2_with fail
    refine (splitPath_any s _ hs).mono ?_
    rintro e w1 ⟨v, rfl, hp⟩
    obtain ⟨A, cap, rfl, hA⟩ := split_nil hp
    rcases Bool.eq_false_or_eq_true (pathB s.data.toList) with hB | hB
    · have HP := Lib.hid hp
      have HA : Hid (askC s = 0) := askC_yes h hB
      clear hp
      rw [hB] at hA
      go_wp2_with fail
      go_ret2
      exact ⟨_, by rw [HA.out]; rfl, HP.out.1, HP.out.2.1⟩
    · have HP := Lib.hid hp
      have HA : Hid (askC s = 10) := askC_no h hB
      have HN : Hid (partsOf s.data.toList = []) := partsOf_no hB
      clear hp
      rw [hB] at hA
      go_wp2_with fail
      go_ret2
      exact ⟨_, by rw [HA.out]; rfl, HP.out.1, by rw [HN.out]; exact World.ownsRow_nil _ _ _ _⟩
  · have hd : decide ((65536 : Int) < (s.size : Int)) = true := by simp; omega
    have HA : Hid (askC s = 2) := askC_long h
    have HN : Hid (partsOf s.data.toList = []) := partsOf_no (pathB_long (by omega))
    go_enter Tryd.func71, Tryd.ntmps71
    go_wp2_with fail
    refine (longText_any s _).mono ?_
    rintro e w1 ⟨rfl, rfl⟩
    go_wp2_with fail
    go_ret2
    exact ⟨_, by rw [HA.out]; rfl, Below.refl _ _, by rw [HN.out]; exact World.ownsRow_nil _ _ _ _⟩

end Go.Proofs.YtibekkfbpmloiaaDoor.Paths

/- Records: what RecordFault of the program and of its model answer, as one plain function of the record's fields. Condition: the program's table of kinds holds what its own initialiser lays. -/
namespace Go.Proofs.YtibekkfbpmloiaaDoor.Recs
open Go.RowKit Paths

def sizeB (need : Bool) (z : Nat) : Bool := decide (z ≤ 20) && (decide (0 < z) || !need)
def formB (ub uo : Bool) (z : Nat) (o : Bool) : Bool := (ub || decide (z = 0)) && (uo || !o)
def modeB (um : Bool) (m : Int) : Bool := decide (m = 0) || (um && (decide (0 < m) && decide (m ≤ 511)))
def faultR (p : List UInt8) (z : Nat) (m : Int) (o ub nb um uo : Bool) : Int :=
  if pathB p = false then 10 else if sizeB nb z = false then 8 else if formB ub uo z o = false then 3 else if modeB um m = false then 4 else 0
/-- The first fault of a record; 0 of none. -/
def faultI (k : Int) (p : List UInt8) (z : Nat) (m : Int) (o : Bool) : Int :=
  if k < 1 ∨ 4 < k then 9 else if pathB p = false then 10 else if 20 < z ∨ k = 2 ∧ z = 0 then 8
  else if z ≠ 0 ∧ (k = 3 ∨ k = 4) ∨ o = true ∧ k ≠ 3 then 3 else if m < 0 ∨ 511 < m ∨ m ≠ 0 ∧ (k = 4 ∨ k = 2) then 4 else 0

theorem bcell {W w1 : World} (hb : Below W.heap.size W w1) : (∀ b o, b < W.heap.size → w1.cell? ⟨b, o, none⟩ = W.cell? ⟨b, o, none⟩) ∧ (∀ b o, b < W.heap.size → w1.frozen? ⟨b, o, none⟩ = W.frozen? ⟨b, o, none⟩) :=
  ⟨fun b o h => hb.cell (p := ⟨b, o, none⟩) h, fun b o h => hb.frozen (p := ⟨b, o, none⟩) h⟩

theorem allowsSize_any (ub nb um uo : Bool) (z : Nat) (w : World) : Calls Tryd.prog 67 #[.agg #[.bool ub, .bool nb, .bool um, .bool uo], .int .i64 z] w fun e w' => e = .returned (.bool (sizeB nb z)) ∧ Below w.heap.size w w' := by
  cases nb
  all_goals
    go_enter Tryd.func67, Tryd.ntmps67
    go_wp2
    all_goals (go_ret; exact ⟨ret_bool (by rw [Bool.eq_iff_iff]; simp [sizeB] <;> omega), (Below.refl _ _).alloc (Nat.le_refl _) _⟩)

theorem allowsForm_any (ub nb um uo : Bool) (s : ByteArray) (o : Bool) (w : World) : Calls Tryd.prog 68 #[.agg #[.bool ub, .bool nb, .bool um, .bool uo], .string s, .bool o] w fun e w' => e = .returned (.bool (formB ub uo s.size o)) ∧ Below w.heap.size w w' := by
  by_cases h1 : s.size = 0
  · have he := isEmpty_true h1
    have HR := Lib.hid (show formB ub uo s.size o = (uo || !o) by unfold formB; rw [h1]; simp)
    cases ub <;> cases uo <;> cases o
    all_goals
      go_enter Tryd.func68, Tryd.ntmps68
      go_wp2
      all_goals (go_ret; exact ⟨ret_bool (by rw [HR.out]; rfl), (Below.refl _ _).alloc (Nat.le_refl _) _⟩)
  · have he := isEmpty_false (by omega : 0 < s.size)
    have HR := Lib.hid (show formB ub uo s.size o = (ub && (uo || !o)) by unfold formB; simp [h1])
    cases ub <;> cases uo <;> cases o
    all_goals
      go_enter Tryd.func68, Tryd.ntmps68
      go_wp2
      all_goals (go_ret; exact ⟨ret_bool (by rw [HR.out]; rfl), (Below.refl _ _).alloc (Nat.le_refl _) _⟩)

theorem allowsMode_any (ub nb um uo : Bool) (m : Int) (w : World) : Calls Tryd.prog 69 #[.agg #[.bool ub, .bool nb, .bool um, .bool uo], .int .i64 m] w fun e w' => e = .returned (.bool (modeB um m)) ∧ Below w.heap.size w w' := by
  cases um
  all_goals
    by_cases h0 : m = 0
    · subst h0
      go_enter Tryd.func69, Tryd.ntmps69
      go_wp2
      all_goals (go_ret; exact ⟨ret_bool (by simp [modeB]), (Below.refl _ _).alloc (Nat.le_refl _) _⟩)
    · have hd : (m == 0) = false := by simpa using h0
      go_enter Tryd.func69, Tryd.ntmps69
      go_wp2
      all_goals (go_ret; exact ⟨ret_bool (by rw [Bool.eq_iff_iff]; simp [modeB] <;> omega), (Below.refl _ _).alloc (Nat.le_refl _) _⟩)
end Go.Proofs.YtibekkfbpmloiaaDoor.Recs

/- Records: what RecordFault of the program and of its model answer. Condition (of the program's): its table of kinds holds what its own initialiser lays. -/
namespace Go.Proofs.YtibekkfbpmloiaaDoor.Recs
open Go.RowKit Paths

theorem ret_int {a b : Int} (h : a = b) : Ending.returned (.int .i64 a) = .returned (.int .i64 b) := by rw [h]

set_option maxHeartbeats 400000 in
theorem fault_any (k m : Int) (p b : ByteArray) (o ub nb um uo : Bool) (w : World) (hp : p.size ≤ maxLen) :
    Calls Tryd.prog 64 #[.agg #[.int .i64 k, .string p, .string b, .int .i64 m, .bool o, .bool ub, .bool nb, .bool um, .bool uo]] w fun e w' => e = .returned (.int .i64 (faultR p.data.toList b.size m o ub nb um uo)) ∧ Below w.heap.size w w' := by
  rcases Bool.eq_false_or_eq_true (pathB p.data.toList) with h1 | h1
  rotate_left
  · have HR := Lib.hid (show faultR p.data.toList b.size m o ub nb um uo = 10 by unfold faultR; rw [if_pos h1])
    go_enter Tryd.func64, Tryd.ntmps64
    go_wp2_with fail
    refine (pathOK_impl p _ hp).mono ?_
    rintro e w1 ⟨rfl, hb1⟩
    go_wp2_with fail
    go_ret
    exact ⟨ret_int HR.out.symm, ((Below.refl _ _).alloc (Nat.le_refl _) _).trans (hb1.mono (by simp))⟩
  go_enter Tryd.func64, Tryd.ntmps64
  go_wp2_with fail
  refine (pathOK_impl p _ hp).mono ?_
  rintro e w1 ⟨rfl, hb1⟩
  obtain ⟨hc1, hf1⟩ := bcell hb1
  have hz1 : w.heap.size < w1.heap.size := by have := hb1.size; simp at this; omega
  rcases Bool.eq_false_or_eq_true (sizeB nb b.size) with h2 | h2
  rotate_left
  · have HR := Lib.hid (show faultR p.data.toList b.size m o ub nb um uo = 8 by unfold faultR; rw [if_neg (by rw [h1]; decide), if_pos h2])
    go_wp2_with fail
    refine (allowsSize_any ub nb um uo b.size _).mono ?_
    rintro e w2 ⟨rfl, hb2⟩
    go_wp2_with fail
    go_ret
    exact ⟨ret_int HR.out.symm, (((Below.refl _ _).alloc (Nat.le_refl _) _).trans (hb1.mono (by simp))).trans (hb2.mono (by omega))⟩
  go_wp2_with fail
  refine (allowsSize_any ub nb um uo b.size _).mono ?_
  rintro e w2 ⟨rfl, hb2⟩
  obtain ⟨hc2, hf2⟩ := bcell hb2
  have hz2 : w.heap.size < w2.heap.size := by have := hb2.size; omega
  rcases Bool.eq_false_or_eq_true (formB ub uo b.size o) with h3 | h3
  rotate_left
  · have HR := Lib.hid (show faultR p.data.toList b.size m o ub nb um uo = 3 by unfold faultR; rw [if_neg (by rw [h1]; decide), if_neg (by rw [h2]; decide), if_pos h3])
    go_wp2_with fail
    refine (allowsForm_any ub nb um uo b o _).mono ?_
    rintro e w3 ⟨rfl, hb3⟩
    go_wp2_with fail
    go_ret
    exact ⟨ret_int HR.out.symm, ((((Below.refl _ _).alloc (Nat.le_refl _) _).trans (hb1.mono (by simp))).trans (hb2.mono (by omega))).trans (hb3.mono (by omega))⟩
  go_wp2_with fail
  refine (allowsForm_any ub nb um uo b o _).mono ?_
  rintro e w3 ⟨rfl, hb3⟩
  obtain ⟨hc3, hf3⟩ := bcell hb3
  have hz3 : w.heap.size < w3.heap.size := by have := hb3.size; omega
  rcases Bool.eq_false_or_eq_true (modeB um m) with h4 | h4
  · have HR := Lib.hid (show faultR p.data.toList b.size m o ub nb um uo = 0 by unfold faultR; rw [if_neg (by rw [h1]; decide), if_neg (by rw [h2]; decide), if_neg (by rw [h3]; decide), if_neg (by rw [h4]; decide)])
    go_wp2_with fail
    refine (allowsMode_any ub nb um uo m _).mono ?_
    rintro e w4 ⟨rfl, hb4⟩
    go_wp2_with fail
    go_ret
    exact ⟨ret_int HR.out.symm, (((((Below.refl _ _).alloc (Nat.le_refl _) _).trans (hb1.mono (by simp))).trans (hb2.mono (by omega))).trans (hb3.mono (by omega))).trans (hb4.mono (by omega))⟩
  · have HR := Lib.hid (show faultR p.data.toList b.size m o ub nb um uo = 4 by unfold faultR; rw [if_neg (by rw [h1]; decide), if_neg (by rw [h2]; decide), if_neg (by rw [h3]; decide), if_pos h4])
    go_wp2_with fail
    refine (allowsMode_any ub nb um uo m _).mono ?_
    rintro e w4 ⟨rfl, hb4⟩
    go_wp2_with fail
    go_ret
    exact ⟨ret_int HR.out.symm, (((((Below.refl _ _).alloc (Nat.le_refl _) _).trans (hb1.mono (by simp))).trans (hb2.mono (by omega))).trans (hb3.mono (by omega))).trans (hb4.mono (by omega))⟩

/-! ### The table of kinds -/
def cells : Array Value := #[.bool false, .bool false, .bool false, .bool false, .bool true, .bool false, .bool true, .bool false, .bool true, .bool true, .bool false, .bool false, .bool false, .bool false, .bool true, .bool true, .bool false, .bool false, .bool false, .bool false]
def Tab (w : World) : Prop := ∃ t fr, w.heap[(2 : Nat)]? = some (.cells cells t fr)
theorem Tab.cell {w : World} (h : Tab w) (n : Nat) : w.cell? ⟨2, n, none⟩ = cells[n]? := by
  obtain ⟨t, fr, h⟩ := h
  exact cell_of_row w _ n _ _ _ h
theorem Tab.lt {w : World} (h : Tab w) : 2 < w.heap.size := by
  obtain ⟨t, fr, h⟩ := h
  exact (Array.getElem?_eq_some_iff.1 h).1
theorem Tab.below {w w' : World} {B : Nat} (h : Tab w) (hb : Below B w w') (hB : w.heap.size ≤ B) : Tab w' := by
  obtain ⟨t, fr, h⟩ := h
  exact ⟨t, fr, by rw [hb.block _ (Nat.lt_of_lt_of_le (Array.getElem?_eq_some_iff.1 h).1 hB)]; exact h⟩

theorem rule1 (p : List UInt8) (z : Nat) (m : Int) (o : Bool) : faultR p z m o true false true false = faultI 1 p z m o := by
  unfold faultR faultI sizeB formB modeB
  cases pathB p <;> cases o <;> by_cases h1 : z ≤ 20 <;> by_cases h2 : z = 0 <;> by_cases h3 : m = 0 <;> by_cases h4 : 0 < m <;> by_cases h5 : m ≤ 511 <;> simp [h1, h2, h3, h4, h5] <;> omega
end Go.Proofs.YtibekkfbpmloiaaDoor.Recs

/- Records: what RecordFault of the program and of its model answer. Condition (of the program's): its table of kinds holds what its own initialiser lays. -/
namespace Go.Proofs.YtibekkfbpmloiaaDoor.Recs
open Go.RowKit Paths

theorem rule2 (p : List UInt8) (z : Nat) (m : Int) (o : Bool) : faultR p z m o true true false false = faultI 2 p z m o := by
  unfold faultR faultI sizeB formB modeB
  cases pathB p <;> cases o <;> by_cases h1 : z ≤ 20 <;> by_cases h2 : z = 0 <;> by_cases h3 : m = 0 <;> by_cases h4 : 0 < m <;> by_cases h5 : m ≤ 511 <;> simp [h1, h2, h3, h4, h5] <;> omega
theorem rule3 (p : List UInt8) (z : Nat) (m : Int) (o : Bool) : faultR p z m o false false true true = faultI 3 p z m o := by
  unfold faultR faultI sizeB formB modeB
  cases pathB p <;> cases o <;> by_cases h1 : z ≤ 20 <;> by_cases h2 : z = 0 <;> by_cases h3 : m = 0 <;> by_cases h4 : 0 < m <;> by_cases h5 : m ≤ 511 <;> simp [h1, h2, h3, h4, h5] <;> omega
theorem rule4 (p : List UInt8) (z : Nat) (m : Int) (o : Bool) : faultR p z m o false false false false = faultI 4 p z m o := by
  unfold faultR faultI sizeB formB modeB
  cases pathB p <;> cases o <;> by_cases h1 : z ≤ 20 <;> by_cases h2 : z = 0 <;> by_cases h3 : m = 0 <;> by_cases h4 : 0 < m <;> by_cases h5 : m ≤ 511 <;> simp [h1, h2, h3, h4, h5] <;> omega

set_option maxRecDepth 100000 in
set_option maxHeartbeats 400000 in
theorem recordFault_impl (k m : Int) (p b : ByteArray) (o : Bool) (w : World) (hp : p.size ≤ maxLen) (ht : Tab w) :
    Calls Tryd.prog 61 #[.agg #[.int .i64 k, .string p, .string b, .int .i64 m, .bool o]] w fun e w' => e = .returned (.int .i64 (faultI k p.data.toList b.size m o)) ∧ Below w.heap.size w w' := by
  by_cases h0 : k < 1
  · have HR := Lib.hid (show faultI k p.data.toList b.size m o = 9 by unfold faultI; rw [if_pos (.inl h0)])
    have hd : decide (k < 1) = true := by simpa using h0
    go_enter Tryd.func61, Tryd.ntmps61
    go_wp2
    go_ret
    exact ⟨ret_int HR.out.symm, (Below.refl _ _).alloc (Nat.le_refl _) _⟩
  have hd0 : decide (k < 1) = false := by simpa using h0
  by_cases h1 : 4 < k
  · have HR := Lib.hid (show faultI k p.data.toList b.size m o = 9 by unfold faultI; rw [if_pos (.inr h1)])
    go_enter Tryd.func61, Tryd.ntmps61
    go_wp2
    go_ret
    exact ⟨ret_int HR.out.symm, (Below.refl _ _).alloc (Nat.le_refl _) _⟩
  have hlt := ht.lt
  have HT : Tab (w.alloc (.cells #[.int .i64 k, .string p, .string b, .int .i64 m, .bool o] 25)) := ht.below ((Below.refl _ _).alloc (Nat.le_refl _) _) (Nat.le_refl _)
  have e : k = 1 ∨ k = 2 ∨ k = 3 ∨ k = 4 := by omega
  rcases e with rfl | rfl | rfl | rfl
  · rw [← rule1]
    have c0 := HT.cell 4
    have c1 := HT.cell 5
    have c2 := HT.cell 6
    have c3 := HT.cell 7
    simp only [cells, List.getElem?_toArray, List.getElem?_cons_succ, List.getElem?_cons_zero] at c0 c1 c2 c3
    go_enter Tryd.func61, Tryd.ntmps61
    go_wp2_with fail
    have a0 : (w.alloc (.cells #[.int .i64 1, .string p, .string b, .int .i64 m, .bool o] 25)).cell? ⟨w.heap.size, 0, none⟩ = some (.int .i64 1) := by go_simp
    have a1 : (w.alloc (.cells #[.int .i64 1, .string p, .string b, .int .i64 m, .bool o] 25)).cell? ⟨w.heap.size, 1, none⟩ = some (.string p) := by go_simp
    have a2 : (w.alloc (.cells #[.int .i64 1, .string p, .string b, .int .i64 m, .bool o] 25)).cell? ⟨w.heap.size, 2, none⟩ = some (.string b) := by go_simp
    have a3 : (w.alloc (.cells #[.int .i64 1, .string p, .string b, .int .i64 m, .bool o] 25)).cell? ⟨w.heap.size, 3, none⟩ = some (.int .i64 m) := by go_simp
    have a4 : (w.alloc (.cells #[.int .i64 1, .string p, .string b, .int .i64 m, .bool o] 25)).cell? ⟨w.heap.size, 4, none⟩ = some (.bool o) := by go_simp
    have hb0 : Below w.heap.size w (w.alloc (.cells #[.int .i64 1, .string p, .string b, .int .i64 m, .bool o] 25)) := (Below.refl _ _).alloc (Nat.le_refl _) _
    generalize w.alloc (.cells #[.int .i64 1, .string p, .string b, .int .i64 m, .bool o] 25) = W at *
    go_still_tail 6, (by kernel_rfl)
    change wpList _ _ _ _ _ W.drew
    have hb0' : Below w.heap.size w W.drew := hb0.drew
    clear hb0
    generalize W.drew = W2 at *
    go_wp2_with fail
    refine (fault_any 1 m p b o true false true false _ hp).mono ?_
    rintro e w1 ⟨rfl, hb1⟩
    go_wp2_with fail
    go_ret
    exact ⟨rfl, hb0'.trans (hb1.mono hb0'.size)⟩
  · rw [← rule2]
    have c0 := HT.cell 8
    have c1 := HT.cell 9
    have c2 := HT.cell 10
    have c3 := HT.cell 11
    simp only [cells, List.getElem?_toArray, List.getElem?_cons_succ, List.getElem?_cons_zero] at c0 c1 c2 c3
    go_enter Tryd.func61, Tryd.ntmps61
    go_wp2_with fail
    have a0 : (w.alloc (.cells #[.int .i64 2, .string p, .string b, .int .i64 m, .bool o] 25)).cell? ⟨w.heap.size, 0, none⟩ = some (.int .i64 2) := by go_simp
    have a1 : (w.alloc (.cells #[.int .i64 2, .string p, .string b, .int .i64 m, .bool o] 25)).cell? ⟨w.heap.size, 1, none⟩ = some (.string p) := by go_simp
    have a2 : (w.alloc (.cells #[.int .i64 2, .string p, .string b, .int .i64 m, .bool o] 25)).cell? ⟨w.heap.size, 2, none⟩ = some (.string b) := by go_simp
    have a3 : (w.alloc (.cells #[.int .i64 2, .string p, .string b, .int .i64 m, .bool o] 25)).cell? ⟨w.heap.size, 3, none⟩ = some (.int .i64 m) := by go_simp
    have a4 : (w.alloc (.cells #[.int .i64 2, .string p, .string b, .int .i64 m, .bool o] 25)).cell? ⟨w.heap.size, 4, none⟩ = some (.bool o) := by go_simp
    have hb0 : Below w.heap.size w (w.alloc (.cells #[.int .i64 2, .string p, .string b, .int .i64 m, .bool o] 25)) := (Below.refl _ _).alloc (Nat.le_refl _) _
    generalize w.alloc (.cells #[.int .i64 2, .string p, .string b, .int .i64 m, .bool o] 25) = W at *
    go_still_tail 6, (by kernel_rfl)
    change wpList _ _ _ _ _ W.drew
    have hb0' : Below w.heap.size w W.drew := hb0.drew
    clear hb0
    generalize W.drew = W2 at *
    go_wp2_with fail
    refine (fault_any 2 m p b o true true false false _ hp).mono ?_
    rintro e w1 ⟨rfl, hb1⟩
    go_wp2_with fail
    go_ret
    exact ⟨rfl, hb0'.trans (hb1.mono hb0'.size)⟩
  · rw [← rule3]
    have c0 := HT.cell 12
    have c1 := HT.cell 13
    have c2 := HT.cell 14
    have c3 := HT.cell 15
    simp only [cells, List.getElem?_toArray, List.getElem?_cons_succ, List.getElem?_cons_zero] at c0 c1 c2 c3
    go_enter Tryd.func61, Tryd.ntmps61
    go_wp2_with fail
    have a0 : (w.alloc (.cells #[.int .i64 3, .string p, .string b, .int .i64 m, .bool o] 25)).cell? ⟨w.heap.size, 0, none⟩ = some (.int .i64 3) := by go_simp
    have a1 : (w.alloc (.cells #[.int .i64 3, .string p, .string b, .int .i64 m, .bool o] 25)).cell? ⟨w.heap.size, 1, none⟩ = some (.string p) := by go_simp
    have a2 : (w.alloc (.cells #[.int .i64 3, .string p, .string b, .int .i64 m, .bool o] 25)).cell? ⟨w.heap.size, 2, none⟩ = some (.string b) := by go_simp
    have a3 : (w.alloc (.cells #[.int .i64 3, .string p, .string b, .int .i64 m, .bool o] 25)).cell? ⟨w.heap.size, 3, none⟩ = some (.int .i64 m) := by go_simp
    have a4 : (w.alloc (.cells #[.int .i64 3, .string p, .string b, .int .i64 m, .bool o] 25)).cell? ⟨w.heap.size, 4, none⟩ = some (.bool o) := by go_simp
    have hb0 : Below w.heap.size w (w.alloc (.cells #[.int .i64 3, .string p, .string b, .int .i64 m, .bool o] 25)) := (Below.refl _ _).alloc (Nat.le_refl _) _
    generalize w.alloc (.cells #[.int .i64 3, .string p, .string b, .int .i64 m, .bool o] 25) = W at *
    go_still_tail 6, (by kernel_rfl)
    change wpList _ _ _ _ _ W.drew
    have hb0' : Below w.heap.size w W.drew := hb0.drew
    clear hb0
    generalize W.drew = W2 at *
    go_wp2_with fail
    refine (fault_any 3 m p b o false false true true _ hp).mono ?_
    rintro e w1 ⟨rfl, hb1⟩
    go_wp2_with fail
    go_ret
    exact ⟨rfl, hb0'.trans (hb1.mono hb0'.size)⟩
  · rw [← rule4]
    have c0 := HT.cell 16
    have c1 := HT.cell 17
    have c2 := HT.cell 18
    have c3 := HT.cell 19
    simp only [cells, List.getElem?_toArray, List.getElem?_cons_succ, List.getElem?_cons_zero] at c0 c1 c2 c3
    go_enter Tryd.func61, Tryd.ntmps61
    go_wp2_with fail
    have a0 : (w.alloc (.cells #[.int .i64 4, .string p, .string b, .int .i64 m, .bool o] 25)).cell? ⟨w.heap.size, 0, none⟩ = some (.int .i64 4) := by go_simp
    have a1 : (w.alloc (.cells #[.int .i64 4, .string p, .string b, .int .i64 m, .bool o] 25)).cell? ⟨w.heap.size, 1, none⟩ = some (.string p) := by go_simp
    have a2 : (w.alloc (.cells #[.int .i64 4, .string p, .string b, .int .i64 m, .bool o] 25)).cell? ⟨w.heap.size, 2, none⟩ = some (.string b) := by go_simp
    have a3 : (w.alloc (.cells #[.int .i64 4, .string p, .string b, .int .i64 m, .bool o] 25)).cell? ⟨w.heap.size, 3, none⟩ = some (.int .i64 m) := by go_simp
    have a4 : (w.alloc (.cells #[.int .i64 4, .string p, .string b, .int .i64 m, .bool o] 25)).cell? ⟨w.heap.size, 4, none⟩ = some (.bool o) := by go_simp
    have hb0 : Below w.heap.size w (w.alloc (.cells #[.int .i64 4, .string p, .string b, .int .i64 m, .bool o] 25)) := (Below.refl _ _).alloc (Nat.le_refl _) _
    generalize w.alloc (.cells #[.int .i64 4, .string p, .string b, .int .i64 m, .bool o] 25) = W at *
    go_still_tail 6, (by kernel_rfl)
    change wpList _ _ _ _ _ W.drew
    have hb0' : Below w.heap.size w W.drew := hb0.drew
    clear hb0
    generalize W.drew = W2 at *
    go_wp2_with fail
    refine (fault_any 4 m p b o false false false false _ hp).mono ?_
    rintro e w1 ⟨rfl, hb1⟩
    go_wp2_with fail
    go_ret
    exact ⟨rfl, hb0'.trans (hb1.mono hb0'.size)⟩

end Go.Proofs.YtibekkfbpmloiaaDoor.Recs

/- Records: what RecordFault of the model answers. -/
namespace Go.Proofs.YtibekkfbpmloiaaDoor.Recs
open Go.RowKit Paths

def kindOk (k : Int) : Prop := k = 1 ∨ k = 2 ∨ k = 3 ∨ k = 4
theorem in1 : inB 1 1 4 = true := by decide
theorem in2 : inB 2 1 4 = true := by decide
theorem in3 : inB 3 1 4 = true := by decide
theorem in4 : inB 4 1 4 = true := by decide

set_option maxHeartbeats 1000000 in
theorem l02Fault_bad (k m : Int) (p b : ByteArray) (o : Bool) (w : World) (h0 : ¬ kindOk k) :
    Calls Tryd.prog 45 #[.agg #[.int .i64 k, .string p, .string b, .int .i64 m, .bool o]] w fun e w' => e = .returned (.int .i64 (faultI k p.data.toList b.size m o)) ∧ Below w.heap.size w w' := by
  have h0' : k < 1 ∨ 4 < k := by unfold kindOk at h0; omega
  have HR := Lib.hid (show faultI k p.data.toList b.size m o = 9 by unfold faultI; rw [if_pos h0'])
  have hin : inB k 1 4 = false := inB_false (by omega)
  have hd : (k == 3) = false := by simp; omega
  clear h0 h0'
  go_enter Tryd.func45, Tryd.ntmps45
  go_wp2_with (go_at_call 34; refine (l01In_any _ _ _ _).mono ?_; rintro e w' ⟨rfl, rfl⟩)
  go_ret
  exact ⟨ret_int HR.out.symm, (Below.refl _ _).alloc (Nat.le_refl _) _⟩

set_option maxHeartbeats 1000000 in
theorem l02Fault_name (k m : Int) (p b : ByteArray) (o : Bool) (w : World) (h0 : kindOk k) (h1 : pathB p.data.toList = false) :
    Calls Tryd.prog 45 #[.agg #[.int .i64 k, .string p, .string b, .int .i64 m, .bool o]] w fun e w' => e = .returned (.int .i64 (faultI k p.data.toList b.size m o)) ∧ Below w.heap.size w w' := by
  have HR := Lib.hid (show faultI k p.data.toList b.size m o = 10 by unfold faultI kindOk at *; rw [if_neg (by omega), if_pos h1])
  have i1 := in1
  have i2 := in2
  have i3 := in3
  have i4 := in4
  rcases h0 with rfl | rfl | rfl | rfl
  all_goals
    go_enter Tryd.func45, Tryd.ntmps45
    go_wp2_with (go_at_call 34; refine (l01In_any _ _ _ _).mono ?_; rintro e w' ⟨rfl, rfl⟩)
    refine (l01OK_any _ _).mono ?_
    rintro e w1 ⟨rfl, hb1⟩
    go_wp2_with fail
    go_ret
    exact ⟨ret_int HR.out.symm, ((Below.refl _ _).alloc (Nat.le_refl _) _).trans (hb1.mono (by simp))⟩

theorem tail_eq {k m : Int} {p : List UInt8} {z : Nat} {o : Bool} (h0 : kindOk k) (h1 : pathB p = true) : faultI k p z m o = if 20 < z ∨ k = 2 ∧ z = 0 then 8
  else if z ≠ 0 ∧ (k = 3 ∨ k = 4) ∨ o = true ∧ k ≠ 3 then 3 else if m < 0 ∨ 511 < m ∨ m ≠ 0 ∧ (k = 4 ∨ k = 2) then 4 else 0 := by
  unfold faultI kindOk at *
  rw [if_neg (by omega), if_neg (by rw [h1]; decide)]

set_option maxHeartbeats 4000000 in
theorem l02Fault_rest (k m : Int) (p b : ByteArray) (o : Bool) (w : World) (h0 : kindOk k) (h1 : pathB p.data.toList = true) :
    Calls Tryd.prog 45 #[.agg #[.int .i64 k, .string p, .string b, .int .i64 m, .bool o]] w fun e w' => e = .returned (.int .i64 (faultI k p.data.toList b.size m o)) ∧ Below w.heap.size w w' := by
  have HT := Lib.hid (tail_eq (z := b.size) (o := o) (m := m) h0 h1)
  have i1 := in1
  have i2 := in2
  have i3 := in3
  have i4 := in4
  by_cases h2 : 20 < b.size
  · have he := isEmpty_false (by omega : 0 < b.size)
    have HR := Lib.hid (show faultI k p.data.toList b.size m o = 8 by rw [HT.out, if_pos (.inl h2)])
    rcases h0 with rfl | rfl | rfl | rfl
    all_goals
      go_enter Tryd.func45, Tryd.ntmps45
      go_wp2_with (go_at_call 34; refine (l01In_any _ _ _ _).mono ?_; rintro e w' ⟨rfl, rfl⟩)
      refine (l01OK_any _ _).mono ?_
      rintro e w1 ⟨rfl, hb1⟩
      obtain ⟨hc1, hf1⟩ := bcell hb1
      go_wp2_with fail
      go_ret
      exact ⟨ret_int HR.out.symm, ((Below.refl _ _).alloc (Nat.le_refl _) _).trans (hb1.mono (by simp))⟩
  have hd2 : decide ((20 : Int) < (b.size : Int)) = false := by simp; omega
  by_cases h3 : b.size = 0
  · have he := isEmpty_true h3
    rw [h3] at HT
    rcases h0 with rfl | rfl | rfl | rfl
    all_goals
      cases o
      all_goals
        go_enter Tryd.func45, Tryd.ntmps45
        go_wp2_with (go_at_call 34; refine (l01In_any _ _ _ _).mono ?_; rintro e w' ⟨rfl, rfl⟩)
        refine (l01OK_any _ _).mono ?_
        rintro e w1 ⟨rfl, hb1⟩
        obtain ⟨hc1, hf1⟩ := bcell hb1
        go_wp2_with (go_at_call 34; refine (l01In_any _ _ _ _).mono ?_; rintro e w' ⟨rfl, rfl⟩)
        all_goals
          go_ret
          exact ⟨ret_int (by rw [h3, HT.out]; simp_all [inB] <;> omega), ((Below.refl _ _).alloc (Nat.le_refl _) _).trans (hb1.mono (by simp))⟩
  · have he := isEmpty_false (by omega : 0 < b.size)
    have hz : ¬ (b.size = 0) := h3
    rcases h0 with rfl | rfl | rfl | rfl
    all_goals
      cases o
      all_goals
        go_enter Tryd.func45, Tryd.ntmps45
        go_wp2_with (go_at_call 34; refine (l01In_any _ _ _ _).mono ?_; rintro e w' ⟨rfl, rfl⟩)
        refine (l01OK_any _ _).mono ?_
        rintro e w1 ⟨rfl, hb1⟩
        obtain ⟨hc1, hf1⟩ := bcell hb1
        go_wp2_with (go_at_call 34; refine (l01In_any _ _ _ _).mono ?_; rintro e w' ⟨rfl, rfl⟩)
        all_goals
          go_ret
          exact ⟨ret_int (by rw [HT.out]; simp_all [inB] <;> omega), ((Below.refl _ _).alloc (Nat.le_refl _) _).trans (hb1.mono (by simp))⟩

theorem l02Fault_any (k m : Int) (p b : ByteArray) (o : Bool) (w : World) :
    Calls Tryd.prog 45 #[.agg #[.int .i64 k, .string p, .string b, .int .i64 m, .bool o]] w fun e w' => e = .returned (.int .i64 (faultI k p.data.toList b.size m o)) ∧ Below w.heap.size w w' := by
  by_cases h0 : kindOk k
  · rcases Bool.eq_false_or_eq_true (pathB p.data.toList) with h1 | h1
    · exact l02Fault_rest k m p b o w h0 h1
    · exact l02Fault_name k m p b o w h0 h1
  · exact l02Fault_bad k m p b o w h0
end Go.Proofs.YtibekkfbpmloiaaDoor.Recs

/- Records as the laws take them: opening one, its size, its copy, its comparison. -/
namespace Go.Proofs.YtibekkfbpmloiaaDoor.Recs
set_option maxRecDepth 100000
open Go.RowKit Paths Go.WideShapes Go.ChangeShapes

section
variable {H : Type} {enc : TypeId × Value → H} {w : World} {base : Nat} {spare : Nat → Bool} {held : Bool}
theorem cI : Tryd.prog.cellsOf 3 = 1 := by kernel_rfl
theorem cS : Tryd.prog.cellsOf 9 = 1 := by kernel_rfl
theorem cB : Tryd.prog.cellsOf 4 = 1 := by kernel_rfl
theorem cR : Tryd.prog.cellsOf 47 = 5 := by kernel_rfl

/-- What the five cells of a record are. -/
theorem rec_of_trod {fuel : Nat} {cs : List Value} {x : DataW H × List MemPlace} (h : DataW.trod enc Tryd.prog w base spare held fuel 47 cs = some x) :
    ∃ (k m : Int) (p b : ByteArray) (o : Bool), cs = [.int .i64 k, .string p, .string b, .int .i64 m, .bool o] ∧ p.size ≤ maxLen ∧ b.size ≤ maxLen ∧ (Lit.int .i64 k).wf = true ∧ (Lit.int .i64 m).wf = true ∧
      x = (.agg [.lit (.int .i64 k), .lit (.string p.data.toList), .lit (.string b.data.toList), .lit (.int .i64 m), .lit (.bool o)], []) := by
  obtain ⟨xs, n, _, hx, hl, hxl, hg⟩ := DataW.trod_struct Tryd.underlying47 h
  rw [cR] at hl
  have g0 : DataW.trod enc Tryd.prog w base spare held n 3 ((cs.drop 0).take 1) = xs[0]? := by have g := hg 0 _ rfl; change DataW.trod enc Tryd.prog w base spare held n 3 ((cs.drop 0).take (Tryd.prog.cellsOf 3)) = xs[0]? at g; rw [cI] at g; exact g
  have g1 : DataW.trod enc Tryd.prog w base spare held n 9 ((cs.drop 1).take 1) = xs[1]? := by have g := hg 1 _ rfl; change DataW.trod enc Tryd.prog w base spare held n 9 ((cs.drop 1).take (Tryd.prog.cellsOf 9)) = xs[1]? at g; rw [cS] at g; exact g
  have g2 : DataW.trod enc Tryd.prog w base spare held n 9 ((cs.drop 2).take 1) = xs[2]? := by have g := hg 2 _ rfl; change DataW.trod enc Tryd.prog w base spare held n 9 ((cs.drop 2).take (Tryd.prog.cellsOf 9)) = xs[2]? at g; rw [cS] at g; exact g
  have g3 : DataW.trod enc Tryd.prog w base spare held n 3 ((cs.drop 3).take 1) = xs[3]? := by have g := hg 3 _ rfl; change DataW.trod enc Tryd.prog w base spare held n 3 ((cs.drop 3).take (Tryd.prog.cellsOf 3)) = xs[3]? at g; rw [cI] at g; exact g
  have g4 : DataW.trod enc Tryd.prog w base spare held n 4 ((cs.drop 4).take 1) = xs[4]? := by have g := hg 4 _ rfl; change DataW.trod enc Tryd.prog w base spare held n 4 ((cs.drop 4).take (Tryd.prog.cellsOf 4)) = xs[4]? at g; rw [cB] at g; exact g
  match cs, hl, xs, hxl with
  | [c0, c1, c2, c3, c4], _, [y0, y1, y2, y3, y4], _ =>
    obtain ⟨k, e0, f0, w0⟩ := DataW.trod_int Tryd.underlying3 (show DataW.trod enc Tryd.prog w base spare held n 3 [c0] = some y0 from g0)
    obtain ⟨p, e1, f1, w1⟩ := DataW.trod_string Tryd.underlying9 (show DataW.trod enc Tryd.prog w base spare held n 9 [c1] = some y1 from g1)
    obtain ⟨b, e2, f2, w2⟩ := DataW.trod_string Tryd.underlying9 (show DataW.trod enc Tryd.prog w base spare held n 9 [c2] = some y2 from g2)
    obtain ⟨m, e3, f3, w3⟩ := DataW.trod_int Tryd.underlying3 (show DataW.trod enc Tryd.prog w base spare held n 3 [c3] = some y3 from g3)
    obtain ⟨o, e4, f4⟩ := DataW.trod_bool Tryd.underlying4 (show DataW.trod enc Tryd.prog w base spare held n 4 [c4] = some y4 from g4)
    simp only [List.cons.injEq, and_true] at e0 e1 e2 e3 e4
    subst e0 e1 e2 e3 e4 f0 f1 f2 f3 f4
    exact ⟨k, m, p, b, o, rfl, w1, w2, w0, w3, by rw [hx]; rfl⟩

end

theorem toRecord_any (k m : Int) (p b : ByteArray) (o : Bool) (w : World) :
    Calls Tryd.prog 25 #[.agg #[.int .i64 k, .string p, .string b, .int .i64 m, .bool o]] w fun e w' => e = .returned (.agg #[.int .i64 k, .string p, .string b, .int .i64 m, .bool o]) ∧ Below w.heap.size w w' := by
  go_enter Tryd.func25, Tryd.ntmps25
  go_wp2_with fail
  refine bodyPost_ret (v := .agg #[.int .i64 k, .string p, .string b, .int .i64 m, .bool o]) (by simp [results, Tryd.results25, go_sem]) rfl ⟨rfl, ?_⟩
  exact (((Below.refl _ _).alloc (Nat.le_refl _) _).alloc (by simp) _).alloc (by simp; omega) _

theorem eqRecord_any (k m : Int) (p b : ByteArray) (o : Bool) (w : World) :
    Calls Tryd.prog 8 #[.agg #[.int .i64 k, .string p, .string b, .int .i64 m, .bool o], .agg #[.int .i64 k, .string p, .string b, .int .i64 m, .bool o]] w fun e w' => e = .returned (.bool true) ∧ Below w.heap.size w w' := by
  go_enter Tryd.func8, Tryd.ntmps8
  go_wp2_with fail
  go_ret
  exact ⟨rfl, ((Below.refl _ _).alloc (Nat.le_refl _) _).alloc (by simp) _⟩

end Go.Proofs.YtibekkfbpmloiaaDoor.Recs
