/- Parts of several texts of mine in one file (each begins with its own remark). -/
import Derived.Test.YtibekkfbpmloiabGreatDoorHA1
import Derived.Test.YtibekkfbpmloiabGreatDoorHA10
import Derived.Test.YtibekkfbpmloiabGreatDoorHA11
import Derived.Test.YtibekkfbpmloiabGreatDoorHA12
import Derived.Test.YtibekkfbpmloiabGreatDoorHA14
import Derived.Test.YtibekkfbpmloiabGreatDoorHA15
import Derived.Test.YtibekkfbpmloiabGreatDoorHA16
import Derived.Test.YtibekkfbpmloiabGreatDoorHA17
import Derived.Test.YtibekkfbpmloiabGreatDoorHA18
import Derived.Test.YtibekkfbpmloiabGreatDoorHA2
import Derived.Test.YtibekkfbpmloiabGreatDoorHA3
import Derived.Test.YtibekkfbpmloiabGreatDoorHA4
import Derived.Test.YtibekkfbpmloiabGreatDoorHA6
import Derived.Test.YtibekkfbpmloiabGreatDoorHA8
import Derived.Test.YtibekkfbpmloiabGreatDoorHA9
import Derived.Test.YtibekkfbpmloiabGreatDoorChecked
import Derived.Test.YtibekkfbpmloiabGreatDoorShelf
import Derived.Test.YtibekkfbpmloiabGreatDoorProg
import Derived.Test.YtibekkfbpmloiabGreatDoorRows
import Derived.Laws.IdiomCopy
import Derived.BigRegion
import Derived.StillTailTactics
import Derived.Deep.Slices
import Derived.OpenShut
import Derived.ShutString
import Derived.ChangeArms
import Derived.WideShapes
import Derived.Lib.LaidTab
import Derived.BigQuiet
import Derived.Deep.QuietTactic
import Derived.Deep.RegionHeld3
import Derived.Deep.Draws
import Derived.Deep.LoopGhost
import Derived.WalkKit
import Derived.WalkSpells
import Derived.WalkSmall
import Derived.Lib.OthersKept
import Derived.Lib.Hide
import Derived.Lib.Strings
import Derived.Lib.Join
import Derived.Laws.OwnMore
import Derived.Laws.BytesArg
import Derived.Stop.LaidErr
import Derived.WalkLawsBesides
import Derived.LaidEql
import Derived.Stop.Asserts
import Derived.Below
import Derived.Stop.LaidTwo
import Derived.ChangeVars
import Derived.Deep.DeepHandedRow
import Derived.Deep.RegionWith
import Derived.OneCell
import Derived.Lib.SliceRun
import Derived.Lib.Overlaps
import Derived.Lib.AppendZerosOnto
import Derived.Laws.NewBlocks
import Derived.Deep.RegionLaw
/- The cursors of a stack and the heap of them, of the program. -/
namespace Go.Proofs.YtibekkfbpmloiabGreatDoor.Recs
set_option maxRecDepth 100000
open Go.RowKit Paths Heap

/-- The layers that have records, with their numbers. -/
def cursN : List (List R) → Nat → List (Nat × List R)
  | [], _ => []
  | [] :: s, n => cursN s (n + 1)
  | (x :: l) :: s, n => (n + 1, x :: l) :: cursN s (n + 1)
theorem cursN_append : ∀ (a b : List (List R)) (n : Nat), cursN (a ++ b) n = cursN a n ++ cursN b (n + a.length)
  | [], b, n => rfl
  | [] :: a, b, n => by
    have ih := cursN_append a b (n + 1)
    simp only [List.cons_append, cursN]
    rw [ih, show n + 1 + a.length = n + ([] :: a : List (List R)).length by simp only [List.length_cons]; omega]
  | (x :: l) :: a, b, n => by
    have ih := cursN_append a b (n + 1)
    simp only [List.cons_append, cursN]
    rw [ih, show n + 1 + a.length = n + ((x :: l) :: a : List (List R)).length by simp only [List.length_cons]; omega]
def cursL (LL : List (List R)) : List (Nat × List R) := cursN LL 0
theorem curs_none {LL : List (List R)} {k : Nat} (h : k < LL.length) (hn : LL[k] = []) : cursL (LL.take (k + 1)) = cursL (LL.take k) := by
  unfold cursL
  rw [List.take_succ_eq_append_getElem h, cursN_append, hn]
  simp [cursN]
theorem curs_some {LL : List (List R)} {k : Nat} (h : k < LL.length) {x : R} {l : List R} (hn : LL[k] = x :: l) : cursL (LL.take (k + 1)) = cursL (LL.take k) ++ [(k + 1, x :: l)] := by
  unfold cursL
  rw [List.take_succ_eq_append_getElem h, cursN_append, hn, List.length_take, Nat.min_eq_left (by omega), Nat.zero_add]
  rfl
theorem cursN_len : ∀ (s : List (List R)) (n : Nat), (cursN s n).length ≤ s.length
  | [], _ => Nat.le_refl _
  | [] :: s, n => by
    have := cursN_len s (n + 1)
    simp only [cursN, List.length_cons]
    omega
  | (x :: l) :: s, n => by
    have := cursN_len s (n + 1)
    simp only [cursN, List.length_cons]
    omega
theorem CurOk.nil (w0 : World) : CurOk w0 [] [] := ⟨rfl, fun i n u h => by simp at h⟩
theorem CurOk.snoc {w0 : World} {M : List (Nat × Value)} {cs : List (Nat × List R)} (h : CurOk w0 M cs) {n : Nat} {u : Value} {x : R} {l : List R} (hu : RecSl w0 u (x :: l)) (hp : ∀ r ∈ x :: l, pathB r.p.data.toList = true) : CurOk w0 (M ++ [(n, u)]) (cs ++ [(n, x :: l)]) := by
  refine ⟨by simp [h.len], fun i m v hi => ?_⟩
  rcases Nat.lt_or_ge i M.length with hlt | hge
  · rw [List.getElem?_append_left hlt] at hi
    rw [List.getElem?_append_left (by rw [← h.len]; exact hlt)]
    exact h.at_ i m v hi
  · rw [List.getElem?_append_right hge] at hi
    rw [List.getElem?_append_right (by rw [← h.len]; exact hge)]
    have e : i - M.length = 0 := by
      have := (List.getElem?_eq_some_iff.1 hi).1
      simp at this
      omega
    rw [e] at hi
    rw [← h.len, e]
    cases hi
    exact ⟨x, l, rfl, hu, hp⟩
theorem cursorInfo : (Tryz.prog.info? 171).map (fun i => (i.zero, i.size, i.bytes)) = some (some (.agg #[.int .i64 0, .slice none 0 0]), 2, 32) := by kernel_rfl
theorem csU_new (w : World) (n : Nat) (A : Option Addr) (m c : Nat) (t : TypeId) (j : Nat) (u : Value) (h : (csU (n, .slice A m c))[j]? = some u) : (w.alloc (.cells #[.int .i64 (n : Int), .slice A m c] t)).cell? ((⟨w.heap.size, 0, none⟩ : Addr).add j) = some u := by
  rw [Addr.add_lit]
  match j, h with
  | 0, h => cases h; go_simp
  | 1, h => cases h; go_simp
  | j + 2, h => simp [csU] at h
theorem csU_one (n : Nat) (A : Option Addr) (m c : Nat) : ∀ u ∈ csU (n, .slice A m c), u.oneCell' = true := by
  intro u hu
  simp only [csU, List.mem_cons, List.not_mem_nil, or_false] at hu
  rcases hu with rfl | rfl <;> rfl
theorem rowU_snoc {w : World} {base : Nat} {v : Value} {M : List (Nat × Value)} {p : Nat × Value} (h : w.ownsRow base 171 2 v (M.length + 1) (flatG csU M ++ csU p)) : RowU w base v (M ++ [p]).length (M ++ [p]) :=
  ⟨rfl, by rw [flatG_snoc, List.length_append]; exact h⟩

set_option maxHeartbeats 1600000 in
theorem cursorsOf_any (v : Value) (LL : List (List R)) (w : World) (h : StkSl w v LL) (hl : LL.length ≤ 5) (hp : ∀ l ∈ LL, ∀ r ∈ l, pathB r.p.data.toList = true) :
    Calls Tryz.prog 154 #[v] w fun e w' => ∃ x M, e = .returned x ∧ Below w.heap.size w w' ∧ RowU w' w.heap.size x M.length M ∧ CurOk w M (cursL LL) := by
  obtain ⟨i0, hi, hI0, hI1, hI2⟩ := info_parts cursorInfo
  obtain ⟨A, cap, rfl, hcap, h⟩ := h
  have H := Lib.hid h
  have HP := Lib.hid hp
  clear h hp
  go_enter Tryz.func154, Tryz.ntmps154
  go_wp2
  go_loopw [3, 8] (fun cv i wr => ∃ (k : Nat) (M : List (Nat × Value)), k ≤ LL.length ∧ i = .int .i64 k ∧ Hid (CurOk w M (cursL (LL.take k))) ∧ RowU wr w.heap.size cv M.length M ∧ Below w.heap.size w wr) (fun _ i _ => LL.length - (intOf i).toNat)
  case atStart => exact ⟨0, [], by omega, rfl, CurOk.nil w, RowG.nil, Below.refl _ _⟩
  case round =>
    obtain ⟨k, M, hk, rfl, HM, hrow, hbw⟩ := hrel
    obtain ⟨gA, gcap, rfl⟩ := hrow.form
    by_cases hlt : k < LL.length
    · obtain ⟨b, off, rfl, hb, hcell⟩ := H.out (by omega)
      obtain ⟨u, hu0, hur⟩ := hcell k LL[k] (by simp [hlt])
      have hu : wr.cell? ⟨b, off + k, none⟩ = some u := (hbw.cell (p := ⟨b, off + k, none⟩) hb).trans hu0
      have HUR := Lib.hid hur
      have hi1 : (k : Int) < (LL.length : Int) := by omega
      have hi0 : (0 : Int) ≤ (k : Int) := by omega
      have HPK := Lib.hid (HP.out _ (List.getElem_mem hlt))
      have hml : M.length ≤ 5 := by
        have h1 := HM.out.len
        have h2 := cursN_len (LL.take k) 0
        rw [List.length_take] at h2
        unfold cursL at h1
        omega
      have H1 := fun hn => Lib.hid (curs_none hlt hn)
      have H2 := fun x l hn => Lib.hid (curs_some (x := x) (l := l) hlt hn)
      obtain ⟨uA, uc, hue, -⟩ := hur
      clear hcell hu0
      generalize LL[k] = L at *
      cases L with
      | nil =>
        have hue0 : u = .slice uA 0 uc := hue
        subst hue0
        have HN : Hid (CurOk w M (cursL (LL.take (k + 1)))) := by show CurOk _ _ _; rw [(H1 rfl).out]; exact HM.out
        go_wp2_with fail
        exact ⟨⟨k + 1, M, by omega, by go_num, HN, hrow, hbw⟩, by simp [intOf]; omega⟩
      | cons x l =>
        have hul : (0 : Int) < ((x :: l).length : Int) := by simp
        have hul2 : 0 < (x :: l).length := by simp
        have HN : Hid (CurOk w (M ++ [(k + 1, u)]) (cursL (LL.take (k + 1)))) := by show CurOk _ _ _; rw [(H2 x l rfl).out]; exact HM.out.snoc HUR.out HPK.out
        generalize hlu : (x :: l).length = lu at *
        have HLU := Lib.hid hlu
        clear hlu H1 H2
        subst hue
        have hsz1 := hbw.size
        have hkk : ((k + 1 : Nat) : Int) = (k : Int) + 1 := by omega
        have hnw := csU_new wr (k + 1) uA lu uc 171
        simp only [hkk] at hnw
        have d2 : decide (0 < lu) = true := decide_eq_true hul2
        have ho1 := hrow.2
        go_wp2_with (first
          | (at_builtin; refine wpList_append_own _ rfl _ _ 167 rfl w.heap.size 171 i0 (.agg #[.int .i64 0, .slice none 0 0]) 2 32 Tryz.underlying167 hi hI0 hI1 hI2 rfl (by decide) _ _ _ rfl (ho1.alloc _) ⟨wr.heap.size, 0, none⟩ 1 1 (csU (k + 1, .slice uA lu uc)) rfl rfl hnw (csU_one _ _ _ _) (by unfold maxLen; omega) (by omega) (by simp; omega) ?_; intro v' w9 hown' hgrow9 hnil9))
        exact ⟨⟨k + 1, _, by omega, by go_num, HN, rowU_snoc hown', (hbw.alloc hbw.size _).grown hgrow9 (hbw.alloc hbw.size _).size (fun j hj => (ho1.lt j hj).1)⟩, by simp [intOf]; omega⟩
    · have HF : Hid (CurOk w M (cursL LL)) := by have := HM.out; rw [List.take_of_length_le (by omega)] at this; exact this
      go_wp2
      go_ret
      exact ⟨_, M, rfl, hbw, hrow, HF.out⟩

/-- 'copy' of elements of k cells. -/
theorem run_copy_k {P : Program} (w : World) (k : Nat) (dT sT ty elem : TypeId) (b o dLen dCap : Nat) (a : Addr) (sLen sCap : Nat) (cs : List Value)
    (hu : P.underlying dT = some (.slice elem)) (hs : (P.info? elem).map (·.size) = some k) (hn : cs.length = Nat.min sLen dLen * k)
    (hsrc : ∀ j v, cs[j]? = some v → w.cell? (a.add j) = some v) (hc : ∀ j, j < cs.length → (w.cell? ⟨b, o + j, none⟩).isSome = true) (hf : ∀ j, j < cs.length → w.frozen? ⟨b, o + j, none⟩ = false) (h1 : ∀ v ∈ cs, v.oneCell' = true) :
    (Builtin.copy_ #[dT, sT] ty #[.slice (some ⟨b, o, none⟩) dLen dCap, .slice (some a) sLen sCap]).run P w = .ok (goInt (Nat.min sLen dLen)) (w.setCells b o cs) := by
  have hl := run_loadCells_list (P := P) w a cs hsrc
  have hst := run_storeCells_cells (P := P) b o cs 0 w (by simpa using hc) (by simpa using hf) h1
  cases hq : P.info? elem with
  | none => simp [hq] at hs
  | some i =>
    have hi : i.size = k := by simpa [hq] using hs
    simp [Builtin.copy_, run_underlying hu, Builtin.lenOf, Builtin.firstCells, sizeOf, typeInfo, hq, hi, ← hn, hl, hst]
theorem run_copy_k0 {P : Program} (w : World) (k : Nat) (dT sT ty elem : TypeId) (d a : Option Addr) (dLen dCap sLen sCap : Nat) (hu : P.underlying dT = some (.slice elem)) (hs : (P.info? elem).map (·.size) = some k) (hn : Nat.min sLen dLen = 0) :
    (Builtin.copy_ #[dT, sT] ty #[.slice d dLen dCap, .slice a sLen sCap]).run P w = .ok (goInt 0) w := by
  cases hq : P.info? elem with
  | none => simp [hq] at hs
  | some i =>
    have hl : ∀ (x : Addr), (loadCells x 0).run P w = .ok #[] w := fun x => by simpa using run_loadCells_list (P := P) w x [] (by simp)
    cases d <;> cases a <;> simp [Builtin.copy_, run_underlying hu, Builtin.lenOf, Builtin.firstCells, sizeOf, typeInfo, hq, hn, storeCells, hl]
def setFrom {α : Type} : List α → Nat → List α → List α
  | xs, _, [] => xs
  | xs, o, v :: r => setFrom (xs.set o v) (o + 1) r
theorem setFrom_get {α : Type} : ∀ (vs xs : List α) (o j : Nat), o + vs.length ≤ xs.length → (setFrom xs o vs)[j]? = if o ≤ j ∧ j < o + vs.length then vs[j - o]? else xs[j]?
  | [], xs, o, j, _ => by
    rw [if_neg (by simp)]
    rfl
  | v :: r, xs, o, j, h => by
    rw [setFrom, setFrom_get r _ (o + 1) j (by simp at h ⊢; omega)]
    simp only [List.length_cons] at h ⊢
    rcases Nat.lt_trichotomy j o with hj | hj | hj
    · rw [if_neg (by omega), if_neg (by omega), List.getElem?_set_ne (by omega)]
    · subst hj
      rw [if_neg (by omega), if_pos (by omega), List.getElem?_set_self (by omega), Nat.sub_self]
      rfl
    · by_cases h2 : j < o + (r.length + 1)
      · rw [if_pos (by omega), if_pos (by omega), show j - o = (j - (o + 1)) + 1 by omega, List.getElem?_cons_succ]
      · rw [if_neg (by omega), if_neg (by omega), List.getElem?_set_ne (by omega)]
theorem setFrom_all {α : Type} {xs vs : List α} (h : vs.length = xs.length) : setFrom xs 0 vs = vs := by
  apply List.ext_getElem?
  intro j
  rw [setFrom_get vs xs 0 j (by omega), Nat.zero_add, Nat.sub_zero]
  by_cases hj : j < vs.length
  · rw [if_pos (by omega)]
  · rw [if_neg (by omega), List.getElem?_eq_none (by omega), List.getElem?_eq_none (by omega)]
theorem own_setCells {base : Nat} {T : TypeId} {k g cap n : Nat} : ∀ (vs : List Value) (o : Nat) {w : World} {xs : List Value}, w.ownsRow base T k (.slice (some ⟨g, 0, none⟩) n cap) n xs → (w.setCells g o vs).ownsRow base T k (.slice (some ⟨g, 0, none⟩) n cap) n (setFrom xs o vs) ∧ w.grownBy (w.setCells g o vs) (some g)
  | [], o, w, xs, h => ⟨h, World.grownBy.refl _ _⟩
  | v :: r, o, w, xs, h => by
    obtain ⟨h1, h2⟩ := h.stored o v
    obtain ⟨h3, h4⟩ := own_setCells r (o + 1) h1
    exact ⟨h3, grown_trans h2 h4⟩
end Go.Proofs.YtibekkfbpmloiabGreatDoor.Recs

/- The heap of cursors built up; its first one replaced, taken away; of the program. -/
namespace Go.Proofs.YtibekkfbpmloiabGreatDoor.Recs
set_option maxRecDepth 100000
open Go.RowKit Paths Heap

theorem made_curs (n : Nat) : (madeCells (Value.agg #[.int .i64 0, .slice none 0 0]).cells (n * 2)).toList = flatG csU (List.replicate n (0, .slice none 0 0)) := by
  apply List.ext_getElem?
  intro j
  rw [flatG_get csU_len (by omega)]
  by_cases hj : j < n * 2
  · have h2 : j / 2 < n := by omega
    have e : j % 2 = 0 ∨ j % 2 = 1 := by omega
    rw [List.getElem?_replicate, if_pos h2]
    rcases e with e | e <;> simp [madeCells, hj, Value.cells, csU, e]
  · have h2 : ¬ j / 2 < n := by omega
    rw [List.getElem?_replicate, if_neg h2]
    simp [madeCells, hj]
theorem flatU_one {w0 : World} {M : List (Nat × Value)} {cs : List (Nat × List R)} (h : CurOk w0 M cs) : ∀ u ∈ flatG csU M, u.oneCell' = true := by
  intro u hu
  unfold flatG at hu
  obtain ⟨c, hc, hcu⟩ := List.mem_flatMap.1 hu
  obtain ⟨i, hi, rfl⟩ := List.getElem_of_mem hc
  obtain ⟨_, _, _, _, _, _, A, k, he⟩ := h.get hi
  simp only [csU, he, List.mem_cons, List.not_mem_nil, or_false] at hcu
  rcases hcu with rfl | rfl <;> rfl

set_option maxHeartbeats 3200000 in
theorem heapOf_any (w0 : World) (v : Value) (base : Nat) (M : List (Nat × Value)) (cs : List (Nat × List R)) (w : World) (hW : Below w0.heap.size w0 w) (hrow : RowU w base v M.length M) (hok : CurOk w0 M cs) (hn : M.length ≤ 5) :
    Calls Tryz.prog 153 #[v] w fun e w' => ∃ g N hs, e = .returned (.slice (some ⟨g, 0, none⟩) M.length M.length) ∧ Below w.heap.size w w' ∧ RowU w' w.heap.size (.slice (some ⟨g, 0, none⟩) M.length M.length) M.length N ∧ CurOk w0 N hs ∧ Heap befC 0 hs ∧ hs.Perm cs := by
  obtain ⟨i0, hi, hz0, hz1, hz2⟩ := info_parts cursorInfo
  obtain ⟨w1, hr, hown, hg⟩ := run_make_full (P := Tryz.prog) w w.heap.size 168 171 i0 _ 2 Tryz.underlying168 hi hz0 hz1 .i64 .i64 M.length (by rw [hz2]; omega) (by unfold maxLen; omega) (Nat.le_refl _)
  rw [made_curs] at hown
  have hb1 : Below w.heap.size w w1 := (Below.refl _ _).grown hg (Nat.le_refl _) (fun k hk => by cases hk)
  have hrow1 := hrow.below hb1
  obtain ⟨vA, vcap, rfl⟩ := hrow.form
  have HCP : Hid (∃ w2, (∀ ty, (Builtin.copy_ #[168, 167] ty #[.slice (some ⟨w.heap.size, 0, none⟩) M.length M.length, .slice vA M.length vcap]).run Tryz.prog w1 = .ok (goInt M.length) w2) ∧ RowU w2 w.heap.size (.slice (some ⟨w.heap.size, 0, none⟩) M.length M.length) M.length M ∧ Below w.heap.size w w2) := by
    rcases Nat.eq_zero_or_pos M.length with h0 | h0
    · refine ⟨w1, fun ty => ?_, ?_, hb1⟩
      · have := run_copy_k0 (P := Tryz.prog) w1 2 168 167 ty 171 (some ⟨w.heap.size, 0, none⟩) vA M.length M.length M.length vcap Tryz.underlying168 (by rw [hi]; simp [hz1]) (by rw [h0]; rfl)
        rw [this, h0]
        rfl
      · have : M = [] := List.eq_nil_of_length_eq_zero h0
        subst this
        exact ⟨rfl, hown⟩
    · obtain ⟨g1, c1, e, _, hgl, _, _⟩ := hrow1.atom h0
      cases e
      have hsrc : ∀ j u, (flatG csU M)[j]? = some u → w1.cell? ((⟨g1, 0, none⟩ : Addr).add j) = some u := fun j u hj => by
        have hjl := (List.getElem?_eq_some_iff.1 hj).1
        rw [flatG_len csU_len] at hjl
        have q := hrow1.2.cellAt j hjl
        rw [hj] at q
        rw [Addr.add_lit, Nat.zero_add]
        exact q
      have hlen : (flatG csU M).length = M.length * 2 := flatG_len csU_len M
      have hdl : (flatG csU (List.replicate M.length ((0 : Nat), (Value.slice none 0 0)))).length = M.length * 2 := by rw [flatG_len csU_len, List.length_replicate]
      have hcp := fun ty => run_copy_k (P := Tryz.prog) w1 2 168 167 ty 171 w.heap.size 0 M.length M.length ⟨g1, 0, none⟩ M.length vcap (flatG csU M) Tryz.underlying168 (by rw [hi]; simp [hz1]) (by rw [hlen]; simp) hsrc
        (fun j hj => by
          rw [hlen] at hj
          have q := hown.cellAt j hj
          rw [Nat.zero_add, q, List.getElem?_eq_getElem (by omega)]
          rfl) (fun j _ => hown.frozenAt (0 + j)) (flatU_one hok)
      obtain ⟨h3, h4⟩ := own_setCells (flatG csU M) 0 hown
      rw [setFrom_all (by rw [hlen, hdl])] at h3
      refine ⟨_, fun ty => ?_, ⟨rfl, h3⟩, hb1.grown h4 (hb1.size) (fun k e => by cases e; exact Nat.le_refl _)⟩
      rw [hcp ty]
      simp
  obtain ⟨w2, hcp, hrow2, hb2⟩ := HCP.out
  have HR2 := Lib.hid hrow2
  have HB2 := Lib.hid hb2
  have HOK := Lib.hid hok
  have HW2 := Lib.hid hW
  clear hown hg hrow1 hrow hok HCP hrow2 hb2 hb1 hW
  obtain ⟨n, hnl⟩ : ∃ n, M.length = n := ⟨_, rfl⟩
  have HNL := Lib.hid hnl
  rw [hnl] at hr hcp hn HR2 ⊢
  clear hnl
  go_enter Tryz.func153, Tryz.ntmps153
  go_wp2_with (at_builtin; refine wpList_copy_known _ rfl _ _ 168 167 rfl _ _ rfl rfl (hcp _) ?_)
  go_loopw [4] (fun iv wr => ∃ (k : Nat) (z : Int) (N : List (Nat × Value)) (hs : List (Nat × List R)), k ≤ n / 2 ∧ iv = .int .i64 z ∧ Hid (z = (k : Int) - 1) ∧ Hid (RowU wr w.heap.size (.slice (some ⟨w.heap.size, 0, none⟩) n n) n N ∧ CurOk w0 N hs) ∧ Hid (Heap befC k hs ∧ hs.Perm cs) ∧ Hid (Below w.heap.size w wr)) (fun iv _ => (intOf iv + 1).toNat)
  case atStart =>
    refine ⟨n / 2, _, M, cs, Nat.le_refl _, rfl, by show _ = _; omega, ⟨HR2.out, HOK.out⟩, ⟨heap_low befC cs _ ?_, List.Perm.refl _⟩, HB2.out⟩
    have h1 := HOK.out.len
    have h2 := HNL.out
    omega
  case round =>
    obtain ⟨k, z, N, hs, hk, rfl, HZ, HRN, HHE, HB⟩ := hrel
    cases k with
    | zero =>
      have hz : z = -1 := HZ.out
      subst hz
      go_wp2
      go_ret
      exact ⟨_, N, hs, rfl, HB.out, HRN.out.1, HRN.out.2, HHE.out.1, HHE.out.2⟩
    | succ m =>
      have hz : z = (m : Int) := by have := HZ.out; omega
      subst hz
      have hwx : Below w0.heap.size w0 wr := HW2.out.trans (HB.out.mono HW2.out.size)
      have HSK := sink_any w0 w.heap.size w.heap.size n n m N hs wr hwx HRN.out.1 HW2.out.size HRN.out.2 (by omega) (by omega) (.inl (by omega))
      have hsp := sinkL_spec befC befC_asymm befC_neg (heap_next befC HHE.out.1)
      have HSP := Lib.hid hsp
      clear hsp hwx
      have d1 : decide ((0 : Int) ≤ (m : Int)) = true := decide_eq_true (by omega)
      go_wp2_with fail
      refine HSK.mono ?_
      rintro e w3 ⟨⟨rv, rfl⟩, hg3, N3, hr3, ho3⟩
      have HB3 : Hid (Below w.heap.size w w3) := HB.out.grown hg3 HB.out.size (fun k e => by cases e; exact Nat.le_refl _)
      have HR3 := Lib.hid (And.intro hr3 ho3)
      have HH3 : Hid (Heap befC m (sinkL befC hs m) ∧ (sinkL befC hs m).Perm cs) := ⟨HSP.out.1, HSP.out.2.trans HHE.out.2⟩
      clear hr3 ho3 hg3
      go_wp2_with fail
      exact ⟨⟨m, (m : Int) - 1, N3, _, by omega, rfl, rfl, HR3, HH3, HB3⟩, by simp [intOf]⟩

set_option maxHeartbeats 1600000 in
theorem replaceFirst_any (w0 : World) (base g n cap nn : Nat) (u : Value) (x : R) (l : List R) (M : List (Nat × Value)) (cs : List (Nat × List R)) (w : World) (hW : Below w0.heap.size w0 w) (hrow : RowU w base (.slice (some ⟨g, 0, none⟩) n cap) n M) (hbase : w0.heap.size ≤ base) (hok : CurOk w0 M cs) (hn : n ≤ 1000) (hn0 : 0 < n) (hu : RecSl w0 u (x :: l)) (hp : ∀ r ∈ x :: l, pathB r.p.data.toList = true) :
    Calls Tryz.prog 156 #[.slice (some ⟨g, 0, none⟩) n cap, .agg #[.int .i64 (nn : Int), u]] w fun e w' => (∃ v, e = .returned v) ∧ w.grownBy w' (some g) ∧ ∃ M', RowU w' base (.slice (some ⟨g, 0, none⟩) n cap) n M' ∧ CurOk w0 M' (sinkL befC (cs.set 0 (nn, x :: l)) 0) := by
  have hgl := hrow.2.lt g rfl
  have eA : Below w.heap.size w (w.alloc (.cells #[.int .i64 (nn : Int), u] 171)) := (Below.refl _ _).alloc (Nat.le_refl _) _
  have hM0 : 0 < M.length := by rw [hrow.1]; exact hn0
  have hrA := hrow.below eA
  obtain ⟨s1, s2⟩ := RowU.store (nn, u) hrow hM0
  have HOK2 : Hid (CurOk w0 (M.set 0 (nn, u)) (cs.set 0 (nn, x :: l))) := by
    refine ⟨by simp [hok.len], fun i m v hi => ?_⟩
    rcases Nat.eq_zero_or_pos i with rfl | h0
    · rw [List.getElem?_set_self hM0] at hi
      rw [List.getElem?_set_self (by rw [← hok.len]; exact hM0)]
      cases hi
      exact ⟨x, l, rfl, hu, hp⟩
    · rw [List.getElem?_set_ne (by omega)] at hi
      rw [List.getElem?_set_ne (by omega)]
      exact hok.at_ i m v hi
  have r0 := RowG.cell csU_len hrow (i := 0) (c := 0) hM0 (by omega)
  have r1 := RowG.cell csU_len hrow (i := 0) (c := 1) hM0 (by omega)
  simp only [csU, List.getElem?_cons_zero, List.getElem?_cons_succ, Nat.add_zero, Nat.zero_mul, Nat.zero_add] at r0 r1
  simp only [Nat.zero_mul, Nat.zero_add] at s1 s2
  have f0 := RowG.frozen hrow 0
  have f1 := RowG.frozen hrow 1
  have hi1 : (0 : Int) < (n : Int) := by omega
  have hud := hu
  obtain ⟨uA, uc, rfl, -⟩ := hud
  generalize hlu : (x :: l).length = lu at *
  have HLU := Lib.hid hlu
  have hsz : w.heap.size ≤ ((w.setCell ⟨g, 0, none⟩ (.int .i64 (nn : Int))).setCell ⟨g, 1, none⟩ (.slice uA lu uc)).heap.size := s2.size
  have eB : Below ((w.setCell ⟨g, 0, none⟩ (.int .i64 (nn : Int))).setCell ⟨g, 1, none⟩ (.slice uA lu uc)).heap.size ((w.setCell ⟨g, 0, none⟩ (.int .i64 (nn : Int))).setCell ⟨g, 1, none⟩ (.slice uA lu uc)) (((w.setCell ⟨g, 0, none⟩ (.int .i64 (nn : Int))).setCell ⟨g, 1, none⟩ (.slice uA lu uc)).alloc (.cells #[.int .i64 (nn : Int), .slice uA lu uc] 171)) := (Below.refl _ _).alloc (Nat.le_refl _) _
  have hR := RowG.below s1 eB
  have hG := grown_trans s2 (grown_of eB (some g))
  have hWx : Below w0.heap.size w0 (((w.setCell ⟨g, 0, none⟩ (.int .i64 (nn : Int))).setCell ⟨g, 1, none⟩ (.slice uA lu uc)).alloc (.cells #[.int .i64 (nn : Int), .slice uA lu uc] 171)) := hW.grown hG hW.size (fun k e => by cases e; omega)
  have HSK := sink_any w0 base g n cap 0 _ _ _ hWx hR hbase HOK2.out hn (by omega) (.inl hn0)
  have HG := Lib.hid hG
  clear s1 s2 eB hR hG hWx hrA eA hlu
  go_enter Tryz.func156, Tryz.ntmps156
  go_wp2_with fail
  refine HSK.mono ?_
  rintro e w3 ⟨⟨rv, rfl⟩, hg3, N3, hr3, ho3⟩
  have HR3 := Lib.hid (And.intro hr3 ho3)
  have HG3 := Lib.hid (grown_trans HG.out hg3)
  clear hr3 ho3 hg3
  go_wp2_with fail
  go_end0
  exact ⟨⟨_, rfl⟩, HG3.out, N3, HR3.out.1, HR3.out.2⟩

/-- A heap without its first one: the last one in its place, then sunk. -/
def dropFirst (cs : List (Nat × List R)) : List (Nat × List R) := match cs.getLast? with
  | some z => sinkL befC ((cs.set 0 z).take (cs.length - 1)) 0
  | none => []
theorem dropFirst_spec {c : Nat × List R} {tl : List (Nat × List R)} (h : Heap befC 0 (c :: tl)) : Heap befC 0 (dropFirst (c :: tl)) ∧ (dropFirst (c :: tl)).Perm tl := by
  unfold dropFirst
  cases tl with
  | nil =>
    show Heap befC 0 (sinkL befC (([c].set 0 c).take 0) 0) ∧ (sinkL befC (([c].set 0 c).take 0) 0).Perm []
    exact ⟨fun c x y hc hs hx _ => by simp [sinkL, sinkF] at hx, by simp [sinkL, sinkF]⟩
  | cons a t =>
    have hne : a :: t ≠ [] := by simp
    have hl : (c :: a :: t).getLast? = some ((a :: t).getLast hne) := by
      rw [List.getLast?_cons_cons, List.getLast?_eq_some_getLast hne]
    rw [hl]
    have hx := heap_take befC (k := (c :: a :: t).length - 1) (heap_set befC h ((a :: t).getLast hne))
    obtain ⟨h1, h2⟩ := sinkL_spec befC befC_asymm befC_neg hx
    refine ⟨h1, h2.trans ?_⟩
    have e : ((c :: a :: t).set 0 ((a :: t).getLast hne)).take ((c :: a :: t).length - 1) = (a :: t).getLast hne :: (a :: t).dropLast := by
      rw [List.set_cons_zero, show (c :: a :: t).length - 1 = t.length + 1 by simp, List.take_succ_cons, List.dropLast_eq_take]
      simp
    rw [e]
    have := List.dropLast_concat_getLast hne
    conv => rhs; rw [← this]
    exact (List.perm_append_comm (l₁ := [(a :: t).getLast hne]) (l₂ := (a :: t).dropLast))

set_option maxHeartbeats 1600000 in
theorem withoutFirst_any (w0 : World) (base g n cap : Nat) (M : List (Nat × Value)) (cs : List (Nat × List R)) (w : World) (hW : Below w0.heap.size w0 w) (hrow : RowU w base (.slice (some ⟨g, 0, none⟩) (n + 1) cap) (n + 1) M) (hbase : w0.heap.size ≤ base) (hok : CurOk w0 M cs) (hn : n ≤ 999) (hcap : n + 1 ≤ cap) :
    Calls Tryz.prog 157 #[.slice (some ⟨g, 0, none⟩) (n + 1) cap] w fun e w' => e = .returned (.slice (some ⟨g, 0, none⟩) n cap) ∧ w.grownBy w' (some g) ∧ ∃ M', RowU w' base (.slice (some ⟨g, 0, none⟩) n cap) n M' ∧ CurOk w0 M' (dropFirst cs) := by
  have hgl := hrow.2.lt g rfl
  have hMl := hrow.1
  have hM0 : 0 < M.length := by omega
  have hMn : n < M.length := by omega
  obtain ⟨x, l, hz1, hz2, hz3, hz4, A1, c1, hz5⟩ := hok.get hMn
  have r0 := RowG.cell csU_len hrow (i := n) (c := 0) hMn (by omega)
  have r1 := RowG.cell csU_len hrow (i := n) (c := 1) hMn (by omega)
  have p0 := RowG.cell csU_len hrow (i := 0) (c := 0) hM0 (by omega)
  have p1 := RowG.cell csU_len hrow (i := 0) (c := 1) hM0 (by omega)
  simp only [csU, List.getElem?_cons_zero, List.getElem?_cons_succ, Nat.add_zero, Nat.zero_mul, Nat.zero_add] at r0 r1 p0 p1
  have f0 := RowG.frozen hrow 0
  have f1 := RowG.frozen hrow 1
  obtain ⟨s1, s2⟩ := RowU.store M[n] hrow hM0
  simp only [Nat.zero_mul, Nat.zero_add] at s1 s2
  have hcl : cs.length = n + 1 := by rw [← hok.len]; exact hMl
  have hcz : cs.getLast? = some (M[n].1, x :: l) := by
    rw [List.getLast?_eq_getElem?, hcl]
    exact hz2
  have HDF : Hid (dropFirst cs = sinkL befC ((cs.set 0 (M[n].1, x :: l)).take n) 0) := by
    show _ = _
    unfold dropFirst
    rw [hcz, hcl]
    rfl
  have HOK2 : Hid (CurOk w0 ((M.set 0 M[n]).take n) ((cs.set 0 (M[n].1, x :: l)).take n)) := by
    refine ⟨by simp [hok.len], fun i m v hi => ?_⟩
    have hin : i < n := by
      have := (List.getElem?_eq_some_iff.1 hi).1
      rw [List.length_take] at this
      omega
    rw [List.getElem?_take_of_lt hin] at hi ⊢
    rcases Nat.eq_zero_or_pos i with rfl | h0
    · rw [List.getElem?_set_self hM0] at hi
      rw [List.getElem?_set_self (by omega)]
      have := hok.at_ n m v (by rw [List.getElem?_eq_getElem hMn]; exact hi)
      rw [hz2] at this
      exact this
    · rw [List.getElem?_set_ne (by omega)] at hi
      rw [List.getElem?_set_ne (by omega)]
      exact hok.at_ i m v hi
  have hR := RowG.front csU_len s1 (m := n) (by omega)
  have HW : Hid (Below w0.heap.size w0 ((w.setCell ⟨g, 0, none⟩ (.int .i64 (M[n].1 : Int))).setCell ⟨g, 1, none⟩ M[n].2)) := hW.grown s2 hW.size (fun k e => by cases e; omega)
  have HSK := sink_any w0 base g n cap 0 _ _ _ HW.out hR hbase HOK2.out (by omega) (by omega) (by omega)
  rw [← HDF.out] at HSK
  have HG := Lib.hid s2
  have hi1 : (n : Int) < ((n : Int) + 1) := by omega
  have hi0 : (0 : Int) ≤ (n : Int) := by omega
  have hi2 : (n : Int) ≤ (cap : Int) := by omega
  have hi3 : (0 : Int) < ((n : Int) + 1) := by omega
  have hnn : ((n + 1 : Nat) : Int) - 1 = (n : Int) := by omega
  generalize M[0] = Y at p0 p1
  clear s1 s2 hR hz1 hz2 hz3 hcz hMl hcl hM0 hrow hok HW HOK2 HDF
  generalize M[n] = X at *
  obtain ⟨xn, xu⟩ := X
  dsimp only at hz5 r0 r1 HSK HG
  subst hz5
  go_enter Tryz.func157, Tryz.ntmps157
  go_wp2_with fail
  refine HSK.mono ?_
  rintro e w3 ⟨⟨rv, rfl⟩, hg3, N3, hr3, ho3⟩
  have HR3 := Lib.hid (And.intro hr3 ho3)
  have HG3 := Lib.hid (grown_trans HG.out hg3)
  clear hr3 ho3 hg3
  go_wp2_with fail
  go_ret
  exact ⟨rfl, HG3.out, N3, HR3.out.1, HR3.out.2⟩
end Go.Proofs.YtibekkfbpmloiabGreatDoor.Recs

/- growTree, of the program: the errors, or the tree in memory. Conditions: the table of kinds, the two sentinels. -/
namespace Go.Proofs.YtibekkfbpmloiabGreatDoor.Recs
set_option maxRecDepth 100000
open Go.RowKit Paths Errs

/-- An error that a check hands back: none, the sentinel of long arguments, the one of invalid ones. -/
inductive EN where
  | fine
  | long
  | inv
def EN.val (x y : Addr) : EN → Value
  | .fine => .nilIface
  | .long => errV x
  | .inv => errV y
end Go.Proofs.YtibekkfbpmloiabGreatDoor.Recs
