/- Parts of several texts of mine in one file (each begins with its own remark). -/
import Derived.Test.YtibekkfbpmloiabGreatDoorHA1
import Derived.Test.YtibekkfbpmloiabGreatDoorHA10
import Derived.Test.YtibekkfbpmloiabGreatDoorHA12
import Derived.Test.YtibekkfbpmloiabGreatDoorHA14
import Derived.Test.YtibekkfbpmloiabGreatDoorHA15
import Derived.Test.YtibekkfbpmloiabGreatDoorHA16
import Derived.Test.YtibekkfbpmloiabGreatDoorHA17
import Derived.Test.YtibekkfbpmloiabGreatDoorHA19
import Derived.Test.YtibekkfbpmloiabGreatDoorHA2
import Derived.Test.YtibekkfbpmloiabGreatDoorHA20
import Derived.Test.YtibekkfbpmloiabGreatDoorHA22
import Derived.Test.YtibekkfbpmloiabGreatDoorHA3
import Derived.Test.YtibekkfbpmloiabGreatDoorHA4
import Derived.Test.YtibekkfbpmloiabGreatDoorHA6
import Derived.Test.YtibekkfbpmloiabGreatDoorHA8
import Derived.Test.YtibekkfbpmloiabGreatDoorChecked
import Derived.Test.YtibekkfbpmloiabGreatDoorShelf
import Derived.Test.YtibekkfbpmloiabGreatDoorProg
import Derived.Test.YtibekkfbpmloiabGreatDoorRows
import Derived.Deep.AppendLies
import Derived.Laws.IdiomCopy
import Derived.BigRegion
import Derived.StillTailTactics
import Derived.Deep.Slices
import Derived.OpenShut
import Derived.ShutString
import Derived.ChangeArms
import Derived.WideShapes
import Derived.Lib.LaidTab
import Derived.BigQuiet
import Derived.Deep.QuietTactic
import Derived.Deep.RegionHeld3
import Derived.Deep.Draws
import Derived.Deep.LoopGhost
import Derived.WalkKit
import Derived.WalkSpells
import Derived.WalkSmall
import Derived.Lib.OthersKept
import Derived.Lib.Hide
import Derived.Lib.Strings
import Derived.Lib.Join
import Derived.Laws.OwnMore
import Derived.Laws.BytesArg
import Derived.Stop.LaidErr
import Derived.WalkLawsBesides
import Derived.LaidEql
import Derived.Stop.Asserts
import Derived.Below
import Derived.Stop.LaidTwo
import Derived.ChangeVars
import Derived.Deep.DeepHandedRow
import Derived.Deep.RegionWith
import Derived.OneCell
import Derived.Lib.SliceRun
import Derived.Lib.Overlaps
import Derived.Lib.AppendZerosOnto
import Derived.Laws.NewBlocks
import Derived.Deep.RegionLaw
import Derived.RangeFuncNested
import Derived.RangeFuncBound
import Derived.RangeFuncCalls
import Derived.RangeFuncLeaves
import Derived.RangeFuncBox
import Derived.Shelf.Abstract
import Derived.Shelf.RegionOpen
import Derived.OwnWalkIn
import Derived.TacticsInMore
import Derived.LoopNIn
import Derived.LoopIn
/- One more record in the groups of records of one path, of the program. -/
namespace Go.Proofs.YtibekkfbpmloiabGreatDoor.Recs
set_option maxRecDepth 100000
open Go.RowKit Paths

/-- Cursors lie as they lay. -/
def KeepC (w w' : World) : Prop := ∀ (k : Nat) (cur : Array Value) (fz : Nat × Nat), w.heap[k]? = some (.cells cur 171 fz) → w'.heap[k]? = some (.cells cur 171 fz)
theorem KeepC.trans {a b c : World} (h : KeepC a b) (k : KeepC b c) : KeepC a c := fun i cur fz hi => k i cur fz (h i cur fz hi)
theorem keepC_below {w w' : World} (h : Below w.heap.size w w') : KeepC w w' := fun k _ _ hk => (h.block k (Array.getElem?_eq_some_iff.1 hk).1).trans hk
theorem keepC_grown {w w' : World} {base n : Nat} {T : TypeId} {size : Nat} {v : Value} {xs : List Value} (hg : w.grownBy w' v.ownBlock) (ho : w.ownsRow base T size v n xs) (hT : T ≠ 171) : KeepC w w' := fun k _ _ hk =>
  (hg.block k (Array.getElem?_eq_some_iff.1 hk).1 (fun e => own_not ho hT hk e.symm)).trans hk
/-- Groups in memory of their own: the row of slices, the rows in it. -/
structure GrpOwn (w : World) (b : Nat) (v : Value) (us : List Value) (Gs : List (List (R × Nat))) : Prop where
  len : us.length = Gs.length
  own : w.ownsRow b 100 1 v Gs.length us
  rows : ∀ (i : Nat) (u : Value) (g : List (R × Nat)), us[i]? = some u → Gs[i]? = some g → RowP w b u g.length g
  apart : ∀ (i k : Nat) (u u' : Value) (c : Nat), us[i]? = some u → us[k]? = some u' → u.ownBlock = some c → u'.ownBlock = some c → i = k
theorem GrpOwn.nil (w : World) (b : Nat) : GrpOwn w b (.slice none 0 0) [] [] := ⟨rfl, World.ownsRow_nil _ _ _ _, fun i u g h => by simp at h, fun i k u u' c h => by simp at h⟩
theorem GrpOwn.below {w w' : World} {b : Nat} {v : Value} {us : List Value} {Gs : List (List (R × Nat))} (h : GrpOwn w b v us Gs) (hb : Below w.heap.size w w') : GrpOwn w' b v us Gs :=
  ⟨h.len, own_below h.own hb, fun i u g hi hg => RowG.below (h.rows i u g hi hg) hb, h.apart⟩
theorem placed_slices {w : World} {b b' : Nat} {u v : Value} {n m : Nat} {xs ys : List Value} (h : w.ownsRow b 103 6 u n xs) (k : w.ownsRow b' 100 1 v m ys) : u.ownBlock = none ∨ u.ownBlock ≠ v.ownBlock := by
  rcases k.2 with ⟨rfl, _⟩ | ⟨g, cap, cur, rfl, _, hg, _⟩
  · cases hu : u.ownBlock with
    | none => exact .inl rfl
    | some c => exact .inr (fun e => by cases e)
  · exact .inr (own_not h (by decide) hg)
theorem slices_placed {w : World} {b b' : Nat} {u v : Value} {n m : Nat} {xs ys : List Value} (h : w.ownsRow b 103 6 u n xs) (k : w.ownsRow b' 100 1 v m ys) : v.ownBlock = none ∨ v.ownBlock ≠ u.ownBlock := by
  rcases placed_slices h k with h1 | h1
  · rw [h1]
    cases v.ownBlock with
    | none => exact .inl rfl
    | some c => exact .inr (fun e => by cases e)
  · exact .inr (fun e => h1 e.symm)
/-- One more group. -/
theorem grp_snoc {w w9 : World} {b : Nat} {v v' x : Value} {us : List Value} {Gs : List (List (R × Nat))} {g : List (R × Nat)} (h : GrpOwn w b v us Gs) (hx : RowP w b x g.length g) (hxa : ∀ (i : Nat) (u : Value) (c : Nat), us[i]? = some u → u.ownBlock = some c → x.ownBlock ≠ some c)
    (hown : w9.ownsRow b 100 1 v' (Gs.length + 1) (us ++ [x])) (hg : w.grownBy w9 v.ownBlock) : GrpOwn w9 b v' (us ++ [x]) (Gs ++ [g]) := by
  have key : ∀ (j : Nat) (y : Value), (us ++ [x])[j]? = some y → (j < us.length ∧ us[j]? = some y) ∨ (j = us.length ∧ y = x) := by
    intro j y hj
    rcases Nat.lt_or_ge j us.length with hlt | hge
    · rw [List.getElem?_append_left hlt] at hj
      exact .inl ⟨hlt, hj⟩
    · rw [List.getElem?_append_right hge] at hj
      have e : j - us.length = 0 := by
        have := (List.getElem?_eq_some_iff.1 hj).1
        simp at this
        omega
      rw [e] at hj
      cases hj
      exact .inr ⟨by omega, rfl⟩
  have hn := h.len
  refine ⟨by simp [hn], by rw [List.length_append]; exact hown, fun i u q hi hq => ?_, fun i k u u' c hi hk hc hc' => ?_⟩
  · rcases key i u hi with ⟨h3, h4⟩ | ⟨h3, rfl⟩
    · rw [List.getElem?_append_left (by omega)] at hq
      have := h.rows i u q h4 hq
      exact RowG.kept this hg (placed_slices this.2 h.own)
    · rw [List.getElem?_append_right (by omega)] at hq
      have e' : i - Gs.length = 0 := by omega
      rw [e'] at hq
      cases hq
      exact RowG.kept hx hg (placed_slices hx.2 h.own)
  · rcases key i u hi with ⟨_, h3⟩ | ⟨h3, rfl⟩
    · rcases key k u' hk with ⟨_, h4⟩ | ⟨_, rfl⟩
      · exact h.apart i k u u' c h3 h4 hc hc'
      · exact absurd hc' (hxa i u c h3 hc)
    · rcases key k u' hk with ⟨_, h4⟩ | ⟨h4, _⟩
      · exact absurd hc (hxa k u' c h4 hc')
      · omega
/-- The last group grown. -/
theorem grp_last {w w9 : World} {b go m cap : Nat} {us : List Value} {Gs : List (List (R × Nat))} {u u' : Value} {g : List (R × Nat)} {p : R × Nat} (h : GrpOwn w b (.slice (some ⟨go, 0, none⟩) (m + 1) cap) us (Gs ++ [g])) (hm : Gs.length = m) (hu : us[m]? = some u)
    (hown : w9.ownsRow b 103 6 u' (g.length + 1) (flatG csP g ++ csP p)) (hg : w.grownBy w9 u.ownBlock) (hat : ∀ c, u'.ownBlock = some c → u.ownBlock = some c ∨ w.heap.size ≤ c) :
    GrpOwn (w9.setCell ⟨go, m, none⟩ u') b (.slice (some ⟨go, 0, none⟩) (m + 1) cap) (us.set m u') (Gs ++ [g ++ [p]]) := by
  have hlen : us.length = m + 1 := by have := h.len; simp at this; omega
  have hgg : (Gs ++ [g])[m]? = some g := by rw [List.getElem?_append_right (by omega), hm, Nat.sub_self]; rfl
  have hru := h.rows m u g hu hgg
  have hgl : (Gs ++ [g]).length = m + 1 := by simp [hm]
  have hown0 := h.own
  rw [hgl] at hown0
  have ho9 := hown0.kept hg (slices_placed hru.2 hown0)
  obtain ⟨hs1, hs2⟩ := ho9.stored m u'
  have hfr : ∀ {x : Value} {n : Nat} {xs : List Value}, w9.ownsRow b 103 6 x n xs → (w9.setCell ⟨go, m, none⟩ u').ownsRow b 103 6 x n xs := fun hx => hx.kept hs2 (placed_slices hx ho9)
  refine ⟨by simp [h.len], ?_, fun i x q hi hq => ?_, fun i k x x' c hi hk hc hc' => ?_⟩
  · have e : (Gs ++ [g ++ [p]]).length = m + 1 := by simp [hm]
    rw [e]
    exact hs1
  · by_cases him : i = m
    · subst him
      rw [List.getElem?_set_self (by omega)] at hi
      rw [List.getElem?_append_right (by omega), hm, Nat.sub_self] at hq
      cases hi
      cases hq
      have h1 := rowP_snoc hown
      exact ⟨rfl, hfr h1.2⟩
    · rw [List.getElem?_set_ne (fun e => him e.symm)] at hi
      have hil : i < m := by have := (List.getElem?_eq_some_iff.1 hi).1; omega
      rw [List.getElem?_append_left (by omega)] at hq
      have h1 := h.rows i x q hi (by rw [List.getElem?_append_left (by omega)]; exact hq)
      refine ⟨rfl, hfr (h1.2.kept hg ?_)⟩
      cases hc : x.ownBlock with
      | none => exact .inl rfl
      | some c => exact .inr (fun e => him (h.apart i m x u c hi hu hc e.symm))
  · have key : ∀ (i : Nat) (x : Value), i ≠ m → us[i]? = some x → x.ownBlock = some c → u'.ownBlock = some c → False := fun i x hne hi hx hu' => by
      rcases hat c hu' with h1 | h1
      · exact hne (h.apart i m x u c hi hu hx h1)
      · have hil : i < m := by have := (List.getElem?_eq_some_iff.1 hi).1; omega
        have hgi : (Gs ++ [g])[i]? = some ((Gs ++ [g])[i]'(by simp; omega)) := List.getElem?_eq_getElem _
        have := ((h.rows i x _ hi hgi).2.lt c hx).2
        omega
    by_cases h1 : i = m
    · by_cases h2 : k = m
      · omega
      · subst h1
        rw [List.getElem?_set_self (by omega)] at hi
        rw [List.getElem?_set_ne (fun e => h2 e.symm)] at hk
        cases hi
        exact (key k x' h2 hk hc' hc).elim
    · rw [List.getElem?_set_ne (fun e => h1 e.symm)] at hi
      by_cases h2 : k = m
      · subst h2
        rw [List.getElem?_set_self (by omega)] at hk
        cases hk
        exact (key i x h1 hi hc hc').elim
      · rw [List.getElem?_set_ne (fun e => h2 e.symm)] at hk
        exact h.apart i k x x' c hi hk hc hc'
theorem ppInfo : (Tryz.prog.info? 100).map (fun i => (i.zero, i.size, i.bytes)) = some (some (.slice none 0 0), 1, 24) := by kernel_rfl
theorem addG_nil (p : R × Nat) : addG [] p = [[p]] := rfl
theorem addG_new {Gs : List (List (R × Nat))} {a p : R × Nat} {t : List (R × Nat)} (h : a.1.p ≠ p.1.p) : addG (Gs ++ [a :: t]) p = Gs ++ [a :: t] ++ [[p]] := by
  unfold addG
  rw [List.getLast?_concat]
  show (if some a.1.p = some p.1.p then _ else _) = _
  rw [if_neg (fun e => h (Option.some.inj e))]
theorem addG_more {Gs : List (List (R × Nat))} {a p : R × Nat} {t : List (R × Nat)} (h : a.1.p = p.1.p) : addG (Gs ++ [a :: t]) p = Gs ++ [a :: t ++ [p]] := by
  unfold addG
  rw [List.getLast?_concat]
  show (if some a.1.p = some p.1.p then _ else _) = _
  rw [if_pos (by rw [h]), List.dropLast_concat]

/-- What lies behind an append of a new group. -/
theorem grp_new {w V : World} {b : Nat} {v : Value} {us : List Value} {Gs : List (List (R × Nat))} (p : R × Nat) (hbV : b ≤ V.heap.size) (hBV : Below b w V) (hKV : KeepC w V) (h : GrpOwn V b v us Gs) :
    ((V.alloc (.cells #[.int .i64 p.1.k, .string p.1.p, .string p.1.b, .int .i64 p.1.m, .bool p.1.o, .int .i64 (p.2 : Int)] 103)).alloc (.cells #[.slice (some ⟨V.heap.size, 0, none⟩) 1 1] 100)).ownsRow b 100 1 v Gs.length us ∧ b ≤ ((V.alloc (.cells #[.int .i64 p.1.k, .string p.1.p, .string p.1.b, .int .i64 p.1.m, .bool p.1.o, .int .i64 (p.2 : Int)] 103)).alloc (.cells #[.slice (some ⟨V.heap.size, 0, none⟩) 1 1] 100)).heap.size ∧
    ∀ v' w9, w9.ownsRow b 100 1 v' (Gs.length + 1) (us ++ [.slice (some ⟨V.heap.size, 0, none⟩) 1 1]) → ((V.alloc (.cells #[.int .i64 p.1.k, .string p.1.p, .string p.1.b, .int .i64 p.1.m, .bool p.1.o, .int .i64 (p.2 : Int)] 103)).alloc (.cells #[.slice (some ⟨V.heap.size, 0, none⟩) 1 1] 100)).grownBy w9 v.ownBlock → GrpOwn w9 b v' (us ++ [.slice (some ⟨V.heap.size, 0, none⟩) 1 1]) (Gs ++ [[p]]) ∧ Below b w w9 ∧ KeepC w w9 := by
  have e1 : Below V.heap.size V (V.alloc (.cells #[.int .i64 p.1.k, .string p.1.p, .string p.1.b, .int .i64 p.1.m, .bool p.1.o, .int .i64 (p.2 : Int)] 103)) := (Below.refl _ _).alloc (Nat.le_refl _) _
  have e2 : Below (V.alloc (.cells #[.int .i64 p.1.k, .string p.1.p, .string p.1.b, .int .i64 p.1.m, .bool p.1.o, .int .i64 (p.2 : Int)] 103)).heap.size (V.alloc (.cells #[.int .i64 p.1.k, .string p.1.p, .string p.1.b, .int .i64 p.1.m, .bool p.1.o, .int .i64 (p.2 : Int)] 103)) ((V.alloc (.cells #[.int .i64 p.1.k, .string p.1.p, .string p.1.b, .int .i64 p.1.m, .bool p.1.o, .int .i64 (p.2 : Int)] 103)).alloc (.cells #[.slice (some ⟨V.heap.size, 0, none⟩) 1 1] 100)) := (Below.refl _ _).alloc (Nat.le_refl _) _
  have e3 := e1.trans (e2.mono e1.size)
  have hx1 : RowP (V.alloc (.cells #[.int .i64 p.1.k, .string p.1.p, .string p.1.b, .int .i64 p.1.m, .bool p.1.o, .int .i64 (p.2 : Int)] 103)) b (.slice (some ⟨V.heap.size, 0, none⟩) 1 1) [p].length [p] := ⟨rfl, by
    have := World.ownsRow_lit (base := b) (e := 103) (size := 6) V #[.int .i64 p.1.k, .string p.1.p, .string p.1.b, .int .i64 p.1.m, .bool p.1.o, .int .i64 (p.2 : Int)] 1 hbV (by unfold maxLen; omega) rfl
    simpa [flatG, csP] using this⟩
  have h3 := h.below e3
  have hx3 := RowG.below hx1 e2
  have hxa : ∀ (i : Nat) (u : Value) (c : Nat), us[i]? = some u → u.ownBlock = some c → (Value.slice (some ⟨V.heap.size, 0, none⟩) 1 1).ownBlock ≠ some c := fun i u c hi hc e => by
    have e' : V.heap.size = c := Option.some.inj e
    have hil : i < us.length := (List.getElem?_eq_some_iff.1 hi).1
    have := ((h.rows i u _ hi (List.getElem?_eq_getElem (by rw [← h.len]; exact hil))).2.lt c hc).2
    omega
  generalize (V.alloc (.cells #[.int .i64 p.1.k, .string p.1.p, .string p.1.b, .int .i64 p.1.m, .bool p.1.o, .int .i64 (p.2 : Int)] 103)).alloc (.cells #[.slice (some ⟨V.heap.size, 0, none⟩) 1 1] 100) = V2 at *
  have hb2 : b ≤ V2.heap.size := Nat.le_trans hbV e3.size
  refine ⟨h3.own, hb2, fun v' w9 hown hg => ⟨grp_snoc h3 hx3 hxa hown hg, ?_, ?_⟩⟩
  · exact (hBV.trans (e3.mono hbV)).grown hg hb2 (fun k e => (h3.own.lt k e).1)
  · exact (hKV.trans (keepC_below e3)).trans (keepC_grown hg h3.own (by decide))
/-- What lies behind an append to the last group. -/
theorem grp_more {w V : World} {b go m cap : Nat} {us : List Value} {Gs : List (List (R × Nat))} {u : Value} {g : List (R × Nat)} (p : R × Nat) (hbV : b ≤ V.heap.size) (hBV : Below b w V) (hKV : KeepC w V) (h : GrpOwn V b (.slice (some ⟨go, 0, none⟩) (m + 1) cap) us (Gs ++ [g])) (hm : Gs.length = m) (hu : us[m]? = some u) :
    (V.alloc (.cells #[.int .i64 p.1.k, .string p.1.p, .string p.1.b, .int .i64 p.1.m, .bool p.1.o, .int .i64 (p.2 : Int)] 103)).ownsRow b 103 6 u g.length (flatG csP g) ∧ b ≤ (V.alloc (.cells #[.int .i64 p.1.k, .string p.1.p, .string p.1.b, .int .i64 p.1.m, .bool p.1.o, .int .i64 (p.2 : Int)] 103)).heap.size ∧
    ∀ g9 cap9 w9, w9.ownsRow b 103 6 (.slice (some ⟨g9, 0, none⟩) (g.length + 1) cap9) (g.length + 1) (flatG csP g ++ csP p) → (V.alloc (.cells #[.int .i64 p.1.k, .string p.1.p, .string p.1.b, .int .i64 p.1.m, .bool p.1.o, .int .i64 (p.2 : Int)] 103)).grownBy w9 u.ownBlock → (u.ownBlock = some g9 ∨ g9 = (V.alloc (.cells #[.int .i64 p.1.k, .string p.1.p, .string p.1.b, .int .i64 p.1.m, .bool p.1.o, .int .i64 (p.2 : Int)] 103)).heap.size) →
      w9.cell? ⟨go, m, none⟩ = some u ∧ w9.frozen? ⟨go, m, none⟩ = false ∧ GrpOwn (w9.setCell ⟨go, m, none⟩ (.slice (some ⟨g9, 0, none⟩) (g.length + 1) cap9)) b (.slice (some ⟨go, 0, none⟩) (m + 1) cap) (us.set m (.slice (some ⟨g9, 0, none⟩) (g.length + 1) cap9)) (Gs ++ [g ++ [p]]) ∧ Below b w (w9.setCell ⟨go, m, none⟩ (.slice (some ⟨g9, 0, none⟩) (g.length + 1) cap9)) ∧ KeepC w (w9.setCell ⟨go, m, none⟩ (.slice (some ⟨g9, 0, none⟩) (g.length + 1) cap9)) := by
  have e1 : Below V.heap.size V (V.alloc (.cells #[.int .i64 p.1.k, .string p.1.p, .string p.1.b, .int .i64 p.1.m, .bool p.1.o, .int .i64 (p.2 : Int)] 103)) := (Below.refl _ _).alloc (Nat.le_refl _) _
  have h1 := h.below e1
  have hgg : (Gs ++ [g])[m]? = some g := by rw [List.getElem?_append_right (by omega), hm, Nat.sub_self]; rfl
  have hru := h1.rows m u g hu hgg
  generalize V.alloc (.cells #[.int .i64 p.1.k, .string p.1.p, .string p.1.b, .int .i64 p.1.m, .bool p.1.o, .int .i64 (p.2 : Int)] 103) = V1 at *
  have hb1 : b ≤ V1.heap.size := Nat.le_trans hbV e1.size
  refine ⟨hru.2, hb1, fun g9 cap9 w9 hown hg hat => ?_⟩
  have hgl : (Gs ++ [g]).length = m + 1 := by simp [hm]
  have hown0 := h1.own
  rw [hgl] at hown0
  have ho9 := hown0.kept hg (slices_placed hru.2 hown0)
  obtain ⟨-, hs2⟩ := ho9.stored m (.slice (some ⟨g9, 0, none⟩) (g.length + 1) cap9)
  refine ⟨?_, ho9.frozenAt m, grp_last h1 hm hu hown hg (fun c hc => ?_), ?_, ?_⟩
  · have := ho9.cellAt m (by omega)
    rw [hu] at this
    exact this
  · have e : g9 = c := Option.some.inj hc
    rcases hat with h2 | h2
    · exact .inl (by rw [h2, e])
    · exact .inr (by omega)
  · have q1 := (hBV.trans (e1.mono hbV)).grown hg hb1 (fun k e => (hru.2.lt k e).1)
    exact q1.grown hs2 (Nat.le_trans hb1 hg.size) (fun k e => by cases e; exact (ho9.lt go rfl).1)
  · exact ((hKV.trans (keepC_below e1)).trans (keepC_grown hg hru.2 (by decide))).trans (keepC_grown (v := .slice (some ⟨go, 0, none⟩) (m + 1) cap) hs2 ho9 (by decide))

set_option maxHeartbeats 3200000 in
theorem addToGroups_any (b : Nat) (v : Value) (us : List Value) (Gs : List (List (R × Nat))) (p : R × Nat) (w : World) (hb : b ≤ w.heap.size) (h : GrpOwn w b v us Gs) (hne : ∀ g ∈ Gs, g ≠ []) (hl : Gs.length ≤ 1000) (hll : ∀ g ∈ Gs, g.length ≤ 1000) :
    Calls Tryz.prog 155 #[v, pv p] w fun e w' => ∃ v' us', e = .returned v' ∧ Below b w w' ∧ KeepC w w' ∧ GrpOwn w' b v' us' (addG Gs p) := by
  obtain ⟨i0, hi, hI0, hI1, hI2⟩ := info_parts placedInfo
  obtain ⟨s0, hs, hS0, hS1, hS2⟩ := info_parts ppInfo
  have eA : Below w.heap.size w (w.alloc (.cells #[.int .i64 p.1.k, .string p.1.p, .string p.1.b, .int .i64 p.1.m, .bool p.1.o, .int .i64 (p.2 : Int)] 103)) := (Below.refl _ _).alloc (Nat.le_refl _) _
  have HPB : Hid (Pbox (w.alloc (.cells #[.int .i64 p.1.k, .string p.1.p, .string p.1.b, .int .i64 p.1.m, .bool p.1.o, .int .i64 (p.2 : Int)] 103)) w.heap.size p) := alloc_here _ _
  have hone := csP_one p
  rcases List.eq_nil_or_concat Gs with hG | ⟨D, g, hG⟩
  · subst hG
    have HE := Lib.hid (addG_nil p)
    have hu0 : us = [] := List.eq_nil_of_length_eq_zero h.len
    subst hu0
    have HGA := Lib.hid (h.below eA)
    have EA := Lib.hid eA
    clear eA
    obtain ⟨vA, vcap, rfl⟩ := own_form h.own
    unfold pv
    go_enter Tryz.func155, Tryz.ntmps155
    go_wp2
    obtain ⟨⟨x0, x1, x2, x3, x4⟩, x5⟩ := HPB.out.cells
    simp only [Nat.zero_add] at x0 x1 x2 x3 x4 x5
    have hsz : w.heap.size < (w.alloc (.cells #[.int .i64 p.1.k, .string p.1.p, .string p.1.b, .int .i64 p.1.m, .bool p.1.o, .int .i64 (p.2 : Int)] 103)).heap.size := HPB.out.lt
    generalize w.alloc (.cells #[.int .i64 p.1.k, .string p.1.p, .string p.1.b, .int .i64 p.1.m, .bool p.1.o, .int .i64 (p.2 : Int)] 103) = W at *
    clear x0 x1 x2 x3 x4 x5 hsz
    go_quiet (fail)
    have hQ := below_drewN (Below.refl W.heap.size W) nq
    have HGV := Lib.hid (HGA.out.below hQ)
    have BV : Hid (Below w.heap.size w (W.drewN nq)) := below_drewN EA.out nq
    have hpb : Pbox (W.drewN nq) w.heap.size p := HPB.out
    obtain ⟨⟨x0, x1, x2, x3, x4⟩, x5⟩ := hpb.cells
    simp only [Nat.zero_add] at x0 x1 x2 x3 x4 x5
    have hsz : w.heap.size < (W.drewN nq).heap.size := hpb.lt
    generalize W.drewN nq = V at *
    obtain ⟨n1, n2, n3⟩ := grp_new (w := w) p (Nat.le_trans hb BV.out.size) (BV.out.mono hb) (keepC_below BV.out) HGV.out
    have HN3 := Lib.hid n3
    clear n3
    go_wp2_with (first
      | (at_builtin; refine wpList_append_own _ rfl _ _ 108 rfl b 100 s0 (.slice none 0 0) 1 24 Tryz.underlying108 hs hS0 hS1 hS2 rfl (by decide) _ _ _ rfl n1 ⟨(V.alloc (.cells #[.int .i64 p.1.k, .string p.1.p, .string p.1.b, .int .i64 p.1.m, .bool p.1.o, .int .i64 (p.2 : Int)] 103)).heap.size, 0, none⟩ 1 1 [.slice (some ⟨V.heap.size, 0, none⟩) 1 1] (by simp [Act.eval]) rfl (cell_one_new _ _ _) (fun q hq => by rw [List.mem_singleton.1 hq]; rfl) (by unfold maxLen; omega) (by omega) n2 ?_; intro v' w9 hown' hgrow9 hnil9))
    obtain ⟨r1, r2, r3⟩ := HN3.out _ _ hown' hgrow9
    go_ret
    exact ⟨_, _, rfl, r2, r3, by rw [HE.out]; exact r1⟩
  · rw [List.concat_eq_append] at hG
    subst hG
    obtain ⟨a, t, rfl⟩ : ∃ a t, g = a :: t := by
      have := hne g (List.mem_append_right _ (List.mem_singleton.2 rfl))
      cases g with
      | nil => exact absurd rfl this
      | cons a t => exact ⟨a, t, rfl⟩
    have hgl16 := hll _ (List.mem_append_right D (List.mem_singleton.2 rfl))
    have hDl : Hid ((D ++ [a :: t]).length = D.length + 1) := by show _ = _; simp
    have HGA := Lib.hid (h.below eA)
    have EA := Lib.hid eA
    have hlen := h.len
    have hown0 := h.own
    rw [hDl.out] at hown0 hlen hl
    have hum : us[D.length]? = some (us[D.length]'(by omega)) := List.getElem?_eq_getElem _
    have hru := h.rows D.length _ (a :: t) hum (by rw [List.getElem?_append_right (Nat.le_refl _), Nat.sub_self]; rfl)
    obtain ⟨go, cap, hve, hgo⟩ : ∃ go cap, v = .slice (some ⟨go, 0, none⟩) (D.length + 1) cap ∧ go < w.heap.size := by
      rcases hown0.2 with ⟨_, h0⟩ | ⟨g, cap, cur, e, _, h2, _⟩
      · omega
      · exact ⟨g, cap, e, (Array.getElem?_eq_some_iff.1 h2).1⟩
    subst hve
    obtain ⟨gu, c, hue, _, hgu, _, _⟩ := RowG.atom hru (by simp)
    have hcu : w.cell? ⟨go, D.length, none⟩ = some (us[D.length]'(by omega)) := by
      have := hown0.cellAt D.length (by omega)
      rw [hum] at this
      exact this
    have hue2 := hue
    rw [hue] at hru hcu
    have hca := RowG.cell csP_len hru (i := 0) (c := 1) (by simp) (by omega)
    simp only [csP, List.getElem?_cons_zero, List.getElem?_cons_succ, Nat.zero_mul, Nat.zero_add] at hca
    rw [hue] at hum
    have HUM := Lib.hid hum
    have hlt : (D ++ [a :: t]).length = D.length + 1 := hDl.out
    have k1 : (w.alloc (.cells #[.int .i64 p.1.k, .string p.1.p, .string p.1.b, .int .i64 p.1.m, .bool p.1.o, .int .i64 (p.2 : Int)] 103)).cell? ⟨go, D.length, none⟩ = some (.slice (some ⟨gu, 0, none⟩) (a :: t).length c) := cell?_alloc_old _ hcu
    have k2 : (w.alloc (.cells #[.int .i64 p.1.k, .string p.1.p, .string p.1.b, .int .i64 p.1.m, .bool p.1.o, .int .i64 (p.2 : Int)] 103)).cell? ⟨gu, 1, none⟩ = some (.string a.1.p) := cell?_alloc_old _ hca
    have hat : (0 : Int) < ((a :: t).length : Int) := by simp
    have hat2 : 0 < (a :: t).length := by simp
    have hi0 : (0 : Int) ≤ (D.length : Int) := by omega
    have hi1 : (D.length : Int) < ((D.length : Int) + 1) := by omega
    have hd0 : decide ((D.length : Int) < 0) = false := decide_eq_false (by omega)
    clear hcu hca hru hown0 hlen hue hue2 hum eA h hne hll hlt
    unfold pv
    go_enter Tryz.func155, Tryz.ntmps155
    go_wp2
    obtain ⟨⟨x0, x1, x2, x3, x4⟩, x5⟩ := HPB.out.cells
    simp only [Nat.zero_add] at x0 x1 x2 x3 x4 x5
    have hsz : w.heap.size < (w.alloc (.cells #[.int .i64 p.1.k, .string p.1.p, .string p.1.b, .int .i64 p.1.m, .bool p.1.o, .int .i64 (p.2 : Int)] 103)).heap.size := HPB.out.lt
    generalize w.alloc (.cells #[.int .i64 p.1.k, .string p.1.p, .string p.1.b, .int .i64 p.1.m, .bool p.1.o, .int .i64 (p.2 : Int)] 103) = W at *
    rcases Bool.eq_false_or_eq_true (a.1.p.toList == p.1.p.toList) with heq | heq
    · have hpe := str_eq_of heq
      have HE := Lib.hid (addG_more (Gs := D) (t := t) hpe)
      clear hpe
      go_quiet (fail)
      have hQ := below_drewN (Below.refl W.heap.size W) nq
      have HGV := Lib.hid ((HGA.out.below hQ).below (Below.refl _ _).drew)
      have BV : Hid (Below w.heap.size w (W.drewN nq).drew) := (below_drewN EA.out nq).drew
      have hpb : Pbox (W.drewN nq) w.heap.size p := HPB.out
      obtain ⟨⟨x0, x1, x2, x3, x4⟩, x5⟩ := hpb.cells
      simp only [Nat.zero_add] at x0 x1 x2 x3 x4 x5
      have hsz : w.heap.size < (W.drewN nq).heap.size := hpb.lt
      have hgoV : go < (W.drewN nq).heap.size := by omega
      have k1 : (W.drewN nq).cell? ⟨go, D.length, none⟩ = some (.slice (some ⟨gu, 0, none⟩) (a :: t).length c) := k1
      generalize W.drewN nq = V at *
      obtain ⟨n1, n2, n3⟩ := grp_more (w := w) p (Nat.le_trans hb BV.out.size) (BV.out.mono hb) (keepC_below BV.out) HGV.out rfl HUM.out
      have HN3 := Lib.hid n3
      have hnw := csP_new V.drew p 103
      have hal : (a :: t).length ≤ 1000 := hgl16
      clear n3 k2
      go_wp2
      go_region_law (first
        | (refine step_append_lies _ (by rfl) (.tmp 35) (.tmp 37) 100 (by rfl) b 103 i0 (.agg #[.int .i64 0, .string ByteArray.empty, .string ByteArray.empty, .int .i64 0, .bool false, .int .i64 0]) 6 64 Tryz.underlying100 hi hI0 hI1 hI2 rfl (by decide) (.slice (some ⟨gu, 0, none⟩) (a :: t).length c) (a :: t).length (flatG csP (a :: t)) (by simp [Act.eval]) n1 ⟨V.drew.heap.size, 0, none⟩ 1 1 (csP p) (by simp [Act.eval]) rfl hnw (csP_one p) (by decide) (by unfold maxLen; omega) (by omega) n2 _ rfl ?_; intro g9 cap9 w9 hown9 hgrow9 hat9 hlt9; obtain ⟨hc9, hf9, r1, r2, r3⟩ := HN3.out _ _ _ hown9 hgrow9 hat9; have HR1 := Lib.hid r1; have HR2 := Lib.hid r2; have HR3 := Lib.hid r3; clear hown9 hgrow9 hat9 r1 r2 r3))
      all_goals (go_wp2; go_ret; exact ⟨_, _, rfl, HR2.out, HR3.out, by rw [HE.out]; exact HR1.out⟩)
    · have hpe : a.1.p ≠ p.1.p := fun e => by rw [e] at heq; simp at heq
      have HE := Lib.hid (addG_new (Gs := D) (t := t) hpe)
      clear hpe
      go_quiet (fail)
      have hQ := below_drewN (Below.refl W.heap.size W) nq
      have HGV := Lib.hid (HGA.out.below hQ)
      have BV : Hid (Below w.heap.size w (W.drewN nq)) := below_drewN EA.out nq
      have hpb : Pbox (W.drewN nq) w.heap.size p := HPB.out
      obtain ⟨⟨x0, x1, x2, x3, x4⟩, x5⟩ := hpb.cells
      simp only [Nat.zero_add] at x0 x1 x2 x3 x4 x5
      have hsz : w.heap.size < (W.drewN nq).heap.size := hpb.lt
      generalize W.drewN nq = V at *
      have hDl2 := hDl.out
      obtain ⟨n1, n2, n3⟩ := grp_new (w := w) p (Nat.le_trans hb BV.out.size) (BV.out.mono hb) (keepC_below BV.out) HGV.out
      rw [hDl2] at n1 n3
      have HN3 := Lib.hid n3
      clear n3 hDl2
      go_wp2_with (first
        | (at_builtin; refine wpList_append_own _ rfl _ _ 108 rfl b 100 s0 (.slice none 0 0) 1 24 Tryz.underlying108 hs hS0 hS1 hS2 rfl (by decide) _ _ _ rfl n1 ⟨(V.alloc (.cells #[.int .i64 p.1.k, .string p.1.p, .string p.1.b, .int .i64 p.1.m, .bool p.1.o, .int .i64 (p.2 : Int)] 103)).heap.size, 0, none⟩ 1 1 [.slice (some ⟨V.heap.size, 0, none⟩) 1 1] (by simp [Act.eval]) rfl (cell_one_new _ _ _) (fun q hq => by rw [List.mem_singleton.1 hq]; rfl) (by unfold maxLen; omega) (by omega) n2 ?_; intro v' w9 hown' hgrow9 hnil9))
      obtain ⟨r1, r2, r3⟩ := HN3.out _ _ hown' hgrow9
      go_ret
      exact ⟨_, _, rfl, r2, r3, by rw [HE.out]; exact r1⟩
end Go.Proofs.YtibekkfbpmloiabGreatDoor.Recs
