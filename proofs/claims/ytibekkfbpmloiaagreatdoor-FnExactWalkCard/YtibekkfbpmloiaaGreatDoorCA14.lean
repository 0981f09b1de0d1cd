/- Parts of several texts of mine in one file (each begins with its own remark). -/
import Derived.Test.YtibekkfbpmloiaaGreatDoorCA1
import Derived.Test.YtibekkfbpmloiaaGreatDoorCA10
import Derived.Test.YtibekkfbpmloiaaGreatDoorCA11
import Derived.Test.YtibekkfbpmloiaaGreatDoorCA12
import Derived.Test.YtibekkfbpmloiaaGreatDoorCA2
import Derived.Test.YtibekkfbpmloiaaGreatDoorCA3
import Derived.Test.YtibekkfbpmloiaaGreatDoorCA4
import Derived.Test.YtibekkfbpmloiaaGreatDoorCA5
import Derived.Test.YtibekkfbpmloiaaGreatDoorCA6
import Derived.Test.YtibekkfbpmloiaaGreatDoorCA8
import Derived.Test.YtibekkfbpmloiaaGreatDoorChecked
import Derived.Test.YtibekkfbpmloiaaGreatDoorShelf
import Derived.Test.YtibekkfbpmloiaaGreatDoorProg
import Derived.Test.YtibekkfbpmloiaaGreatDoorRows
import Derived.StillTailTactics
import Derived.Laws.OwnMore
import Derived.BigQuiet
import Derived.BigRegion
import Derived.Deep.QuietTactic
import Derived.Deep.RegionHeld3
import Derived.Deep.Slices
import Derived.OpenShut
import Derived.ShutString
import Derived.ChangeArms
import Derived.WideShapes
import Derived.Lib.LaidTab
import Derived.Deep.Draws
import Derived.Deep.LoopGhost
import Derived.WalkKit
import Derived.WalkSpells
import Derived.WalkSmall
import Derived.Lib.OthersKept
import Derived.Lib.Hide
import Derived.Lib.Strings
import Derived.Lib.Join
import Derived.Laws.BytesArg
import Derived.Stop.LaidErr
import Derived.WalkLawsBesides
import Derived.LaidEql
import Derived.Stop.Asserts
import Derived.Below
import Derived.Stop.LaidTwo
import Derived.ChangeVars
import Derived.Deep.DeepHandedRow
import Derived.Deep.RegionWith
import Derived.OneCell
import Derived.Lib.SliceRun
import Derived.Lib.Overlaps
import Derived.Lib.AppendZerosOnto
import Derived.Laws.NewBlocks
import Derived.Laws.IdiomCopy
import Derived.Deep.RegionLaw
/- For laws over lists of records: the laws' own sizes with their sums; blocks between two numbers; two equal rows of strings. -/
namespace Go.Proofs.YtibekkfbpmloiaaGreatDoor.Recs
set_option maxRecDepth 100000
open Go.RowKit Paths

theorem szRecord_sum (k m : Int) (p b : ByteArray) (o : Bool) (n : Nat) (w : World) (hp : p.size ≤ maxLen) (hb : b.size ≤ maxLen) (hn : n ≤ 1048576) :
    Calls Tryz.prog 44 #[.agg #[.int .i64 k, .string p, .string b, .int .i64 m, .bool o], .int .i64 n] w fun e w' => (∃ z : Int, z < 0 ∧ e = .returned (.int .i64 z) ∧ Below w.heap.size w w') ∨ ∃ z : Nat, z ≤ n ∧ e = .returned (.int .i64 z) ∧ Below w.heap.size w w' := by
  unfold maxLen at hp hb
  have hbw : Below w.heap.size w (w.alloc (.cells #[.int .i64 k, .string p, .string b, .int .i64 m, .bool o] 72)) := (Below.refl _ _).alloc (Nat.le_refl _) _
  by_cases h1 : n < p.size
  · have hd : decide ((n : Int) - (p.size : Int) < 0) = true := by simp; omega
    go_enter Tryz.func44, Tryz.ntmps44
    go_wp2_with fail
    go_ret
    exact .inl ⟨_, by omega, rfl, hbw⟩
  have hd : decide ((n : Int) - (p.size : Int) < 0) = false := by simp; omega
  by_cases h2 : n < p.size + b.size
  · have hd2 : decide ((n : Int) - (p.size : Int) - (b.size : Int) < 0) = true := by simp; omega
    go_enter Tryz.func44, Tryz.ntmps44
    go_wp2_with fail
    go_ret
    exact .inl ⟨_, by omega, rfl, hbw⟩
  have hd2 : decide ((n : Int) - (p.size : Int) - (b.size : Int) < 0) = false := by simp; omega
  have he : ((n - p.size - b.size : Nat) : Int) = (n : Int) - (p.size : Int) - (b.size : Int) := by omega
  have HE := Lib.hid he
  clear he
  go_enter Tryz.func44, Tryz.ntmps44
  go_wp2_with fail
  go_ret
  exact .inr ⟨n - p.size - b.size, by omega, ret_int HE.out.symm, hbw⟩

set_option maxHeartbeats 800000 in
theorem szRecordS_sum (v : Value) (l : List R) (n : Nat) (w : World) (h : RecSl w v l) (hlm : l.length ≤ maxLen) (hs : ∀ r ∈ l, r.p.size ≤ maxLen ∧ r.b.size ≤ maxLen) (hn : n ≤ 1048576) :
    Calls Tryz.prog 29 #[v, .int .i64 n] w fun e w' => (∃ z : Int, z < 0 ∧ e = .returned (.int .i64 z) ∧ Below w.heap.size w w') ∨ ∃ z : Nat, z + l.length ≤ n ∧ e = .returned (.int .i64 z) ∧ Below w.heap.size w w' := by
  unfold maxLen at hlm
  obtain ⟨A, cap, rfl, hcap, h⟩ := h
  have H := Lib.hid h
  clear h
  by_cases h1 : n < l.length
  · have hd : decide ((n : Int) - (l.length : Int) < 0) = true := by simp; omega
    go_enter Tryz.func29, Tryz.ntmps29
    go_wp2_with fail
    go_ret
    exact .inl ⟨_, by omega, rfl, Below.refl _ _⟩
  have hd : decide ((n : Int) - (l.length : Int) < 0) = false := by simp; omega
  go_enter Tryz.func29, Tryz.ntmps29
  go_wp2
  go_loopw [1, 5] (fun m i wr => ∃ (j z : Nat), j ≤ l.length ∧ i = .int .i64 j ∧ m = .int .i64 z ∧ z + l.length ≤ n ∧ Below w.heap.size w wr) (fun _ i _ => l.length - (intOf i).toNat)
  case atStart => exact ⟨0, n - l.length, by omega, rfl, by go_num, by omega, Below.refl _ _⟩
  case round =>
    obtain ⟨j, z, hj, rfl, rfl, hz, hbw⟩ := hrel
    by_cases hlt : j < l.length
    · obtain ⟨b, off, rfl, hb, hcell⟩ := H.out (by omega)
      obtain ⟨c0, c1, c2, c3, c4⟩ := (hcell j l[j] (by simp [hlt])).below hbw hb
      obtain ⟨s1, s2⟩ := hs l[j] (List.getElem_mem hlt)
      clear hcell
      have hi1 : (j : Int) < (l.length : Int) := by omega
      have hi0 : (0 : Int) ≤ (j : Int) := by omega
      go_wp2_with fail
      refine (szRecord_sum _ _ _ _ _ z _ s1 s2 (by omega)).mono ?_
      rintro e w1 (⟨z1, hz1, rfl, hb1⟩ | ⟨z1, hz1, rfl, hb1⟩)
      · have hd1 : decide (z1 < 0) = true := by simpa using hz1
        go_wp2_with fail
        go_ret
        exact .inl ⟨_, by omega, rfl, hbw.trans (hb1.mono hbw.size)⟩
      · have hd1 : decide ((z1 : Int) < 0) = false := by simp
        go_wp2_with fail
        go_roundw
        case rel => exact ⟨j + 1, z1, by omega, by go_num, rfl, by omega, hbw.trans (hb1.mono hbw.size)⟩
        case measure => simp [intOf]; omega
    · obtain rfl : j = l.length := by omega
      go_wp2
      go_ret
      exact .inr ⟨z, hz, rfl, hbw⟩

/-- From w to w' nothing has turned but blocks from base on, below top; and new ones came. -/
structure Betw (base top : Nat) (w w' : World) : Prop where
  os : w'.os = w.os
  tape : w'.tape = w.tape
  output : w'.output = w.output
  size : w.heap.size ≤ w'.heap.size
  block : ∀ k, k < w.heap.size → (k < base ∨ top ≤ k) → w'.heap[k]? = w.heap[k]?
theorem Betw.refl (base top : Nat) (w : World) : Betw base top w w := ⟨rfl, rfl, rfl, Nat.le_refl _, fun _ _ _ => rfl⟩
theorem Betw.trans {base top : Nat} {a b c : World} (h : Betw base top a b) (k : Betw base top b c) : Betw base top a c :=
  ⟨k.os.trans h.os, k.tape.trans h.tape, k.output.trans h.output, Nat.le_trans h.size k.size, fun i hi hk => (k.block i (Nat.lt_of_lt_of_le hi h.size) hk).trans (h.block i hi hk)⟩
theorem Betw.below {base top B : Nat} {a w w' : World} (h : Below B a w) (hb : Betw base top w w') (hB : B ≤ base) (hB2 : B ≤ w.heap.size) : Below B a w' :=
  h.trans ⟨hb.os, hb.tape, hb.output, hb.size, fun k hk => hb.block k (by omega) (.inl (by omega))⟩
theorem Betw.own {base top : Nat} {w w' : World} (hb : Betw base top w w') {b : Nat} {e : TypeId} {s : Nat} {v : Value} {n : Nat} {xs : List Value} (h : w.ownsRow b e s v n xs) (hk : ∀ k, v.ownBlock = some k → k < base ∨ top ≤ k) : w'.ownsRow b e s v n xs := by
  obtain ⟨h1, h2⟩ := h
  refine ⟨h1, ?_⟩
  rcases h2 with h2 | ⟨g, cap, cur, rfl, b1, c, d⟩
  · exact .inl h2
  · exact .inr ⟨g, cap, cur, rfl, b1, by rw [hb.block g (Array.getElem?_eq_some_iff.1 c).1 (hk g rfl)]; exact c, d⟩
end Go.Proofs.YtibekkfbpmloiaaGreatDoor.Recs

/- Layers: Canonical and IsCanonical, of the program and of its model. Conditions (of the program's): the table of kinds, the two sentinels. -/
namespace Go.Proofs.YtibekkfbpmloiaaGreatDoor.Recs
set_option maxRecDepth 100000
open Go.RowKit Paths Errs

theorem own_le {w : World} {base base' : Nat} {e : TypeId} {size : Nat} {v : Value} {n : Nat} {xs : List Value} (h : w.ownsRow base e size v n xs) (hb : base' ≤ base) : w.ownsRow base' e size v n xs := by
  obtain ⟨h1, h2⟩ := h
  refine ⟨h1, ?_⟩
  rcases h2 with h2 | ⟨g, cap', cur, a, b, c⟩
  · exact .inl h2
  · exact .inr ⟨g, cap', cur, a, Nat.le_trans hb b, c⟩

end Go.Proofs.YtibekkfbpmloiaaGreatDoor.Recs

/- Slices in memory of their own, of any element that lies in a fixed number of cells. -/
namespace Go.Proofs.YtibekkfbpmloiaaGreatDoor.Recs
set_option maxRecDepth 100000
open Go.RowKit Paths

section
variable {α : Type} {cs : α → List Value} {k : Nat}
def flatG (cs : α → List Value) (l : List α) : List Value := l.flatMap cs
theorem flatG_snoc (l : List α) (a : α) : flatG cs (l ++ [a]) = flatG cs l ++ cs a := by unfold flatG; rw [List.flatMap_append]; simp
theorem flatG_len (hcs : ∀ a, (cs a).length = k) : ∀ l : List α, (flatG cs l).length = l.length * k
  | [] => by simp [flatG]
  | a :: t => by
    have ih := flatG_len hcs t
    have : flatG cs (a :: t) = cs a ++ flatG cs t := by simp [flatG]
    rw [this, List.length_append, hcs, ih, List.length_cons, Nat.succ_mul, Nat.add_comm]
theorem flatG_get (hcs : ∀ a, (cs a).length = k) (hk : 0 < k) : ∀ (l : List α) (j : Nat), (flatG cs l)[j]? = (l[j / k]?).bind fun a => (cs a)[j % k]?
  | [], j => by simp [flatG]
  | a :: t, j => by
    have ih := flatG_get hcs hk t (j - k)
    have hc : flatG cs (a :: t) = cs a ++ flatG cs t := by simp [flatG]
    rw [hc]
    by_cases hj : j < k
    · rw [Nat.div_eq_of_lt hj, Nat.mod_eq_of_lt hj, List.getElem?_append_left (by rw [hcs]; exact hj)]
      rfl
    · rw [Nat.div_eq_sub_div hk (by omega), Nat.mod_eq_sub_mod (by omega), List.getElem?_append_right (by rw [hcs]; omega), hcs, List.getElem?_cons_succ]
      exact ih
theorem div_here {i c : Nat} (hc : c < k) : (i * k + c) / k = i ∧ (i * k + c) % k = c := by
  constructor
  · rw [Nat.add_comm, Nat.add_mul_div_right _ _ (by omega), Nat.div_eq_of_lt hc, Nat.zero_add]
  · rw [Nat.add_comm, Nat.add_mul_mod_self_right, Nat.mod_eq_of_lt hc]
theorem at_here {i c j : Nat} (hc : c < k) : i * k + c = j ↔ i = j / k ∧ c = j % k := by
  constructor
  · rintro rfl
    exact ⟨(div_here hc).1.symm, (div_here hc).2.symm⟩
  · rintro ⟨rfl, rfl⟩
    rw [Nat.mul_comm]
    exact Nat.div_add_mod j k
theorem flatG_field (hcs : ∀ a, (cs a).length = k) {M : List α} {i c : Nat} {a : α} {u : Value} (hi : i < M.length) (hc : c < k) (h : cs a = (cs M[i]).set c u) : flatG cs (M.set i a) = (flatG cs M).set (i * k + c) u := by
  apply List.ext_getElem?
  intro j
  rw [flatG_get hcs (by omega), List.getElem?_set, List.getElem?_set, flatG_len hcs, flatG_get hcs (by omega)]
  have hlt : i * k + c < M.length * k := by
    have := Nat.mul_le_mul_right k (show i + 1 ≤ M.length from hi)
    rw [Nat.succ_mul] at this
    omega
  by_cases hj : i = j / k
  · rw [if_pos hj, if_pos hi]
    simp only [Option.bind_some]
    rw [h, List.getElem?_set]
    by_cases hq : c = j % k
    · rw [if_pos hq, if_pos (by rw [hcs]; omega), if_pos ((at_here hc).2 ⟨hj, hq⟩), if_pos hlt]
    · rw [if_neg hq, if_neg (fun e => hq ((at_here hc).1 e).2), ← hj, List.getElem?_eq_getElem hi]
      rfl
  · rw [if_neg hj, if_neg (fun e => hj ((at_here hc).1 e).1)]

/-- A slice in memory of its own that holds the things M. -/
def RowG (cs : α → List Value) (k : Nat) (T : TypeId) (w : World) (base : Nat) (v : Value) (n : Nat) (M : List α) : Prop := M.length = n ∧ w.ownsRow base T k v n (flatG cs M)
variable {T : TypeId} {w w' : World} {base : Nat} {v : Value} {n : Nat} {M : List α}
theorem RowG.below (h : RowG cs k T w base v n M) (hb : Below w.heap.size w w') : RowG cs k T w' base v n M := ⟨h.1, own_below h.2 hb⟩
theorem RowG.form (h : RowG cs k T w base v n M) : ∃ A cap, v = .slice A n cap := own_form h.2
theorem RowG.nil : RowG cs k T w base (.slice none 0 0) 0 [] := ⟨rfl, World.ownsRow_nil _ _ _ _⟩
theorem RowG.down {base' : Nat} (h : RowG cs k T w base v n M) (hb : base' ≤ base) : RowG cs k T w base' v n M := ⟨h.1, own_le h.2 hb⟩
theorem RowG.cell (hcs : ∀ a, (cs a).length = k) {g cap : Nat} (h : RowG cs k T w base (.slice (some ⟨g, 0, none⟩) n cap) n M) {i c : Nat} (hi : i < M.length) (hc : c < k) : w.cell? ⟨g, i * k + c, none⟩ = (cs M[i])[c]? := by
  have hlt : i * k + c < n * k := by
    have := Nat.mul_le_mul_right k (show i + 1 ≤ M.length from hi)
    rw [Nat.succ_mul, h.1] at this
    omega
  rw [h.2.cellAt (i * k + c) hlt, flatG_get hcs (by omega), (div_here hc).1, (div_here hc).2, List.getElem?_eq_getElem hi]
  rfl
theorem RowG.field (hcs : ∀ a, (cs a).length = k) {g cap : Nat} (h : RowG cs k T w base (.slice (some ⟨g, 0, none⟩) n cap) n M) {i c : Nat} {a : α} {u : Value} (hi : i < M.length) (hc : c < k) (ha : cs a = (cs M[i]).set c u) :
    RowG cs k T (w.setCell ⟨g, i * k + c, none⟩ u) base (.slice (some ⟨g, 0, none⟩) n cap) n (M.set i a) ∧ w.grownBy (w.setCell ⟨g, i * k + c, none⟩ u) (some g) := by
  obtain ⟨h1, h2⟩ := h.2.stored (i * k + c) u
  exact ⟨⟨by rw [List.length_set]; exact h.1, by rw [flatG_field hcs hi hc ha]; exact h1⟩, h2⟩
theorem RowG.frozen {g cap : Nat} (h : RowG cs k T w base (.slice (some ⟨g, 0, none⟩) n cap) n M) (j : Nat) : w.frozen? ⟨g, j, none⟩ = false := h.2.frozenAt j
theorem RowG.kept {row : Option Nat} (h : RowG cs k T w base v n M) (hg : w.grownBy w' row) (hr : v.ownBlock = none ∨ v.ownBlock ≠ row) : RowG cs k T w' base v n M := ⟨h.1, h.2.kept hg hr⟩
end
end Go.Proofs.YtibekkfbpmloiaaGreatDoor.Recs

/- Combining two layers, of the program. -/
namespace Go.Proofs.YtibekkfbpmloiaaGreatDoor.Recs
set_option maxRecDepth 100000
open Go.RowKit Paths Errs

theorem path_max {p : ByteArray} (h : pathB p.data.toList = true) : p.size ≤ maxLen := by
  have := path_short h
  unfold maxLen
  omega
/-- An upper record over a covered one. -/
def placed (y : R) (c : Bool) : R := if y.k = 3 ∧ c = true then { y with o := true } else y
theorem placed_any (y : R) (c : Bool) (w : World) :
    Calls Tryz.prog 80 #[y.val, .bool c] w fun e w' => e = .returned (placed y c).val ∧ Below w.heap.size w w' := by
  obtain ⟨rk, rm, rp, rb, ro⟩ := y
  unfold R.val
  dsimp only
  by_cases h3 : rk = 3
  · have q3 : (rk == 3) = true := by simp [h3]
    cases c with
    | true =>
      have HE : Hid (placed ⟨rk, rm, rp, rb, ro⟩ true = ⟨rk, rm, rp, rb, true⟩) := if_pos ⟨h3, rfl⟩
      clear h3
      go_enter Tryz.func80, Tryz.ntmps80
      go_wp2_with fail
      refine bodyPost_ret (v := .agg #[.int .i64 rk, .string rp, .string rb, .int .i64 rm, .bool true]) (by simp [results, Tryz.results80, go_sem]) rfl ⟨by rw [HE.out], ?_⟩
      repeat (refine Below.setCell ?_ (by simp) _)
      exact ((Below.refl _ _).alloc (Nat.le_refl _) _).alloc (by simp) _
    | false =>
      have HE : Hid (placed ⟨rk, rm, rp, rb, ro⟩ false = ⟨rk, rm, rp, rb, ro⟩) := if_neg (fun h => by cases h.2)
      clear h3
      go_enter Tryz.func80, Tryz.ntmps80
      go_wp2_with fail
      refine bodyPost_ret (v := .agg #[.int .i64 rk, .string rp, .string rb, .int .i64 rm, .bool ro]) (by simp [results, Tryz.results80, go_sem]) rfl ⟨by rw [HE.out], ?_⟩
      repeat (refine Below.setCell ?_ (by simp) _)
      exact ((Below.refl _ _).alloc (Nat.le_refl _) _).alloc (by simp) _
  · have q3 : (rk == 3) = false := by simp [h3]
    have HE : Hid (placed ⟨rk, rm, rp, rb, ro⟩ c = ⟨rk, rm, rp, rb, ro⟩) := if_neg (fun h => h3 h.1)
    clear h3
    go_enter Tryz.func80, Tryz.ntmps80
    go_wp2_with fail
    refine bodyPost_ret (v := .agg #[.int .i64 rk, .string rp, .string rb, .int .i64 rm, .bool ro]) (by simp [results, Tryz.results80, go_sem]) rfl ⟨by rw [HE.out], ?_⟩
    repeat (refine Below.setCell ?_ (by simp) _)
    exact ((Below.refl _ _).alloc (Nat.le_refl _) _).alloc (by simp) _

end Go.Proofs.YtibekkfbpmloiaaGreatDoor.Recs

/- The winner of the records of one path, and these records, of the program. -/
namespace Go.Proofs.YtibekkfbpmloiaaGreatDoor.Recs
set_option maxRecDepth 100000
open Go.RowKit Paths

/-- A record with the number of its layer: its value, its cells. -/
def pv (p : R × Nat) : Value := .agg #[.int .i64 p.1.k, .string p.1.p, .string p.1.b, .int .i64 p.1.m, .bool p.1.o, .int .i64 (p.2 : Int)]
theorem alloc_here (w : World) (o : Obj) : (w.alloc o).heap[w.heap.size]? = some o := by
  show (w.heap.push o)[w.heap.size]? = some o
  exact Array.getElem?_push_size
def csP (p : R × Nat) : List Value := [.int .i64 p.1.k, .string p.1.p, .string p.1.b, .int .i64 p.1.m, .bool p.1.o, .int .i64 (p.2 : Int)]
theorem csP_len (p : R × Nat) : (csP p).length = 6 := rfl
def PCells (w : World) (b off : Nat) (p : R × Nat) : Prop := RecCells w b off p.1 ∧ w.cell? ⟨b, off + 5, none⟩ = some (.int .i64 (p.2 : Int))
theorem PCells.below {w w' : World} {B b off : Nat} {p : R × Nat} (h : PCells w b off p) (hb : Below B w w') (hB : b < B) : PCells w' b off p := ⟨h.1.below hb hB, (hb.cell (p := ⟨b, off + 5, none⟩) hB).trans h.2⟩
def PSl (w : World) (v : Value) (G : List (R × Nat)) : Prop :=
  ∃ A cap, v = .slice A G.length cap ∧ G.length ≤ cap ∧ (0 < G.length → ∃ b off, A = some ⟨b, off, none⟩ ∧ b < w.heap.size ∧ ∀ i p, G[i]? = some p → PCells w b (off + i * 6) p)
theorem PSl.below {w w' : World} {v : Value} {G : List (R × Nat)} (h : PSl w v G) (hb : Below w.heap.size w w') : PSl w' v G := by
  obtain ⟨A, cap, rfl, hc, h⟩ := h
  refine ⟨A, cap, rfl, hc, fun hn => ?_⟩
  obtain ⟨b, off, rfl, hlt, hcell⟩ := h hn
  exact ⟨b, off, rfl, Nat.lt_of_lt_of_le hlt hb.size, fun i p hi => (hcell i p hi).below hb hlt⟩
abbrev RowP (w : World) (base : Nat) (v : Value) (n : Nat) (G : List (R × Nat)) : Prop := RowG csP 6 55 w base v n G
theorem RowP.sl {w : World} {base : Nat} {v : Value} {n : Nat} {G : List (R × Nat)} (h : RowP w base v n G) : PSl w v G := by
  have hh := h
  obtain ⟨rfl, h⟩ := h
  rcases h.2 with ⟨rfl, hn⟩ | ⟨g, cap, cur, rfl, hb, hg, hc, _⟩
  · exact ⟨none, 0, by rw [hn], by omega, fun h => by omega⟩
  · refine ⟨_, cap, rfl, hc, fun _ => ⟨g, 0, rfl, (Array.getElem?_eq_some_iff.1 hg).1, fun i p hi => ?_⟩⟩
    have hlt := (List.getElem?_eq_some_iff.1 hi).1
    have he := (List.getElem?_eq_some_iff.1 hi).2
    have one : ∀ c, c < 6 → w.cell? ⟨g, i * 6 + c, none⟩ = (csP p)[c]? := fun c hc => by
      rw [RowG.cell csP_len hh hlt hc, he]
    rw [Nat.zero_add]
    exact ⟨⟨one 0 (by omega), one 1 (by omega), one 2 (by omega), one 3 (by omega), one 4 (by omega)⟩, one 5 (by omega)⟩
/-- A block that holds one of them. -/
def Pbox (w : World) (B : Nat) (p : R × Nat) : Prop := w.heap[B]? = some (.cells #[.int .i64 p.1.k, .string p.1.p, .string p.1.b, .int .i64 p.1.m, .bool p.1.o, .int .i64 (p.2 : Int)] 55 (0, 0))
theorem Pbox.lt {w : World} {B : Nat} {p : R × Nat} (h : Pbox w B p) : B < w.heap.size := (Array.getElem?_eq_some_iff.1 h).1
theorem Pbox.cells {w : World} {B : Nat} {p : R × Nat} (h : Pbox w B p) : PCells w B 0 p := by
  refine ⟨⟨?_, ?_, ?_, ?_, ?_⟩, ?_⟩ <;> simp [World.cell?, show w.heap[B]? = _ from h]
theorem Pbox.frozen {w : World} {B : Nat} {p : R × Nat} (h : Pbox w B p) (j : Nat) : w.frozen? ⟨B, j, none⟩ = false := by simp [World.frozen?, show w.heap[B]? = _ from h]
theorem Pbox.below {w w' : World} {K B : Nat} {p : R × Nat} (h : Pbox w B p) (hb : Below K w w') (hB : B < K) : Pbox w' B p := (hb.block B hB).trans h
theorem setCell_heap {w : World} {B j : Nat} {u : Value} {cur : Array Value} {T : TypeId} {fz : Nat × Nat} (h : w.heap[B]? = some (.cells cur T fz)) : (w.setCell ⟨B, j, none⟩ u).heap[B]? = some (.cells (cur.setIfInBounds j u) T fz) := by
  have hlt := (Array.getElem?_eq_some_iff.1 h).1
  simp only [World.setCell, Array.getElem?_modify, h]
  simp
theorem Pbox.set {w : World} {B : Nat} {p : R × Nat} (h : Pbox w B p) (r : R) (n : Nat) :
    Pbox ((((((w.setCell ⟨B, 0, none⟩ (.int .i64 r.k)).setCell ⟨B, 1, none⟩ (.string r.p)).setCell ⟨B, 2, none⟩ (.string r.b)).setCell ⟨B, 3, none⟩ (.int .i64 r.m)).setCell ⟨B, 4, none⟩ (.bool r.o)).setCell ⟨B, 5, none⟩ (.int .i64 (n : Int))) B (r, n) := by
  have h1 := setCell_heap (j := 0) (u := .int .i64 r.k) h
  have h2 := setCell_heap (j := 1) (u := .string r.p) h1
  have h3 := setCell_heap (j := 2) (u := .string r.b) h2
  have h4 := setCell_heap (j := 3) (u := .int .i64 r.m) h3
  have h5 := setCell_heap (j := 4) (u := .bool r.o) h4
  have h6 := setCell_heap (j := 5) (u := .int .i64 (n : Int)) h5
  unfold Pbox
  rw [h6]
  rfl
theorem Pbox.other {w : World} {B B' j : Nat} {p : R × Nat} {u : Value} (h : Pbox w B p) (hne : B ≠ B') : Pbox (w.setCell ⟨B', j, none⟩ u) B p := by
  unfold Pbox at h ⊢
  simp only [World.setCell, Array.getElem?_modify, h]
  rw [if_neg (fun e => hne e.symm)]
/-- A block that holds a record. -/
def Rbox (w : World) (B : Nat) (r : R) : Prop := w.heap[B]? = some (.cells #[.int .i64 r.k, .string r.p, .string r.b, .int .i64 r.m, .bool r.o] 53 (0, 0))
theorem Rbox.lt {w : World} {B : Nat} {r : R} (h : Rbox w B r) : B < w.heap.size := (Array.getElem?_eq_some_iff.1 h).1
theorem Rbox.cells {w : World} {B : Nat} {r : R} (h : Rbox w B r) : RecCells w B 0 r := by
  refine ⟨?_, ?_, ?_, ?_, ?_⟩ <;> simp [World.cell?, show w.heap[B]? = _ from h]
theorem Rbox.frozen {w : World} {B : Nat} {r : R} (h : Rbox w B r) (j : Nat) : w.frozen? ⟨B, j, none⟩ = false := by simp [World.frozen?, show w.heap[B]? = _ from h]
theorem Rbox.below {w w' : World} {K B : Nat} {r : R} (h : Rbox w B r) (hb : Below K w w') (hB : B < K) : Rbox w' B r := (hb.block B hB).trans h
theorem Rbox.set {w : World} {B : Nat} {p : R} (h : Rbox w B p) (r : R) :
    Rbox (((((w.setCell ⟨B, 0, none⟩ (.int .i64 r.k)).setCell ⟨B, 1, none⟩ (.string r.p)).setCell ⟨B, 2, none⟩ (.string r.b)).setCell ⟨B, 3, none⟩ (.int .i64 r.m)).setCell ⟨B, 4, none⟩ (.bool r.o)) B r := by
  have h1 := setCell_heap (j := 0) (u := .int .i64 r.k) h
  have h2 := setCell_heap (j := 1) (u := .string r.p) h1
  have h3 := setCell_heap (j := 2) (u := .string r.b) h2
  have h4 := setCell_heap (j := 3) (u := .int .i64 r.m) h3
  have h5 := setCell_heap (j := 4) (u := .bool r.o) h4
  unfold Rbox
  rw [h5]
  rfl
theorem Rbox.other {w : World} {B B' j : Nat} {p : R} {u : Value} (h : Rbox w B p) (hne : B ≠ B') : Rbox (w.setCell ⟨B', j, none⟩ u) B p := by
  unfold Rbox at h ⊢
  simp only [World.setCell, Array.getElem?_modify, h]
  rw [if_neg (fun e => hne e.symm)]
theorem Rbox.facts {w : World} {B : Nat} {r : R} (h : Rbox w B r) : (w.cell? ⟨B, 0, none⟩ = some (.int .i64 r.k) ∧ w.cell? ⟨B, 1, none⟩ = some (.string r.p) ∧ w.cell? ⟨B, 2, none⟩ = some (.string r.b) ∧ w.cell? ⟨B, 3, none⟩ = some (.int .i64 r.m) ∧ w.cell? ⟨B, 4, none⟩ = some (.bool r.o)) ∧
    w.frozen? ⟨B, 0, none⟩ = false ∧ w.frozen? ⟨B, 1, none⟩ = false ∧ w.frozen? ⟨B, 2, none⟩ = false ∧ w.frozen? ⟨B, 3, none⟩ = false ∧ w.frozen? ⟨B, 4, none⟩ = false := by
  obtain ⟨h0, h1, h2, h3, h4⟩ := h.cells
  simp only [Nat.zero_add] at h0 h1 h2 h3 h4
  exact ⟨⟨h0, h1, h2, h3, h4⟩, h.frozen 0, h.frozen 1, h.frozen 2, h.frozen 3, h.frozen 4⟩

/-- The winner of a group. -/
def overP (cut : Nat) (G : List (R × Nat)) : R × Nat := (placed (G.foldl (wst cut) ((zR, 0), false)).1.1 (G.foldl (wst cut) ((zR, 0), false)).2, (G.foldl (wst cut) ((zR, 0), false)).1.2)
theorem overP_win (LL : List (List R)) (q : ByteArray) : overP (cutD LL q) (grp LL q) = winC LL q := win_fold LL q
theorem fold_step {cut : Nat} {G : List (R × Nat)} {k : Nat} (h : k < G.length) (st : (R × Nat) × Bool) : (G.take (k + 1)).foldl (wst cut) st = wst cut ((G.take k).foldl (wst cut) st) G[k] := by
  rw [List.take_succ_eq_append_getElem h, wst_snoc]

set_option maxHeartbeats 3200000 in
theorem winnerOf_any (v : Value) (G : List (R × Nat)) (cut : Nat) (w : World) (h : PSl w v G) (hl : G.length ≤ 1048576) :
    Calls Tryz.prog 60 #[v, .int .i64 (cut : Int)] w fun e w' => e = .returned (pv (overP cut G)) ∧ Below w.heap.size w w' := by
  obtain ⟨A, cap, rfl, hcap, h⟩ := h
  have H := Lib.hid h
  clear h
  go_enter Tryz.func60, Tryz.ntmps60
  go_wp2
  go_loopw [6, 11] (fun cv i wr => ∃ (k : Nat) (p : R × Nat) (c : Bool), k ≤ G.length ∧ i = .int .i64 k ∧ cv = .bool c ∧ Hid ((p, c) = (G.take k).foldl (wst cut) ((zR, 0), false)) ∧ Hid (Pbox wr (w.heap.size + 1) p ∧ Pbox wr w.heap.size (zR, 0)) ∧ Below w.heap.size w wr) (fun _ i _ => G.length - (intOf i).toNat)
  case atStart =>
    refine ⟨0, (zR, 0), false, by omega, rfl, rfl, rfl, ⟨?_, ?_⟩, ((Below.refl _ _).alloc (Nat.le_refl _) _).alloc (by simp) _⟩
    · have := alloc_here (w.alloc (.cells #[.int .i64 0, .string ByteArray.empty, .string ByteArray.empty, .int .i64 0, .bool false, .int .i64 0] 55)) (.cells #[.int .i64 0, .string ByteArray.empty, .string ByteArray.empty, .int .i64 0, .bool false, .int .i64 0] 55)
      rw [World.size_alloc] at this
      exact this
    · exact (Below.heap_alloc _ _ _ (by simp)).trans (alloc_here w _)
  case round =>
    obtain ⟨k, p, c, hk, rfl, rfl, HF, HB, hbw⟩ := hrel
    obtain ⟨⟨k0, k1, k2, k3, k4⟩, k5⟩ := HB.out.1.cells
    have hsz : w.heap.size + 1 < wr.heap.size := HB.out.1.lt
    have hf0 := HB.out.1.frozen 0
    have hf1 := HB.out.1.frozen 1
    have hf2 := HB.out.1.frozen 2
    have hf3 := HB.out.1.frozen 3
    have hf4 := HB.out.1.frozen 4
    have hf5 := HB.out.1.frozen 5
    simp only [Nat.zero_add] at k0 k1 k2 k3 k4 k5
    by_cases hlt : k < G.length
    · obtain ⟨b, off, rfl, hb, hcell⟩ := H.out (by omega)
      obtain ⟨⟨c0, c1, c2, c3, c4⟩, c5⟩ := (hcell k G[k] (by simp [hlt])).below hbw hb
      have HST := Lib.hid (fold_step (cut := cut) hlt ((zR, 0), false))
      have hi1 : (k : Int) < (G.length : Int) := by omega
      have hi0 : (0 : Int) ≤ (k : Int) := by omega
      clear hcell
      have hgk : G[k] = (G[k].1, G[k].2) := rfl
      generalize hG : G[k] = g at *
      obtain ⟨r, n⟩ := g
      dsimp only at c0 c1 c2 c3 c4 c5 HST
      have hA : Below wr.heap.size wr (wr.alloc (.cells #[.int .i64 r.k, .string r.p, .string r.b, .int .i64 r.m, .bool r.o, .int .i64 (n : Int)] 55)) := (Below.refl _ _).alloc (Nat.le_refl _) _
      by_cases hc : cut ≤ n
      · have hd : decide ((cut : Int) ≤ (n : Int)) = true := decide_eq_true (by omega)
        have hd' : decide (cut ≤ n) = true := decide_eq_true hc
        have HN : Hid (((r, n), c || stops r) = (G.take (k + 1)).foldl (wst cut) ((zR, 0), false)) := by
          show _ = _
          rw [HST.out, ← HF.out]
          unfold wst
          rw [if_pos hc]
        cases c with
        | true =>
          have hS := HB.out.1.set r n
          have hZ := HB.out.2
          go_wp2_with fail
          exact ⟨⟨k + 1, (r, n), _, by omega, by go_num, rfl, HN, ⟨(Below.heap_alloc _ _ _ hS.lt).trans hS, (Below.heap_alloc _ _ _ (by simp; omega)).trans (by
            repeat (refine Pbox.other ?_ (by omega))
            exact hZ)⟩, Below.alloc (by
            repeat (refine Below.setCell ?_ (by simp) _)
            exact hbw) (by simp; omega) _⟩, by simp [intOf]; omega⟩
        | false =>
          have HS := stops_any r (wr.alloc (.cells #[.int .i64 r.k, .string r.p, .string r.b, .int .i64 r.m, .bool r.o, .int .i64 (n : Int)] 55))
          unfold R.val at HS
          have HX : Hid (Pbox (wr.alloc (.cells #[.int .i64 r.k, .string r.p, .string r.b, .int .i64 r.m, .bool r.o, .int .i64 (n : Int)] 55)) wr.heap.size (r, n)) := alloc_here _ _
          go_wp2_with fail
          refine HS.mono ?_
          rintro e w1 ⟨rfl, hb1⟩
          have hsA : wr.heap.size < (wr.alloc (.cells #[.int .i64 r.k, .string r.p, .string r.b, .int .i64 r.m, .bool r.o, .int .i64 (n : Int)] 55)).heap.size := by simp
          have HW := Lib.hid ((HB.out.1.below hA hsz).below hb1 (by omega))
          have HZ := Lib.hid ((HB.out.2.below hA (by omega)).below hb1 (by omega))
          obtain ⟨⟨x0, x1, x2, x3, x4⟩, x5⟩ := (HX.out.below hb1 hsA).cells
          simp only [Nat.zero_add] at x0 x1 x2 x3 x4 x5
          obtain ⟨⟨y0, y1, y2, y3, y4⟩, y5⟩ := HW.out.cells
          simp only [Nat.zero_add] at y0 y1 y2 y3 y4 y5
          have g0 := HW.out.frozen 0
          have g1 := HW.out.frozen 1
          have g2 := HW.out.frozen 2
          have g3 := HW.out.frozen 3
          have g4 := HW.out.frozen 4
          have g5 := HW.out.frozen 5
          have d1 := hbw.trans ((hA.trans (hb1.mono hA.size)).mono hbw.size)
          go_wp2_with fail
          exact ⟨⟨k + 1, (r, n), _, by omega, by go_num, rfl, HN, ⟨(HW.out).set r n, (by
            repeat (refine Pbox.other ?_ (by omega))
            exact HZ.out)⟩, (by
            repeat (refine Below.setCell ?_ (by simp) _)
            exact d1)⟩, by simp [intOf]; omega⟩
      · have hd : decide ((cut : Int) ≤ (n : Int)) = false := decide_eq_false (by omega)
        have hd' : decide (cut ≤ n) = false := decide_eq_false hc
        have HN : Hid ((p, c) = (G.take (k + 1)).foldl (wst cut) ((zR, 0), false)) := by
          show _ = _
          rw [HST.out, ← HF.out]
          unfold wst
          rw [if_neg hc]
        go_wp2_with fail
        exact ⟨⟨k + 1, p, c, by omega, by go_num, rfl, HN, ⟨HB.out.1.below hA hsz, HB.out.2.below hA (by omega)⟩, hbw.trans (hA.mono hbw.size)⟩, by simp [intOf]; omega⟩
    · have HP := HF.out
      rw [List.take_of_length_le (by omega)] at HP
      have HQ : Hid (overP cut G = (placed p.1 c, p.2)) := by
        show overP cut G = _
        unfold overP
        rw [← HP]
      obtain ⟨r, n⟩ := p
      dsimp only at k0 k1 k2 k3 k4 k5 HQ
      have HPL := placed_any r c wr
      unfold R.val at HPL
      generalize hP : placed r c = pr at *
      have HBO := HB.out
      go_wp2_with fail
      refine HPL.mono ?_
      rintro e w1 ⟨rfl, hb1⟩
      have HW := Lib.hid (HBO.1.below hb1 hsz)
      have HZ := Lib.hid (HBO.2.below hb1 (by omega))
      obtain ⟨⟨y0, y1, y2, y3, y4⟩, y5⟩ := HW.out.cells
      simp only [Nat.zero_add] at y0 y1 y2 y3 y4 y5
      have g0 := HW.out.frozen 0
      have g1 := HW.out.frozen 1
      have g2 := HW.out.frozen 2
      have g3 := HW.out.frozen 3
      have g4 := HW.out.frozen 4
      have g5 := HW.out.frozen 5
      obtain ⟨⟨z0, z1, z2, z3, z4⟩, z5⟩ := HZ.out.cells
      simp only [Nat.zero_add] at z0 z1 z2 z3 z4 z5
      have f0 := HZ.out.frozen 0
      have f1 := HZ.out.frozen 1
      have f2 := HZ.out.frozen 2
      have f3 := HZ.out.frozen 3
      have f4 := HZ.out.frozen 4
      have f5 := HZ.out.frozen 5
      go_wp2_with fail
      have HFI : Pbox (((((((((((w1.setCell ⟨w.heap.size + 1, 0, none⟩ (.int .i64 pr.k)).setCell ⟨w.heap.size + 1, 1, none⟩ (.string pr.p)).setCell ⟨w.heap.size + 1, 2, none⟩ (.string pr.b)).setCell ⟨w.heap.size + 1, 3, none⟩ (.int .i64 pr.m)).setCell ⟨w.heap.size + 1, 4, none⟩ (.bool pr.o)).setCell ⟨w.heap.size, 0, none⟩ (.int .i64 pr.k)).setCell ⟨w.heap.size, 1, none⟩ (.string pr.p)).setCell ⟨w.heap.size, 2, none⟩ (.string pr.b)).setCell ⟨w.heap.size, 3, none⟩ (.int .i64 pr.m)).setCell ⟨w.heap.size, 4, none⟩ (.bool pr.o)).setCell ⟨w.heap.size, 5, none⟩ (.int .i64 (n : Int))) w.heap.size (pr, n) := Pbox.set (p := (zR, 0)) (by
        repeat (refine Pbox.other ?_ (by omega))
        exact HZ.out) pr n
      have HBE : Below w.heap.size w (((((((((((w1.setCell ⟨w.heap.size + 1, 0, none⟩ (.int .i64 pr.k)).setCell ⟨w.heap.size + 1, 1, none⟩ (.string pr.p)).setCell ⟨w.heap.size + 1, 2, none⟩ (.string pr.b)).setCell ⟨w.heap.size + 1, 3, none⟩ (.int .i64 pr.m)).setCell ⟨w.heap.size + 1, 4, none⟩ (.bool pr.o)).setCell ⟨w.heap.size, 0, none⟩ (.int .i64 pr.k)).setCell ⟨w.heap.size, 1, none⟩ (.string pr.p)).setCell ⟨w.heap.size, 2, none⟩ (.string pr.b)).setCell ⟨w.heap.size, 3, none⟩ (.int .i64 pr.m)).setCell ⟨w.heap.size, 4, none⟩ (.bool pr.o)).setCell ⟨w.heap.size, 5, none⟩ (.int .i64 (n : Int))) := by
        repeat (refine Below.setCell ?_ (by simp) _)
        exact hbw.trans (hb1.mono hbw.size)
      generalize (((((((((((w1.setCell ⟨w.heap.size + 1, 0, none⟩ (.int .i64 pr.k)).setCell ⟨w.heap.size + 1, 1, none⟩ (.string pr.p)).setCell ⟨w.heap.size + 1, 2, none⟩ (.string pr.b)).setCell ⟨w.heap.size + 1, 3, none⟩ (.int .i64 pr.m)).setCell ⟨w.heap.size + 1, 4, none⟩ (.bool pr.o)).setCell ⟨w.heap.size, 0, none⟩ (.int .i64 pr.k)).setCell ⟨w.heap.size, 1, none⟩ (.string pr.p)).setCell ⟨w.heap.size, 2, none⟩ (.string pr.b)).setCell ⟨w.heap.size, 3, none⟩ (.int .i64 pr.m)).setCell ⟨w.heap.size, 4, none⟩ (.bool pr.o)).setCell ⟨w.heap.size, 5, none⟩ (.int .i64 (n : Int))) = WF at *
      obtain ⟨⟨q0, q1, q2, q3, q4⟩, q5⟩ := HFI.cells
      simp only [Nat.zero_add] at q0 q1 q2 q3 q4 q5
      exact bodyPost_ret (v := pv (pr, n)) (by simp [results, Tryz.results60, go_sem, pv, q0, q1, q2, q3, q4, q5]) rfl ⟨by rw [HQ.out], HBE⟩
end Go.Proofs.YtibekkfbpmloiaaGreatDoor.Recs
