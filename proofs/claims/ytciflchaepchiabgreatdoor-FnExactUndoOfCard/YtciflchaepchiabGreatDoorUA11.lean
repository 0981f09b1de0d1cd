/- Parts of several texts of mine in one file (each begins with its own remark). -/
import Derived.Test.YtciflchaepchiabGreatDoorUA1
import Derived.Test.YtciflchaepchiabGreatDoorUA10
import Derived.Test.YtciflchaepchiabGreatDoorUA2
import Derived.Test.YtciflchaepchiabGreatDoorUA3
import Derived.Test.YtciflchaepchiabGreatDoorUA4
import Derived.Test.YtciflchaepchiabGreatDoorUA5
import Derived.Test.YtciflchaepchiabGreatDoorUA6
import Derived.Test.YtciflchaepchiabGreatDoorUA7
import Derived.Test.YtciflchaepchiabGreatDoorUA8
import Derived.Test.YtciflchaepchiabGreatDoorUA9
import Derived.Test.YtciflchaepchiabGreatDoorChecked
import Derived.Test.YtciflchaepchiabGreatDoorShelf
import Derived.Test.YtciflchaepchiabGreatDoorProg
import Derived.Test.YtciflchaepchiabGreatDoorRows
import Derived.Deep.Slices
import Derived.OpenShut
import Derived.ShutString
import Derived.ChangeArms
import Derived.WideShapes
import Derived.Lib.LaidTab
import Derived.BigQuiet
import Derived.Deep.QuietTactic
import Derived.Deep.RegionHeld3
import Derived.StillTailTactics
import Derived.Deep.Draws
import Derived.Deep.LoopGhost
import Derived.WalkKit
import Derived.WalkSpells
import Derived.WalkSmall
import Derived.Lib.OthersKept
import Derived.Lib.Hide
import Derived.Lib.Strings
import Derived.Lib.Join
import Derived.WalkLawsBesides
import Derived.BigRegion
import Derived.RegionTactic
import Derived.Laws.BytesArg
import Derived.Deep.RegionWith
import Derived.Laws.AppendOwnNone
import Derived.Laws.OwnMore
import Derived.Stop.LaidErr
import Derived.LaidEql
import Derived.Stop.Asserts
import Derived.Below
import Derived.Stop.LaidTwo
import Derived.ChangeVars
import Derived.Deep.DeepHandedRow
/- A record put into a layer as the model's draws put it (what is above it is made, what is no directory gives way): a layer stays one. -/
namespace Go.Proofs.YtciflchaepchiabGreatDoor.Recs
open Go.RowKit Paths

/-- Sorted, housed, each record valid: a layer but for its length. -/
structure Lays (l : List R) : Prop where
  sorted : Sorted l
  housed : Housed l
  fault : ∀ r ∈ l, r.fault = 0
theorem Lays.ok {l : List R} (h : Lays l) (hl : l.length ≤ 16) : layerOK l = true := layerOK_of hl h.fault h.sorted h.housed

/-- The record's parent is a directory of the list, or there is none. -/
def homed (l : List R) (q : ByteArray) : Bool := decide (parentL q.data.toList = []) || (recAt l (parO q)).any fun x => decide (x.k = 3)
end Go.Proofs.YtciflchaepchiabGreatDoor.Recs

/- The model's source of choices: what its methods answer, whatever bytes it is made of. -/
namespace Go.Proofs.YtciflchaepchiabGreatDoor.Draw
open Go.RowKit

/-- A slice of bytes that is only read. -/
def Byts (w : World) (B : Nat) (A : Option Addr) (n : Nat) : Prop :=
  n ≤ 1048577 ∧ (0 < n → ∃ b off, A = some ⟨b, off, none⟩ ∧ b < B ∧ ∀ k, k < n → ∃ x : Nat, x ≤ 255 ∧ w.cell? ⟨b, off + k, none⟩ = some (.int .u8 x))
theorem Byts.below {w w' : World} {B : Nat} {A : Option Addr} {n : Nat} (h : Byts w B A n) (hb : Below B w w') : Byts w' B A n := by
  obtain ⟨h1, h⟩ := h
  refine ⟨h1, fun hn => ?_⟩
  obtain ⟨b, off, rfl, hlt, hc⟩ := h hn
  refine ⟨b, off, rfl, hlt, fun k hk => ?_⟩
  obtain ⟨x, hx, hcell⟩ := hc k hk
  exact ⟨x, hx, (hb.cell (p := ⟨b, off + k, none⟩) hlt).trans hcell⟩

/-- A source in block g (from B on nothing is older than it): at most m choices have been made. -/
def Src (w : World) (B g m : Nat) : Prop :=
  B ≤ g ∧ m ≤ 1000000 ∧ ∃ (A : Option Addr) (n cap k s : Nat), Byts w B A n ∧ n ≤ cap ∧ k ≤ m ∧ s < 2147483648 ∧
    w.heap[g]? = some (.cells #[.slice A n cap, .int .i64 k, .int .i64 s] 143 (0, 0))

theorem Src.below {w w' : World} {B g m : Nat} (h : Src w B g m) (hb : Below w.heap.size w w') : Src w' B g m := by
  obtain ⟨h1, h2, A, n, cap, k, s, hB, a, b, c, hg⟩ := h
  have hlt := (Array.getElem?_eq_some_iff.1 hg).1
  exact ⟨h1, h2, A, n, cap, k, s, hB.below (hb.mono (by omega)), a, b, c, by rw [hb.block g hlt]; exact hg⟩
theorem Src.lt {w : World} {B g m : Nat} (h : Src w B g m) : g < w.heap.size := by
  obtain ⟨_, _, _, _, _, _, _, _, _, _, _, hg⟩ := h
  exact (Array.getElem?_eq_some_iff.1 hg).1
theorem Src.more {w : World} {B g m m' : Nat} (h : Src w B g m) (hm : m ≤ m') (h' : m' ≤ 1000000) : Src w B g m' := by
  obtain ⟨h1, h2, A, n, cap, k, s, hB, a, b, c, hg⟩ := h
  exact ⟨h1, h', A, n, cap, k, s, hB, a, by omega, c, hg⟩

/-- What a method of a source leaves: the source has moved on by at most j; of what was there nothing else has turned. -/
def Went (w w' : World) (B g m : Nat) : Prop := Src w' B g m ∧ w.grownBy w' (some g)

theorem Byts.grown {w w' : World} {B g : Nat} {A : Option Addr} {n : Nat} (h : Byts w B A n) (hg : w.grownBy w' (some g)) (hB : B ≤ g) (hlt : g < w.heap.size) : Byts w' B A n := by
  obtain ⟨h1, h⟩ := h
  refine ⟨h1, fun hn => ?_⟩
  obtain ⟨b, off, rfl, hb, hc⟩ := h hn
  refine ⟨b, off, rfl, hb, fun k hk => ?_⟩
  obtain ⟨x, hx, hcell⟩ := hc k hk
  exact ⟨x, hx, (World.cell?_of_block (hg.block b (by omega) (fun e => by have := Option.some.inj e; omega))).trans hcell⟩
theorem Went.drewN {w w' : World} {B g m : Nat} (h : Went w w' B g m) (q : Nat) : Went w (w'.drewN q) B g m :=
  ⟨h.1, ⟨h.2.os, h.2.tape, h.2.output, h.2.size, h.2.block⟩⟩
theorem Went.trans {a b c : World} {B g m m' : Nat} (h : Went a b B g m) (k : Went b c B g m') : Went a c B g m' :=
  ⟨k.1, ⟨k.2.os.trans h.2.os, k.2.tape.trans h.2.tape, k.2.output.trans h.2.output, Nat.le_trans h.2.size k.2.size, fun i hi hne => (k.2.block i (Nat.lt_of_lt_of_le hi h.2.size) hne).trans (h.2.block i hi hne)⟩⟩
theorem Went.refl {w : World} {B g m : Nat} (h : Src w B g m) : Went w w B g m := ⟨h, World.grownBy.refl _ _⟩
theorem Went.below {a b c : World} {B g m : Nat} (h : Went a b B g m) (k : Below b.heap.size b c) : Went a c B g m :=
  h.trans ⟨h.1.below k, ⟨k.os, k.tape, k.output, k.size, fun i hi _ => k.block i hi⟩⟩
theorem Went.more {a b : World} {B g m m' : Nat} (h : Went a b B g m) (hm : m ≤ m') (h' : m' ≤ 1000000) : Went a b B g m' := ⟨h.1.more hm h', h.2⟩
end Go.Proofs.YtciflchaepchiabGreatDoor.Draw

/- The model's source of choices: drawn words, parts and paths. -/
namespace Go.Proofs.YtciflchaepchiabGreatDoor.Draw
open Go.RowKit
open Paths

/-- Some strings in a block of their own. -/
def Lits (w : World) (b : Nat) (L : List (List UInt8)) : Prop := b < w.heap.size ∧ ∀ (k : Nat) p, L[k]? = some p → w.cell? ⟨b, k, none⟩ = some (strV p)
theorem Lits.new (w : World) (L : List (List UInt8)) : Lits (w.alloc (.cells (L.map strV).toArray 9)) w.heap.size L := by
  refine ⟨by simp, fun k p hk => ?_⟩
  rw [cell_of_row _ _ k _ _ _ (heap_alloc_new w _)]
  simp [hk]

end Go.Proofs.YtciflchaepchiabGreatDoor.Draw

/- The model's source of choices: strings that may be no paths; a source out of bytes; drawn paths. -/
namespace Go.Proofs.YtciflchaepchiabGreatDoor.Draw
open Go.RowKit
open Paths

/-- The cells of a slice of bytes. -/
theorem Byts.cells {w : World} {B : Nat} {A : Option Addr} {n : Nat} (h : Byts w B A n) : ∃ news : List Value, news.length = n ∧ (∀ ad, A = some ad → ∀ j u, news[j]? = some u → w.cell? (ad.add j) = some u) ∧ ∀ u ∈ news, ∃ x : Nat, x ≤ 255 ∧ u = .int .u8 x := by
  obtain ⟨_, h⟩ := h
  rcases Nat.eq_zero_or_pos n with rfl | hp
  · exact ⟨[], rfl, fun _ _ j u hu => by simp at hu, fun u hu => by cases hu⟩
  · obtain ⟨b, off, rfl, hb, hc⟩ := h hp
    have hall : ∀ m, m ≤ n → ∃ news : List Value, news.length = m ∧ (∀ j u, news[j]? = some u → w.cell? ⟨b, off + j, none⟩ = some u) ∧ ∀ u ∈ news, ∃ x : Nat, x ≤ 255 ∧ u = .int .u8 x := by
      intro m
      induction m with
      | zero => exact fun _ => ⟨[], rfl, fun j u hu => by simp at hu, fun u hu => by cases hu⟩
      | succ m ih =>
        intro hm
        obtain ⟨news, hl, h1, h2⟩ := ih (by omega)
        obtain ⟨x, hx, hcx⟩ := hc m (by omega)
        refine ⟨news ++ [.int .u8 x], by simp [hl], fun j u hu => ?_, fun u hu => ?_⟩
        · rcases Nat.lt_trichotomy j m with hj | hj | hj
          · rw [List.getElem?_append_left (by omega)] at hu
            exact h1 j u hu
          · subst hj
            rw [List.getElem?_append_right (by omega), hl] at hu
            simp at hu
            subst hu
            exact hcx
          · rw [List.getElem?_eq_none (by simp; omega)] at hu
            cases hu
        · rcases List.mem_append.1 hu with hu | hu
          · exact h2 u hu
          · simp at hu; exact ⟨x, hx, hu⟩
    obtain ⟨news, hl, h1, h2⟩ := hall n (Nat.le_refl _)
    refine ⟨news, hl, fun ad had j u hu => ?_, h2⟩
    cases had
    rw [Addr.add_lit]
    exact h1 j u hu
end Go.Proofs.YtciflchaepchiabGreatDoor.Draw

/- The model's source of choices: drawn records are valid. -/
namespace Go.Proofs.YtciflchaepchiabGreatDoor.Draw
open Go.RowKit
open Paths Recs

theorem Went.cell {a b : World} {B g m : Nat} (h : Went a b B g m) {k o : Nat} (hk : k < a.heap.size) (hne : k ≠ g) : b.cell? ⟨k, o, none⟩ = a.cell? ⟨k, o, none⟩ :=
  World.cell?_of_block (h.2.block k hk (fun e => hne (Option.some.inj e)))
theorem Went.frozen {a b : World} {B g m : Nat} (h : Went a b B g m) {k o : Nat} (hk : k < a.heap.size) (hne : k ≠ g) : b.frozen? ⟨k, o, none⟩ = a.frozen? ⟨k, o, none⟩ :=
  World.frozen?_of_block (h.2.block k hk (fun e => hne (Option.some.inj e)))

end Go.Proofs.YtciflchaepchiabGreatDoor.Draw

/- Differences of trees, plain: the layer between two trees, as the program gathers it and as its model does; what it does. -/
namespace Go.Proofs.YtciflchaepchiabGreatDoor.Recs
set_option maxRecDepth 100000
open Go.RowKit Paths

def whiteR (q : ByteArray) : R := ⟨4, 0, q, ByteArray.empty, false⟩
/-- What a layer says of a path that is to be as in the tree B. -/
def recB (B : List R) (q : ByteArray) : R := match recAt B q with
  | some n => nodeOf n
  | none => whiteR q
theorem recB_some {B : List R} {q : ByteArray} {n : R} (h : recAt B q = some n) : recB B q = nodeOf n := by unfold recB; rw [h]
theorem recB_none {B : List R} {q : ByteArray} (h : recAt B q = none) : recB B q = whiteR q := by unfold recB; rw [h]
theorem recB_p (B : List R) (q : ByteArray) : (recB B q).p = q := by
  cases h : recAt B q with
  | none => rw [recB_none h]; rfl
  | some n => rw [recB_some h]; exact (recAt_mem h).2
/-- The record of a change. -/
def aftR (c : Chg) : R := if c.2.2 = zR then whiteR c.1 else nodeOf c.2.2
theorem path_zero {n : R} (h : pathB n.p.data.toList = true) : n ≠ zR := fun e => by
  rw [e] at h
  exact pathB_ne h rfl
theorem aft_is {A B : List R} (hp : ∀ n ∈ B, pathB n.p.data.toList = true) {c : Chg} (h : Differs A B c) : aftR c = recB B c.1 := by
  have e : c.2.2 = (recAt B c.1).getD zR := congrArg Prod.snd h.2
  unfold aftR
  cases hb : recAt B c.1 with
  | none =>
    rw [hb] at e
    rw [if_pos (show c.2.2 = zR from e), recB_none hb]
  | some n =>
    rw [hb] at e
    rw [if_neg (by rw [e]; exact path_zero (hp n (recAt_mem hb).1)), recB_some hb, e]
    rfl

def addB (B L : List R) (d : ByteArray) : List R := if (recAt L d).isSome then L else L ++ [recB B d]
def upB (B L : List R) (q : ByteArray) : List R := (q :: ups q).foldl (addB B) L
def stepB (B L : List R) (c : Chg) : List R := if homed B c.1 then (ups c.1).reverse.foldl (addB B) L ++ [aftR c] else L
/-- The layer between two trees, as the program gathers it. -/
def betP (A B : List R) : List R := (chgs A B).foldl (stepB B) []

/-- A list of what B has at paths, each path once. -/
structure OfB (B L : List R) : Prop where
  same : ∀ x ∈ L, x = recB B x.p
  once : L.Pairwise fun x y => x.p ≠ y.p
theorem ofB_nil (B : List R) : OfB B [] := ⟨fun x hx => (by cases hx), List.Pairwise.nil⟩
theorem addB_some {B L : List R} {d : ByteArray} {y : R} (h : recAt L d = some y) : addB B L d = L := by unfold addB; rw [h]; rfl
theorem addB_none {B L : List R} {d : ByteArray} (h : recAt L d = none) : addB B L d = L ++ [recB B d] := by unfold addB; rw [h]; rfl
theorem addB_of {B L : List R} (h : OfB B L) (d : ByteArray) : OfB B (addB B L d) ∧ ∀ x, x ∈ addB B L d ↔ x ∈ L ∨ x = recB B d := by
  cases hd : recAt L d with
  | some y =>
    rw [addB_some hd]
    obtain ⟨hy, hp⟩ := recAt_mem hd
    refine ⟨h, fun x => ⟨.inl, fun e => e.elim id fun e => ?_⟩⟩
    rw [e, ← hp, ← h.same y hy]
    exact hy
  | none =>
    rw [addB_none hd]
    refine ⟨⟨fun x hx => ?_, ?_⟩, fun x => by simp⟩
    · rcases List.mem_append.1 hx with hx | hx
      · exact h.same x hx
      · rw [List.mem_singleton.1 hx, recB_p]
    · rw [List.pairwise_append]
      refine ⟨h.once, List.pairwise_singleton _ _, fun x hx y hy => ?_⟩
      rw [List.mem_singleton.1 hy, recB_p]
      exact recAt_none hd x hx
theorem addB_fold {B : List R} : ∀ (ds : List ByteArray) {L : List R}, OfB B L → OfB B (ds.foldl (addB B) L) ∧ ∀ x, x ∈ ds.foldl (addB B) L ↔ x ∈ L ∨ ∃ d ∈ ds, x = recB B d
  | [], L, h => ⟨h, fun x => by simp⟩
  | d :: ds, L, h => by
    obtain ⟨h1, h2⟩ := addB_of h d
    obtain ⟨h3, h4⟩ := addB_fold ds h1
    refine ⟨h3, fun x => ?_⟩
    rw [List.foldl_cons, h4, h2]
    simp only [List.mem_cons, exists_eq_or_imp, or_assoc]
theorem addB_take (B L : List R) (ds : List ByteArray) {k : Nat} (hk : k < ds.length) : (ds.take (k + 1)).foldl (addB B) L = addB B ((ds.take k).foldl (addB B) L) ds[k] := by
  rw [List.take_add_one, List.getElem?_eq_getElem hk, Option.toList_some, List.foldl_append]
  rfl
theorem recAt_end (L : List R) (r : R) {q : ByteArray} (h : r.p ≠ q) : recAt (L ++ [r]) q = recAt L q := by
  rw [recAt_snoc, if_neg h]
  cases recAt L q <;> rfl
theorem addB_new {B : List R} : ∀ (ds : List ByteArray) (L : List R), ds.Pairwise (fun a b => a ≠ b) → ds.foldl (addB B) L = L ++ (ds.filter fun d => (recAt L d).isNone).map (recB B)
  | [], L, _ => by simp
  | d :: ds, L, h => by
    obtain ⟨h1, h2⟩ := List.pairwise_cons.1 h
    rw [List.foldl_cons, addB_new ds _ h2]
    cases hd : recAt L d with
    | some y => rw [addB_some hd, List.filter_cons_of_neg (by simp [hd])]
    | none =>
      rw [addB_none hd, List.filter_cons_of_pos (by simp [hd]), List.append_assoc, List.map_cons]
      have e0 : ds.filter (fun e => (recAt (L ++ [recB B d]) e).isNone) = ds.filter (fun e => (recAt L e).isNone) := List.filter_congr fun e he => by
        rw [recAt_end L _ (by rw [recB_p]; exact h1 e he)]
      rw [e0]
      rfl
theorem ups_order {q : ByteArray} (h : pathB q.data.toList = true) : (ups q).reverse.Pairwise fun a b => lessQ a b = true := by
  have h1 := dirs_sorted h
  unfold Sorted dirsOf at h1
  rw [List.pairwise_map] at h1
  exact h1.imp fun h => h
theorem lessQ_ne {a b : ByteArray} (h : lessQ a b = true) : a ≠ b := fun e => by rw [e] at h; exact lessQ_irr b h

/-- The paths that a list of changes wants in the layer. -/
def Need (B : List R) (cs : List Chg) (q : ByteArray) : Prop := ∃ c ∈ cs, homed B c.1 = true ∧ (q = c.1 ∨ q ∈ ups c.1)
structure InvB (B L : List R) (cs : List Chg) : Prop where
  of : OfB B L
  sorted : Sorted L
  mem : ∀ x, x ∈ L ↔ ∃ q, Need B cs q ∧ x = recB B q
theorem inv_nil (B : List R) : InvB B [] [] := ⟨ofB_nil B, List.Pairwise.nil, fun x => ⟨fun h => (by cases h), fun ⟨q, ⟨c, hc, _⟩, _⟩ => (by cases hc)⟩⟩
theorem less_recB {B : List R} {a b : ByteArray} (h : lessQ a b = true) : lessR (recB B a) (recB B b) = true := by
  show lessQ (recB B a).p (recB B b).p = true
  rw [recB_p, recB_p]
  exact h
theorem need_snoc {B : List R} {cs : List Chg} {c : Chg} {q : ByteArray} : Need B (cs ++ [c]) q ↔ Need B cs q ∨ homed B c.1 = true ∧ (q = c.1 ∨ q ∈ ups c.1) := by
  unfold Need
  constructor
  · rintro ⟨d, hd, h⟩
    rcases List.mem_append.1 hd with hd | hd
    · exact .inl ⟨d, hd, h⟩
    · rw [List.mem_singleton.1 hd] at h; exact .inr h
  · rintro (⟨d, hd, h⟩ | h)
    · exact ⟨d, List.mem_append_left _ hd, h⟩
    · exact ⟨c, by simp, h⟩
theorem inv_step {B L : List R} {cs : List Chg} {c : Chg} (h : InvB B L cs) (hq : ∀ d ∈ cs, pathB d.1.data.toList = true) (hc : pathB c.1.data.toList = true) (hlt : ∀ d ∈ cs, lessQ d.1 c.1 = true) (ha : aftR c = recB B c.1) : InvB B (stepB B L c) (cs ++ [c]) := by
  unfold stepB
  cases hh : homed B c.1 with
  | false =>
    rw [if_neg (by decide)]
    refine ⟨h.of, h.sorted, fun x => (h.mem x).trans ?_⟩
    constructor
    · rintro ⟨q, hn, e⟩
      exact ⟨q, need_snoc.2 (.inl hn), e⟩
    · rintro ⟨q, hn, e⟩
      rcases need_snoc.1 hn with hn | ⟨hn, _⟩
      · exact ⟨q, hn, e⟩
      · rw [hh] at hn; cases hn
  | true =>
    rw [if_pos rfl]
    have hnq : ∀ q, Need B cs q → lessQ q c.1 = true := by
      rintro q ⟨d, hd, _, rfl | hu⟩
      · exact hlt d hd
      · exact lessQ_trans _ _ _ (ups_less (hq d hd) q hu) (hlt d hd)
    have hpq : ∀ q, Need B cs q → pathB q.data.toList = true := by
      rintro q ⟨d, hd, _, rfl | hu⟩
      · exact hq d hd
      · exact ups_path (hq d hd) q hu
    have hord := ups_order hc
    have hne : (ups c.1).reverse.Pairwise (fun a b => a ≠ b) := hord.imp fun h => lessQ_ne h
    obtain ⟨hf1, hf2⟩ := addB_fold (ups c.1).reverse h.of
    have hmem : ∀ x, x ∈ (ups c.1).reverse.foldl (addB B) L ++ [aftR c] ↔ ∃ q, Need B (cs ++ [c]) q ∧ x = recB B q := by
      intro x
      rw [List.mem_append, hf2, List.mem_singleton, ha, h.mem]
      constructor
      · rintro ((⟨q, hn, e⟩ | ⟨d, hd, e⟩) | e)
        · exact ⟨q, need_snoc.2 (.inl hn), e⟩
        · exact ⟨d, need_snoc.2 (.inr ⟨hh, .inr (List.mem_reverse.1 hd)⟩), e⟩
        · exact ⟨_, need_snoc.2 (.inr ⟨hh, .inl rfl⟩), e⟩
      · rintro ⟨q, hn, e⟩
        rcases need_snoc.1 hn with hn | ⟨_, rfl | hu⟩
        · exact .inl (.inl ⟨q, hn, e⟩)
        · exact .inr e
        · exact .inl (.inr ⟨q, List.mem_reverse.2 hu, e⟩)
    have hsort : Sorted ((ups c.1).reverse.foldl (addB B) L ++ [aftR c]) := by
      rw [addB_new _ _ hne, ha]
      unfold Sorted
      rw [List.append_assoc, List.pairwise_append]
      refine ⟨h.sorted, ?_, ?_⟩
      · rw [List.pairwise_append]
        refine ⟨?_, List.pairwise_singleton _ _, fun x hx y hy => ?_⟩
        · rw [List.pairwise_map]
          exact (hord.filter _).imp fun h => less_recB h
        · obtain ⟨d, hd, rfl⟩ := List.mem_map.1 hx
          rw [List.mem_singleton.1 hy]
          exact less_recB (ups_less hc d (List.mem_reverse.1 (List.mem_filter.1 hd).1))
      · intro x hx y hy
        obtain ⟨q, hn, rfl⟩ := (h.mem x).1 hx
        rcases List.mem_append.1 hy with hy | hy
        · obtain ⟨d, hd, rfl⟩ := List.mem_map.1 hy
          obtain ⟨hd1, hd2⟩ := List.mem_filter.1 hd
          have hup := List.mem_reverse.1 hd1
          have hdn : recAt L d = none := by simpa using hd2
          have hno : ¬ Need B cs d := fun hn => recAt_none hdn _ ((h.mem _).2 ⟨d, hn, rfl⟩) (recB_p B d)
          have hqd : q ≠ d := fun e => hno (e ▸ hn)
          refine less_recB ?_
          rcases lessQ_total hqd with hl | hl
          · exact hl
          · exfalso
            obtain ⟨i, hi, rfl⟩ := ups_pre hc hup
            have hb : belowP (cutAt 47 q.data.toList) (cutAt 47 (pre c.1 i).data.toList) = true := by
              refine lessP_between _ _ ((cutAt 47 c.1.data.toList).drop (i + 1)) hl ?_
              rw [pre_cut hc, List.take_append_drop]
              exact hnq q hn
            have hu := (up_below (hpq q hn) _).2 hb
            obtain ⟨e, he, heh, hqe⟩ := hn
            refine hno ⟨e, he, heh, .inr ?_⟩
            rcases hqe with rfl | hqe
            · exact hu
            · exact ups_trans (hq e he) _ q hqe hu
        · rw [List.mem_singleton.1 hy]
          exact less_recB (hnq q hn)
    refine ⟨⟨fun x hx => ?_, ?_⟩, hsort, hmem⟩
    · obtain ⟨q, _, rfl⟩ := (hmem x).1 hx
      rw [recB_p]
    · exact hsort.imp fun h => less_ne h
theorem inv_fold {B : List R} : ∀ (cs pre : List Chg) {L : List R}, InvB B L pre → (∀ d ∈ pre ++ cs, pathB d.1.data.toList = true ∧ aftR d = recB B d.1) → (pre ++ cs).Pairwise (fun c d => lessQ c.1 d.1 = true) → InvB B (cs.foldl (stepB B) L) (pre ++ cs)
  | [], pre, L, h, _, _ => by rw [List.append_nil]; exact h
  | c :: cs, pre, L, h, hp, hs => by
    have e : pre ++ c :: cs = (pre ++ [c]) ++ cs := by simp
    rw [e] at hp hs ⊢
    have hs1 := (List.pairwise_append.1 hs).1
    refine inv_fold cs (pre ++ [c]) (inv_step h (fun d hd => (hp d (by simp [hd])).1) (hp c (by simp)).1 (fun d hd => (List.pairwise_append.1 hs1).2.2 d hd c (by simp)) (hp c (by simp)).2) hp hs
theorem chg_path {A B : List R} (ha : ∀ x ∈ A, pathB x.p.data.toList = true) (hb : ∀ x ∈ B, pathB x.p.data.toList = true) {c : Chg} (h : Differs A B c) : pathB c.1.data.toList = true := by
  rcases differs_path h with ⟨x, hx, e⟩ | ⟨x, hx, e⟩
  · rw [← e]; exact ha x hx
  · rw [← e]; exact hb x hx
theorem bet_inv {A B : List R} (ha : IsTree A) (hb : IsTree B) : InvB B (betP A B) (chgs A B) := by
  have hd := fun c => (chg_mem A B ha.sorted hb.sorted c).1
  exact inv_fold (chgs A B) [] (inv_nil B) (fun c hc => ⟨chg_path ha.path hb.path (hd c hc), aft_is hb.path (hd c hc)⟩) (chg_sorted A B ha.sorted hb.sorted)
/-- The paths that the model gathers: of what is gone, the highest; of what is new or otherwise, all. -/
def needS (A B : List R) : List ByteArray := (A.filter fun m => (recAt B m.p).isNone && homed B m.p).map R.p ++ (B.filter fun n => decide (recAt A n.p ≠ some n)).map R.p
def nedL (A B : List R) : List R := (needS A B).foldl (upB B) []
def sortL (l : List R) : List R := l.foldl putL []
theorem upB_fold {B : List R} : ∀ (qs : List ByteArray) {L : List R}, OfB B L → OfB B (qs.foldl (upB B) L) ∧ ∀ x, x ∈ qs.foldl (upB B) L ↔ x ∈ L ∨ ∃ q ∈ qs, ∃ d, (d = q ∨ d ∈ ups q) ∧ x = recB B d
  | [], L, h => ⟨h, fun x => by simp⟩
  | q :: qs, L, h => by
    obtain ⟨h1, h2⟩ := addB_fold (q :: ups q) h
    obtain ⟨h3, h4⟩ := upB_fold qs (L := upB B L q) h1
    refine ⟨h3, fun x => ?_⟩
    rw [List.foldl_cons, h4]
    unfold upB
    rw [h2]
    simp only [List.mem_cons, exists_eq_or_imp, or_assoc]
theorem need_is {A B : List R} (ha : IsTree A) (hb : IsTree B) (q : ByteArray) : q ∈ needS A B ↔ ∃ c ∈ chgs A B, homed B c.1 = true ∧ q = c.1 := by
  have hd := chg_mem A B ha.sorted hb.sorted
  unfold needS
  rw [List.mem_append]
  constructor
  · rintro (h | h)
    · obtain ⟨m, hm, rfl⟩ := List.mem_map.1 h
      obtain ⟨hm1, hm2⟩ := List.mem_filter.1 hm
      rw [Bool.and_eq_true] at hm2
      have h1 : recAt B m.p = none := by simpa using hm2.1
      have h2 := recAt_of ha.sorted hm1
      exact ⟨(m.p, (recAt A m.p).getD zR, (recAt B m.p).getD zR), (hd _).2 ⟨by show recAt A m.p ≠ recAt B m.p; rw [h1, h2]; simp, rfl⟩, hm2.2, rfl⟩
    · obtain ⟨n, hn, rfl⟩ := List.mem_map.1 h
      obtain ⟨hn1, hn2⟩ := List.mem_filter.1 hn
      have h1 : recAt A n.p ≠ some n := by simpa using hn2
      have h2 := recAt_of hb.sorted hn1
      refine ⟨(n.p, (recAt A n.p).getD zR, (recAt B n.p).getD zR), (hd _).2 ⟨by show recAt A n.p ≠ recAt B n.p; rw [h2]; exact h1, rfl⟩, ?_, rfl⟩
      show homed B n.p = true
      unfold homed
      by_cases hp : parentL n.p.data.toList = []
      · rw [decide_eq_true hp]; rfl
      · obtain ⟨x, hx, hxp, hxk⟩ := hb.housed n hn1 hp
        rw [← hxp, recAt_of hb.sorted hx]
        simp [hxk]
  · rintro ⟨c, hc, hh, rfl⟩
    obtain ⟨hne, _⟩ := (hd c).1 hc
    cases h2 : recAt B c.1 with
    | some n =>
      obtain ⟨hn, hp⟩ := recAt_mem h2
      refine .inr (List.mem_map.2 ⟨n, List.mem_filter.2 ⟨hn, ?_⟩, hp⟩)
      rw [h2] at hne
      rw [hp]
      exact decide_eq_true hne
    | none =>
      cases h1 : recAt A c.1 with
      | none => rw [h1, h2] at hne; exact absurd rfl hne
      | some m =>
        obtain ⟨hm, hp⟩ := recAt_mem h1
        refine .inl (List.mem_map.2 ⟨m, List.mem_filter.2 ⟨hm, ?_⟩, hp⟩)
        rw [hp, h2, hh]
        rfl
theorem sort_fold : ∀ (l t : List R), Sorted t → (t ++ l).Pairwise (fun x y => x.p ≠ y.p) → Sorted (l.foldl putL t) ∧ ∀ x, x ∈ l.foldl putL t ↔ x ∈ t ∨ x ∈ l
  | [], t, h, _ => ⟨h, fun x => by simp⟩
  | n :: l, t, h, hp => by
    have hp0 := List.pairwise_append.1 hp
    have hno : ∀ x ∈ t, x.p ≠ n.p := fun x hx => hp0.2.2 x hx n (by simp)
    have hm : ∀ x, x ∈ putL t n ↔ x ∈ t ∨ x = n := fun x => mem_put.trans ⟨fun e => e.elim .inr fun e => .inl e.1, fun e => e.elim (fun e => .inr ⟨e, hno x e⟩) .inl⟩
    have hpw : (putL t n ++ l).Pairwise (fun x y => x.p ≠ y.p) := by
      have hp1 := List.pairwise_cons.1 hp0.2.1
      rw [List.pairwise_append]
      refine ⟨(put_sorted h n).imp fun h => less_ne h, hp1.2, fun x hx y hy => ?_⟩
      rcases (hm x).1 hx with hx | rfl
      · exact hp0.2.2 x hx y (List.mem_cons_of_mem _ hy)
      · exact hp1.1 y hy
    obtain ⟨h1, h2⟩ := sort_fold l (putL t n) (put_sorted h n) hpw
    refine ⟨h1, fun x => ?_⟩
    rw [List.foldl_cons, h2, hm]
    simp only [List.mem_cons, or_assoc]
theorem bet_same {A B : List R} (ha : IsTree A) (hb : IsTree B) : sortL (nedL A B) = betP A B := by
  obtain ⟨h1, h2⟩ := upB_fold (needS A B) (ofB_nil B)
  have hi := bet_inv ha hb
  obtain ⟨h3, h4⟩ := sort_fold (nedL A B) [] List.Pairwise.nil (by rw [List.nil_append]; exact h1.once)
  refine sorted_ext _ _ h3 hi.sorted fun x => ?_
  have e1 : x ∈ sortL (nedL A B) ↔ x ∈ nedL A B := by
    show x ∈ (nedL A B).foldl putL [] ↔ _
    rw [h4]
    simp
  have e2 : x ∈ nedL A B ↔ ∃ q ∈ needS A B, ∃ d, (d = q ∨ d ∈ ups q) ∧ x = recB B d := by
    show x ∈ (needS A B).foldl (upB B) [] ↔ _
    rw [h2]
    simp
  rw [e1, e2, hi.mem]
  constructor
  · rintro ⟨q, hq, d, hd, e⟩
    obtain ⟨c, hc, hh, rfl⟩ := (need_is ha hb q).1 hq
    exact ⟨d, ⟨c, hc, hh, hd⟩, e⟩
  · rintro ⟨d, ⟨c, hc, hh, hd⟩, e⟩
    exact ⟨c.1, (need_is ha hb _).2 ⟨c, hc, hh, rfl⟩, d, hd, e⟩
theorem homed_up {B : List R} (hb : IsTree B) {q : ByteArray} (hq : pathB q.data.toList = true) (h : homed B q = true) : ∀ a ∈ ups q, ∃ n, recAt B a = some n ∧ n.k = 3 := by
  intro a ha
  rw [ups_step hq] at ha
  split at ha
  · cases ha
  · rename_i hp
    unfold homed at h
    rw [decide_eq_false hp, Bool.false_or] at h
    cases hr : recAt B (parO q) with
    | none => rw [hr] at h; cases h
    | some n =>
      rw [hr] at h
      have hk : n.k = 3 := by simpa using h
      rcases List.mem_cons.1 ha with rfl | ha
      · exact ⟨n, hr, hk⟩
      · obtain ⟨hn, hnp⟩ := recAt_mem hr
        obtain ⟨x, hx, hxp, hxk⟩ := housed_ups hb.housed (ups_path hq _ (parent_up hq hp)) n hn hnp a ha
        exact ⟨x, by rw [← hxp]; exact recAt_of hb.sorted hx, hxk⟩
end Go.Proofs.YtciflchaepchiabGreatDoor.Recs

/- The program's table of kinds: what the row's condition says of it. -/
namespace Go.Proofs.YtciflchaepchiabGreatDoor.Recs
set_option maxRecDepth 100000
open Go.RowKit Paths Go.WideShapes Go.ChangeShapes

section
variable {H : Type} {enc : TypeId × Value → H} {w : World} {base : Nat} {spare : Nat → Bool} {held : Bool}
theorem cRule : Tryz.prog.cellsOf 227 = 4 := by kernel_rfl
theorem cRules : Tryz.prog.cellsOf 228 = 20 := by kernel_rfl

def ruleD (a b c d : Bool) : DataW H := .agg [.lit (.bool a), .lit (.bool b), .lit (.bool c), .lit (.bool d)]
theorem rule_of_trod {fuel : Nat} {cs : List Value} {a b c d : Bool} {q : List MemPlace} (h : DataW.trod enc Tryz.prog w base spare held fuel 227 cs = some (ruleD a b c d, q)) : cs = [.bool a, .bool b, .bool c, .bool d] := by
  obtain ⟨xs, n, _, hx, hl, hxl, hg⟩ := DataW.trod_struct Tryz.underlying227 h
  rw [cRule] at hl
  have g0 : DataW.trod enc Tryz.prog w base spare held n 4 ((cs.drop 0).take 1) = xs[0]? := by have g := hg 0 _ rfl; change DataW.trod enc Tryz.prog w base spare held n 4 ((cs.drop 0).take (Tryz.prog.cellsOf 4)) = xs[0]? at g; rw [cB] at g; exact g
  have g1 : DataW.trod enc Tryz.prog w base spare held n 4 ((cs.drop 1).take 1) = xs[1]? := by have g := hg 1 _ rfl; change DataW.trod enc Tryz.prog w base spare held n 4 ((cs.drop 1).take (Tryz.prog.cellsOf 4)) = xs[1]? at g; rw [cB] at g; exact g
  have g2 : DataW.trod enc Tryz.prog w base spare held n 4 ((cs.drop 2).take 1) = xs[2]? := by have g := hg 2 _ rfl; change DataW.trod enc Tryz.prog w base spare held n 4 ((cs.drop 2).take (Tryz.prog.cellsOf 4)) = xs[2]? at g; rw [cB] at g; exact g
  have g3 : DataW.trod enc Tryz.prog w base spare held n 4 ((cs.drop 3).take 1) = xs[3]? := by have g := hg 3 _ rfl; change DataW.trod enc Tryz.prog w base spare held n 4 ((cs.drop 3).take (Tryz.prog.cellsOf 4)) = xs[3]? at g; rw [cB] at g; exact g
  match cs, hl, xs, hxl with
  | [c0, c1, c2, c3], _, [y0, y1, y2, y3], _ =>
    obtain ⟨o0, e0, f0⟩ := DataW.trod_bool Tryz.underlying4 (show DataW.trod enc Tryz.prog w base spare held n 4 [c0] = some y0 from g0)
    obtain ⟨o1, e1, f1⟩ := DataW.trod_bool Tryz.underlying4 (show DataW.trod enc Tryz.prog w base spare held n 4 [c1] = some y1 from g1)
    obtain ⟨o2, e2, f2⟩ := DataW.trod_bool Tryz.underlying4 (show DataW.trod enc Tryz.prog w base spare held n 4 [c2] = some y2 from g2)
    obtain ⟨o3, e3, f3⟩ := DataW.trod_bool Tryz.underlying4 (show DataW.trod enc Tryz.prog w base spare held n 4 [c3] = some y3 from g3)
    simp only [List.cons.injEq, and_true] at e0 e1 e2 e3
    subst e0 e1 e2 e3 f0 f1 f2 f3
    simp [ruleD] at hx
    obtain ⟨⟨rfl, rfl, rfl, rfl⟩, _⟩ := hx
    rfl
theorem rules_of_trod {fuel : Nat} {cs : List Value} {q : List MemPlace} (h : DataW.trod enc Tryz.prog w base spare held fuel 228 cs = some (.agg [ruleD false false false false, ruleD true false true false, ruleD true true false false, ruleD false false true true, ruleD false false false false], q)) : cs = cells.toList := by
  obtain ⟨xs, n, _, hx, hl, hxl, hg⟩ := DataW.trod_array Tryz.underlying228 h
  rw [cRules] at hl
  rw [cRule] at hg
  have g0 := hg 0 (by decide)
  have g1 := hg 1 (by decide)
  have g2 := hg 2 (by decide)
  have g3 := hg 3 (by decide)
  have g4 := hg 4 (by decide)
  match cs, hl, xs, hxl with
  | [c0, c1, c2, c3, c4, c5, c6, c7, c8, c9, c10, c11, c12, c13, c14, c15, c16, c17, c18, c19], _, [⟨y0, z0⟩, ⟨y1, z1⟩, ⟨y2, z2⟩, ⟨y3, z3⟩, ⟨y4, z4⟩], _ =>
    simp only [Prod.mk.injEq, List.map_cons, List.map_nil, DataW.agg.injEq, List.cons.injEq, and_true] at hx
    obtain ⟨⟨h0, h1, h2, h3, h4⟩, _⟩ := hx
    obtain rfl := h0
    have r0 := rule_of_trod (show DataW.trod enc Tryz.prog w base spare held n 227 [c0, c1, c2, c3] = some (ruleD false false false false, z0) from g0)
    simp only [List.cons.injEq, and_true] at r0
    obtain ⟨rfl, rfl, rfl, rfl⟩ := r0
    obtain rfl := h1
    have r1 := rule_of_trod (show DataW.trod enc Tryz.prog w base spare held n 227 [c4, c5, c6, c7] = some (ruleD true false true false, z1) from g1)
    simp only [List.cons.injEq, and_true] at r1
    obtain ⟨rfl, rfl, rfl, rfl⟩ := r1
    obtain rfl := h2
    have r2 := rule_of_trod (show DataW.trod enc Tryz.prog w base spare held n 227 [c8, c9, c10, c11] = some (ruleD true true false false, z2) from g2)
    simp only [List.cons.injEq, and_true] at r2
    obtain ⟨rfl, rfl, rfl, rfl⟩ := r2
    obtain rfl := h3
    have r3 := rule_of_trod (show DataW.trod enc Tryz.prog w base spare held n 227 [c12, c13, c14, c15] = some (ruleD false false true true, z3) from g3)
    simp only [List.cons.injEq, and_true] at r3
    obtain ⟨rfl, rfl, rfl, rfl⟩ := r3
    obtain rfl := h4
    have r4 := rule_of_trod (show DataW.trod enc Tryz.prog w base spare held n 227 [c16, c17, c18, c19] = some (ruleD false false false false, z4) from g4)
    simp only [List.cons.injEq, and_true] at r4
    obtain ⟨rfl, rfl, rfl, rfl⟩ := r4
    rfl
end

theorem tab_of_cells {n : String} {W : World} {cs : Array Value} (hg : Tryz.prog.globalNamed n = some 2) (hv : W.var? Tryz.prog n = some cs) (hc : cs.toList = cells.toList) : Tab W := by
  have e : cs = cells := by
    apply Array.ext'
    rw [hc]
  subst e
  simp only [World.var?, hg, Option.bind_some] at hv
  split at hv
  · rename_i c t fr hb
    cases hv
    exact ⟨t, fr, hb⟩
  · cases hv

theorem gTab : Tryz.prog.globalNamed "loop.example/g00798/impl.kindRules" = some 2 := by kernel_rfl
theorem gTabType : (Tryz.prog.globals[(2 : Nat)]?).map (·.type) = some 228 := by kernel_rfl
/-- What a row's list gives: the table holds what its own initialiser lays. -/
theorem table {W : World} (h : laidMetH Tryz.prog [("loop.example/g00798/impl.kindRules", Rows.laid_loop_example_g00798_impl_kindRules)] W) : Tab W := by
  obtain ⟨ps, ⟨g', t', cs, fuel, p, q, hg', ht', hvar, hd, _, _⟩, _⟩ := (show laidMet Tryz.prog [("loop.example/g00798/impl.kindRules", Rows.laid_loop_example_g00798_impl_kindRules)] W from h)
  obtain rfl := Option.some.inj (gTab.symm.trans hg')
  obtain rfl := Option.some.inj (gTabType.symm.trans ht')
  exact tab_of_cells hg' hvar (rules_of_trod hd)
end Go.Proofs.YtciflchaepchiabGreatDoor.Recs
