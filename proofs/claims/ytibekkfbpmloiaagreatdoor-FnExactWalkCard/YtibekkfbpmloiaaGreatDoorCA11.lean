/- Parts of several texts of mine in one file (each begins with its own remark). -/
import Derived.Test.YtibekkfbpmloiaaGreatDoorCA1
import Derived.Test.YtibekkfbpmloiaaGreatDoorCA10
import Derived.Test.YtibekkfbpmloiaaGreatDoorCA2
import Derived.Test.YtibekkfbpmloiaaGreatDoorCA3
import Derived.Test.YtibekkfbpmloiaaGreatDoorCA4
import Derived.Test.YtibekkfbpmloiaaGreatDoorCA5
import Derived.Test.YtibekkfbpmloiaaGreatDoorCA7
import Derived.Test.YtibekkfbpmloiaaGreatDoorCA8
import Derived.Test.YtibekkfbpmloiaaGreatDoorCA9
import Derived.Test.YtibekkfbpmloiaaGreatDoorChecked
import Derived.Test.YtibekkfbpmloiaaGreatDoorShelf
import Derived.Test.YtibekkfbpmloiaaGreatDoorProg
import Derived.Test.YtibekkfbpmloiaaGreatDoorRows
import Derived.Stop.LaidErr
import Derived.StillTailTactics
import Derived.Laws.OwnMore
import Derived.BigQuiet
import Derived.BigRegion
import Derived.Deep.QuietTactic
import Derived.Deep.RegionHeld3
import Derived.Deep.Slices
import Derived.OpenShut
import Derived.ShutString
import Derived.ChangeArms
import Derived.WideShapes
import Derived.Lib.LaidTab
import Derived.Deep.Draws
import Derived.Deep.LoopGhost
import Derived.WalkKit
import Derived.WalkSpells
import Derived.WalkSmall
import Derived.Lib.OthersKept
import Derived.Lib.Hide
import Derived.Lib.Strings
import Derived.Lib.Join
import Derived.Laws.BytesArg
import Derived.WalkLawsBesides
import Derived.LaidEql
import Derived.Stop.Asserts
import Derived.Below
import Derived.Stop.LaidTwo
import Derived.ChangeVars
import Derived.Deep.DeepHandedRow
import Derived.Deep.RegionWith
import Derived.OneCell
import Derived.Lib.SliceRun
import Derived.Lib.Overlaps
import Derived.Lib.AppendZerosOnto
import Derived.Laws.NewBlocks
import Derived.Laws.IdiomCopy
import Derived.Deep.RegionLaw
/- What an upper layer cuts off: Cuts, of the program and of its model. Conditions (of the program's): the table of kinds, the two sentinels. -/
namespace Go.Proofs.YtibekkfbpmloiaaGreatDoor.Recs
set_option maxRecDepth 100000
open Go.RowKit Paths Errs

theorem stops_any (r : R) (w : World) :
    Calls Tryz.prog 79 #[r.val] w fun e w' => e = .returned (.bool (stops r)) ∧ Below w.heap.size w w' := by
  obtain ⟨rk, rm, rp, rb, ro⟩ := r
  unfold R.val
  dsimp only
  have hb : Below w.heap.size w (w.alloc (.cells #[.int .i64 rk, .string rp, .string rb, .int .i64 rm, .bool ro] 53)) := (Below.refl _ _).alloc (Nat.le_refl _) _
  by_cases h3 : rk = 3
  · have q3 : (rk != 3) = false := by simp [h3]
    have HE : Hid (stops ⟨rk, rm, rp, rb, ro⟩ = ro) := (by show _ = _; unfold stops; simp [h3])
    clear h3
    go_enter Tryz.func79, Tryz.ntmps79
    go_wp2_with fail
    go_ret
    exact ⟨ret_bool HE.out.symm, hb⟩
  · have q3 : (rk != 3) = true := by simp [h3]
    have HE : Hid (stops ⟨rk, rm, rp, rb, ro⟩ = true) := (by show _ = _; unfold stops; simp [h3])
    clear h3
    go_enter Tryz.func79, Tryz.ntmps79
    go_wp2_with fail
    go_ret
    exact ⟨ret_bool HE.out.symm, hb⟩

theorem cut_test (r : R) (c : Nat) (q : ByteArray) (w : World) (h : w.cell? ⟨c, 0, none⟩ = some (.string q)) (hq : q.size ≤ maxLen) (hr : r.p.size ≤ maxLen) :
    Calls Tryz.prog 96 #[r.val, .pointer (some ⟨c, 0, none⟩)] w fun e w' => e = .returned (.bool (stops r && isBelowB q r.p)) ∧ Below w.heap.size w w' := by
  have hcl := World.block_lt_of_cell? w _ h
  have hb0 : Below w.heap.size w (w.alloc (.cells #[.int .i64 r.k, .string r.p, .string r.b, .int .i64 r.m, .bool r.o] 53)) := (Below.refl _ _).alloc (Nat.le_refl _) _
  have HST := stops_any r (w.alloc (.cells #[.int .i64 r.k, .string r.p, .string r.b, .int .i64 r.m, .bool r.o] 53))
  have hq0 : (w.alloc (.cells #[.int .i64 r.k, .string r.p, .string r.b, .int .i64 r.m, .bool r.o] 53)).cell? ⟨c, 0, none⟩ = some (.string q) := cell?_alloc_old _ h
  have hp0 : (w.alloc (.cells #[.int .i64 r.k, .string r.p, .string r.b, .int .i64 r.m, .bool r.o] 53)).cell? ⟨w.heap.size, 1, none⟩ = some (.string r.p) := by go_simp
  have HQ0 := Lib.hid hq0
  have HP0 := Lib.hid hp0
  clear hq0 hp0 h
  unfold R.val at HST ⊢
  rcases Bool.eq_false_or_eq_true (stops r) with ho | ho
  · rw [ho] at HST ⊢
    go_enter Tryz.func96, Tryz.ntmps96
    go_wp2_with fail
    refine HST.mono ?_
    rintro e w1 ⟨rfl, hb1⟩
    have hq1 : w1.cell? ⟨c, 0, none⟩ = some (.string q) := (hb1.cell (p := ⟨c, 0, none⟩) (by simp; omega)).trans HQ0.out
    have hp1 : w1.cell? ⟨w.heap.size, 1, none⟩ = some (.string r.p) := (hb1.cell (p := ⟨w.heap.size, 1, none⟩) (by simp)).trans HP0.out
    have c1 := hb0.trans (hb1.mono hb0.size)
    go_wp2_with fail
    refine (isBelow_impl _ _ _ hq hr).mono ?_
    rintro e w2 ⟨rfl, hb2⟩
    go_wp2_with fail
    go_ret
    exact ⟨rfl, c1.trans (hb2.mono c1.size)⟩
  · rw [ho] at HST ⊢
    go_enter Tryz.func96, Tryz.ntmps96
    go_wp2_with fail
    refine HST.mono ?_
    rintro e w1 ⟨rfl, hb1⟩
    go_wp2_with fail
    go_ret
    exact ⟨rfl, hb0.trans (hb1.mono hb0.size)⟩

set_option maxHeartbeats 800000 in
theorem indexFunc_cut (v : Value) (l : List R) (c : Addr) (P : R → Bool) (w : World) (h : RecSl w v l) (hl : l.length ≤ 1048576)
    (HF : ∀ r ∈ l, ∀ w', Below w.heap.size w w' → Calls Tryz.prog 96 #[r.val, .pointer (some c)] w' fun e w'' => e = .returned (.bool (P r)) ∧ Below w'.heap.size w' w'') :
    Calls Tryz.prog 104 #[v, .func (.func 96) #[] #[.pointer (some c)]] w fun e w' => e = .returned (.int .i64 (idxFrom P l 0)) ∧ Below w.heap.size w w' := by
  obtain ⟨A, cap, rfl, hcap, h⟩ := h
  have H := Lib.hid h
  have HFh := Lib.hid HF
  clear h HF
  go_enter Tryz.func104, Tryz.ntmps104
  go_wp2
  go_loopw [8] (fun i wr => ∃ k : Nat, k ≤ l.length ∧ i = .int .i64 k ∧ Hid (idxFrom P l 0 = idxFrom P (l.drop k) k) ∧ Below w.heap.size w wr) (fun i _ => l.length - (intOf i).toNat)
  case atStart => exact ⟨0, by omega, rfl, rfl, Below.refl _ _⟩
  case round =>
    obtain ⟨k, hk, rfl, HK, hbw⟩ := hrel
    by_cases hlt : k < l.length
    · obtain ⟨b, off, rfl, hb, hcell⟩ := H.out (by omega)
      obtain ⟨c0, c1, c2, c3, c4⟩ := (hcell k l[k] (by simp [hlt])).below hbw hb
      have HS := Lib.hid (HK.out.trans (idx_step hlt))
      clear hcell HK
      have hi1 : (k : Int) < (l.length : Int) := by omega
      have hi0 : (0 : Int) ≤ (k : Int) := by omega
      have HC := HFh.out l[k] (List.getElem_mem hlt) _ hbw
      unfold R.val at HC
      rcases Bool.eq_false_or_eq_true (P l[k]) with he | he
      · have HE : Hid (idxFrom P l 0 = k) := by show _ = _; rw [HS.out, if_pos he]
        go_wp2_with (go_at_call 96; refine HC.mono ?_; rintro e w1 ⟨rfl, hb1⟩)
        go_ret
        exact ⟨ret_int HE.out.symm, hbw.trans (hb1.mono hbw.size)⟩
      · have HE : Hid (idxFrom P l 0 = idxFrom P (l.drop (k + 1)) (k + 1)) := by show _ = _; rw [HS.out, if_neg (by rw [he]; decide)]
        go_wp2_with (go_at_call 96; refine HC.mono ?_; rintro e w1 ⟨rfl, hb1⟩)
        exact ⟨⟨k + 1, by omega, by go_num, HE, hbw.trans (hb1.mono hbw.size)⟩, by simp [intOf]; omega⟩
    · have HE := Lib.hid (HK.out.trans (idx_end (by omega)))
      go_wp2
      go_ret
      exact ⟨ret_int HE.out.symm, hbw⟩

theorem containsFunc_cut (v f : Value) (n : Int) (w : World)
    (HC : Calls Tryz.prog 104 #[v, f] w fun e w' => e = .returned (.int .i64 n) ∧ Below w.heap.size w w') :
    Calls Tryz.prog 95 #[v, f] w fun e w' => e = .returned (.bool (decide (0 ≤ n))) ∧ Below w.heap.size w w' := by
  go_enter Tryz.func95, Tryz.ntmps95
  go_wp2_with fail
  refine HC.mono ?_
  rintro e w1 ⟨rfl, hb1⟩
  go_wp2_with fail
  go_ret
  exact ⟨rfl, hb1⟩

theorem cutsOff_any (v : Value) (l : List R) (q : ByteArray) (w : World) (h : RecSl w v l) (hl : l.length ≤ 1048576) (hq : q.size ≤ maxLen) (hr : ∀ r ∈ l, r.p.size ≤ maxLen) :
    Calls Tryz.prog 82 #[v, .string q] w fun e w' => e = .returned (.bool (cutsI l q)) ∧ Below w.heap.size w w' := by
  have hb0 : Below w.heap.size w (w.alloc (.cells #[.string q] 9)) := (Below.refl _ _).alloc (Nat.le_refl _) _
  have hc0 : (w.alloc (.cells #[.string q] 9)).cell? ⟨w.heap.size, 0, none⟩ = some (.string q) := by go_simp
  have h0 := h.below hb0
  have HC := indexFunc_cut v l ⟨w.heap.size, 0, none⟩ (fun r => stops r && isBelowB q r.p) (w.alloc (.cells #[.string q] 9)) h0 hl
    (fun r hm w' hb => cut_test r w.heap.size q w' ((hb.cell (p := ⟨w.heap.size, 0, none⟩) (by simp)).trans hc0) hq (hr r hm))
  have HD := containsFunc_cut _ _ _ _ HC
  rw [idx_any] at HD
  obtain ⟨A, cap, rfl, _⟩ := h
  go_enter Tryz.func82, Tryz.ntmps82
  go_wp2_with fail
  refine HD.mono ?_
  rintro e w1 ⟨rfl, hb1⟩
  go_wp2_with fail
  go_ret
  exact ⟨rfl, hb0.trans (hb1.mono hb0.size)⟩
end Go.Proofs.YtibekkfbpmloiaaGreatDoor.Recs

/- A tree in memory: what each branch holds; finding a child of a branch, resolving parts. -/
namespace Go.Proofs.YtibekkfbpmloiaaGreatDoor.Recs
set_option maxRecDepth 100000
open Go.RowKit Paths

section
variable {w w' : World} {base : Nat} {A : ByteArray → Nat} {S : ByteArray → Value} {t : List R} {r : R}
end

/-- A slice that reads as parts. -/
def PartSl (w : World) (v : Value) (L : List (List UInt8)) : Prop :=
  ∃ A cap, v = .slice A L.length cap ∧ L.length ≤ cap ∧ (0 < L.length → ∃ g, A = some ⟨g, 0, none⟩ ∧ g < w.heap.size ∧ ∀ i (hi : i < L.length), w.cell? ⟨g, i, none⟩ = some (strV L[i]))
theorem PartSl.below {w w' : World} {v : Value} {L : List (List UInt8)} (h : PartSl w v L) (hb : Below w.heap.size w w') : PartSl w' v L := by
  obtain ⟨A, cap, rfl, hc, h⟩ := h
  refine ⟨A, cap, rfl, hc, fun hn => ?_⟩
  obtain ⟨g, rfl, hlt, hcell⟩ := h hn
  exact ⟨g, rfl, Nat.lt_of_lt_of_le hlt hb.size, fun i hi => (hb.cell (p := ⟨g, i, none⟩) hlt).trans (hcell i hi)⟩
theorem part_sl {w : World} {base : Nat} {v : Value} {L : List (List UInt8)} (h : w.ownsRow base 9 1 v L.length (L.map strV)) : PartSl w v L := by
  rcases h.2 with ⟨rfl, hn⟩ | ⟨g, cap, cur, rfl, _, hg, hc, _⟩
  · exact ⟨none, 0, by rw [hn], by omega, fun h => by omega⟩
  · refine ⟨_, cap, rfl, hc, fun _ => ⟨g, rfl, (Array.getElem?_eq_some_iff.1 hg).1, fun i hi => ?_⟩⟩
    rw [h.cellAt i (by omega), List.getElem?_map, List.getElem?_eq_getElem hi]
    rfl
theorem PartSl.take {w : World} {sA : Option Addr} {cap : Nat} {L : List (List UInt8)} (h : PartSl w (.slice sA L.length cap) L) {k : Nat} (hk : k ≤ L.length) : PartSl w (.slice sA k cap) (L.take k) := by
  obtain ⟨A', cap', e, hc, h⟩ := h
  cases e
  refine ⟨sA, cap, by rw [List.length_take, Nat.min_eq_left hk], by rw [List.length_take]; omega, fun hn => ?_⟩
  rw [List.length_take] at hn
  obtain ⟨g, e, hb, hcell⟩ := h (by omega)
  refine ⟨g, e, hb, fun i hi => ?_⟩
  rw [List.length_take] at hi
  rw [hcell i (by omega), List.getElem_take]

end Go.Proofs.YtibekkfbpmloiaaGreatDoor.Recs

/- Nodes: opening one and a slice of them; the laws' own size, copy and comparison of a node. A node is a record of which Opaque is false. -/
namespace Go.Proofs.YtibekkfbpmloiaaGreatDoor.Recs
set_option maxRecDepth 100000
open Go.RowKit Paths Go.WideShapes Go.ChangeShapes

/-- A node's value. -/
def R.nod (r : R) : Value := .agg #[.int .i64 r.k, .string r.p, .string r.b, .int .i64 r.m]
section
variable {H : Type} {enc : TypeId × Value → H} {w : World} {base : Nat} {spare : Nat → Bool} {held : Bool}
end

theorem eqNode_any (k m : Int) (p b : ByteArray) (w : World) :
    Calls Tryz.prog 13 #[.agg #[.int .i64 k, .string p, .string b, .int .i64 m], .agg #[.int .i64 k, .string p, .string b, .int .i64 m]] w fun e w' => e = .returned (.bool true) ∧ Below w.heap.size w w' := by
  go_enter Tryz.func13, Tryz.ntmps13
  go_wp2_with fail
  go_ret
  exact ⟨rfl, ((Below.refl _ _).alloc (Nat.le_refl _) _).alloc (by simp) _⟩

/-- The four cells of a node, from a place on; it hides nothing. -/
def NodCells (w : World) (b off : Nat) (r : R) : Prop :=
  w.cell? ⟨b, off, none⟩ = some (.int .i64 r.k) ∧ w.cell? ⟨b, off + 1, none⟩ = some (.string r.p) ∧ w.cell? ⟨b, off + 2, none⟩ = some (.string r.b) ∧ w.cell? ⟨b, off + 3, none⟩ = some (.int .i64 r.m)
theorem NodCells.below {w w' : World} {B b off : Nat} {r : R} (h : NodCells w b off r) (hb : Below B w w') (hB : b < B) : NodCells w' b off r := by
  obtain ⟨h0, h1, h2, h3⟩ := h
  exact ⟨(hb.cell (p := ⟨b, off, none⟩) hB).trans h0, (hb.cell (p := ⟨b, off + 1, none⟩) hB).trans h1, (hb.cell (p := ⟨b, off + 2, none⟩) hB).trans h2, (hb.cell (p := ⟨b, off + 3, none⟩) hB).trans h3⟩
/-- A slice that reads as the nodes L, wherever it lies. -/
def NodSl (w : World) (v : Value) (L : List R) : Prop :=
  (∀ r ∈ L, r.o = false) ∧ ∃ A cap, v = .slice A L.length cap ∧ L.length ≤ cap ∧ (0 < L.length → ∃ b off, A = some ⟨b, off, none⟩ ∧ b < w.heap.size ∧ ∀ i r, L[i]? = some r → NodCells w b (off + i * 4) r)
theorem NodSl.below {w w' : World} {v : Value} {L : List R} (h : NodSl w v L) (hb : Below w.heap.size w w') : NodSl w' v L := by
  obtain ⟨ho, A, cap, rfl, hc, h⟩ := h
  refine ⟨ho, A, cap, rfl, hc, fun hn => ?_⟩
  obtain ⟨b, off, rfl, hlt, hcell⟩ := h hn
  exact ⟨b, off, rfl, Nat.lt_of_lt_of_le hlt hb.size, fun i r hi => (hcell i r hi).below hb hlt⟩

section
variable {H : Type} {enc : TypeId × Value → H} {w : World} {base : Nat} {spare : Nat → Bool} {held : Bool}

end
end Go.Proofs.YtibekkfbpmloiaaGreatDoor.Recs

/- growTree, of the program: the errors, or the tree in memory. Conditions: the table of kinds, the two sentinels. -/
namespace Go.Proofs.YtibekkfbpmloiaaGreatDoor.Recs
set_option maxRecDepth 100000
open Go.RowKit Paths Errs

/-- An error that a check hands back: none, the sentinel of long arguments, the one of invalid ones. -/
inductive EN where
  | fine
  | long
  | inv
def EN.val (x y : Addr) : EN → Value
  | .fine => .nilIface
  | .long => errV x
  | .inv => errV y
end Go.Proofs.YtibekkfbpmloiaaGreatDoor.Recs

/- The code of the errors of a call's arguments, whichever check they come from. Conditions: the table of kinds, the two sentinels. -/
namespace Go.Proofs.YtibekkfbpmloiaaGreatDoor.Recs
set_option maxRecDepth 100000
open Go.RowKit Paths Errs

/-- An error that a check hands back: none, one of the two sentinels, or the one that names a record. -/
inductive EU where
  | fine
  | long
  | inv
  | bad (i c : Int)
def EU.val (x y : Addr) : EU → Value
  | .fine => .nilIface
  | .long => errV x
  | .inv => errV y
  | .bad i c => recV i c
def EN.u : EN → EU
  | .fine => .fine
  | .long => .long
  | .inv => .inv
theorem EN.u_val (e : EN) (x y : Addr) : e.u.val x y = e.val x y := by cases e <;> rfl
def euFrom : List EU → Int → Int
  | [], c => c
  | .fine :: t, c => euFrom t c
  | .long :: _, _ => 2
  | .inv :: t, _ => euFrom t 1
  | .bad _ _ :: t, _ => euFrom t 1
theorem eu_end {L : List EU} {k : Nat} {c : Int} (h : L.length ≤ k) : euFrom (L.drop k) c = c := by rw [List.drop_eq_nil_of_le h]; rfl
theorem eu_fine {L : List EU} {k : Nat} {c : Int} (h : k < L.length) (he : L[k] = .fine) : euFrom (L.drop k) c = euFrom (L.drop (k + 1)) c := by rw [List.drop_eq_getElem_cons h, he]; rfl
theorem eu_long {L : List EU} {k : Nat} {c : Int} (h : k < L.length) (he : L[k] = .long) : euFrom (L.drop k) c = 2 := by rw [List.drop_eq_getElem_cons h, he]; rfl
theorem eu_inv {L : List EU} {k : Nat} {c : Int} (h : k < L.length) (he : L[k] = .inv) : euFrom (L.drop k) c = euFrom (L.drop (k + 1)) 1 := by rw [List.drop_eq_getElem_cons h, he]; rfl
theorem eu_bad {L : List EU} {k : Nat} {c i d : Int} (h : k < L.length) (he : L[k] = .bad i d) : euFrom (L.drop k) c = euFrom (L.drop (k + 1)) 1 := by rw [List.drop_eq_getElem_cons h, he]; rfl

set_option maxHeartbeats 1600000 in
theorem argumentU_any (g : Nat) (L : List EU) (x y : Addr) (w : World) (hT : Three w x y) (hg : g < w.heap.size) (hn : L.length ≤ 1000) (hc : ∀ k (h : k < L.length), w.cell? ⟨g, k, none⟩ = some (L[k].val x y)) :
    Calls Tryz.prog 66 #[.slice (some ⟨g, 0, none⟩) L.length L.length] w fun e w' => e = .returned (.int .i64 (euFrom L 0)) ∧ Below w.heap.size w w' := by
  have HC := Lib.hid hc
  have HT := Lib.hid hT
  clear hc hT
  go_enter Tryz.func66, Tryz.ntmps66
  go_wp2
  go_loopw [3, 8] (fun c i wr => ∃ (k : Nat) (d : Int), k ≤ L.length ∧ i = .int .i64 k ∧ c = .int .i64 d ∧ Hid (euFrom L 0 = euFrom (L.drop k) d) ∧ Below w.heap.size w wr) (fun _ i _ => L.length - (intOf i).toNat)
  case atStart => exact ⟨0, 0, by omega, rfl, rfl, rfl, Below.refl _ _⟩
  case round =>
    obtain ⟨k, d, hk, rfl, rfl, HK, hbw⟩ := hrel
    by_cases hlt : k < L.length
    · have hcell : wr.cell? ⟨g, k, none⟩ = some (L[k].val x y) := (hbw.cell (p := ⟨g, k, none⟩) hg).trans (HC.out k hlt)
      have hTr := HT.out.below hbw (Nat.le_refl _)
      have hx := hTr.long
      have hy := hTr.bad
      have hi1 : (k : Int) < (L.length : Int) := by omega
      have hi0 : (0 : Int) ≤ (k : Int) := by omega
      cases hE : L[k] with
      | fine =>
        have HF := Lib.hid (HK.out.trans (eu_fine hlt hE))
        rw [hE] at hcell
        unfold EU.val at hcell
        have H1 := is_nil x wr
        have H2 := is_nil y wr
        unfold errV at hx hy H1 H2
        go_wp2_with fail
        refine H1.mono ?_
        rintro e w1 ⟨rfl, rfl⟩
        go_wp2_with fail
        refine H2.mono ?_
        rintro e w2 ⟨rfl, rfl⟩
        go_wp2_with fail
        exact ⟨⟨k + 1, d, by omega, by go_num, rfl, HF, hbw⟩, by simp [intOf]; omega⟩
      | long =>
        have HF := Lib.hid (HK.out.trans (eu_long hlt hE))
        rw [hE] at hcell
        unfold EU.val at hcell
        have H1 := is_same x wr
        unfold errV at hx hy H1 hcell
        go_wp2_with fail
        refine H1.mono ?_
        rintro e w1 ⟨rfl, rfl⟩
        go_wp2_with fail
        go_ret
        exact ⟨ret_int HF.out.symm, hbw⟩
      | inv =>
        have HF := Lib.hid (HK.out.trans (eu_inv hlt hE))
        rw [hE] at hcell
        unfold EU.val at hcell
        obtain ⟨cx, tx, rx⟩ := hTr.rowx
        obtain ⟨cy, ty, ry⟩ := hTr.rowy
        have H1 := is_other y x _ _ _ _ wr (Ne.symm hTr.ne) ry rx
        have H2 := is_same y wr
        unfold errV at hx hy H1 H2 hcell
        go_wp2_with fail
        refine H1.mono ?_
        rintro e w1 ⟨rfl, rfl⟩
        go_wp2_with fail
        refine H2.mono ?_
        rintro e w2 ⟨rfl, rfl⟩
        go_wp2_with fail
        exact ⟨⟨k + 1, 1, by omega, by go_num, rfl, HF, hbw⟩, by simp [intOf]; omega⟩
      | bad i c =>
        have HF := Lib.hid (HK.out.trans (eu_bad hlt hE))
        rw [hE] at hcell
        unfold EU.val at hcell
        obtain ⟨cx, tx, rx⟩ := hTr.rowx
        obtain ⟨cy, ty, ry⟩ := hTr.rowy
        have H1 := is_rec_other i c y x _ _ _ _ wr hy (Ne.symm hTr.ne) ry rx
        have hxl := World.block_lt_of_cell? wr _ hx
        have hyl := World.block_lt_of_cell? wr _ hy
        have hye := hy
        unfold recV at hcell H1
        unfold errV at hx hy H1
        go_wp2_with fail
        refine H1.mono ?_
        rintro e w1 ⟨rfl, hb1⟩
        have hy1 : w1.cell? ⟨1, 0, none⟩ = some (errV y) := (hb1.cell (p := ⟨1, 0, none⟩) hyl).trans hye
        have H2 := is_rec_same i c y w1 hy1
        unfold recV at H2
        unfold errV at hy1 H2
        go_wp2_with fail
        refine H2.mono ?_
        rintro e w2 ⟨rfl, hb2⟩
        go_wp2_with fail
        exact ⟨⟨k + 1, 1, by omega, by go_num, rfl, HF, (hbw.trans (hb1.mono hbw.size)).trans (hb2.mono (hbw.trans (hb1.mono hbw.size)).size)⟩, by simp [intOf]; omega⟩
    · have HE := Lib.hid (HK.out.trans (eu_end (by omega)))
      go_wp2
      go_ret
      exact ⟨ret_int HE.out.symm, hbw⟩

/-- The arguments' errors, as the call of a variadic function lays them. -/
theorem argU2_any (a b : EU) (x y : Addr) (w : World) (hT : Three w x y) :
    Calls Tryz.prog 66 #[.slice (some ⟨w.heap.size, 0, none⟩) 2 2] (w.alloc (.cells #[a.val x y, b.val x y] 91)) fun e w' => e = .returned (.int .i64 (euFrom [a, b] 0)) ∧ Below w.heap.size w w' := by
  have hb0 : Below w.heap.size w (w.alloc (.cells #[a.val x y, b.val x y] 91)) := (Below.refl _ _).alloc (Nat.le_refl _) _
  have := argumentU_any w.heap.size [a, b] x y (w.alloc (.cells #[a.val x y, b.val x y] 91)) (hT.below hb0 (Nat.le_refl _)) (by simp) (by simp) (fun k hk => by
    have hk2 : k < 2 := hk
    match k, hk2 with
    | 0, _ => go_simp
    | 1, _ => go_simp)
  refine this.mono ?_
  rintro e w1 ⟨rfl, hb1⟩
  exact ⟨rfl, hb0.trans (hb1.mono hb0.size)⟩
theorem argU1_any (a : EU) (x y : Addr) (w : World) (hT : Three w x y) :
    Calls Tryz.prog 66 #[.slice (some ⟨w.heap.size, 0, none⟩) 1 1] (w.alloc (.cells #[a.val x y] 91)) fun e w' => e = .returned (.int .i64 (euFrom [a] 0)) ∧ Below w.heap.size w w' := by
  have hb0 : Below w.heap.size w (w.alloc (.cells #[a.val x y] 91)) := (Below.refl _ _).alloc (Nat.le_refl _) _
  have := argumentU_any w.heap.size [a] x y (w.alloc (.cells #[a.val x y] 91)) (hT.below hb0 (Nat.le_refl _)) (by simp) (by simp) (fun k hk => by
    have hk2 : k < 1 := hk
    match k, hk2 with
    | 0, _ => go_simp)
  refine this.mono ?_
  rintro e w1 ⟨rfl, hb1⟩
  exact ⟨rfl, hb0.trans (hb1.mono hb0.size)⟩

end Go.Proofs.YtibekkfbpmloiaaGreatDoor.Recs

/- Slices of nodes in memory of their own; the laws' own copy, size and comparison of slices of nodes. -/
namespace Go.Proofs.YtibekkfbpmloiaaGreatDoor.Recs
set_option maxRecDepth 100000
open Go.RowKit Paths

/-- A node's four cells. -/
def R.ns (r : R) : List Value := [.int .i64 r.k, .string r.p, .string r.b, .int .i64 r.m]
def flatN (l : List R) : List Value := l.flatMap R.ns
theorem flatN_len (l : List R) : (flatN l).length = l.length * 4 := by
  induction l with
  | nil => rfl
  | cons r t ih => simp only [flatN, List.flatMap_cons, List.length_append, List.length_cons] at ih ⊢; rw [ih]; simp [R.ns]; omega
theorem flatN_get : ∀ (l : List R) (j : Nat), (flatN l)[j]? = (l[j / 4]?).bind fun r => r.ns[j % 4]?
  | [], j => by simp [flatN]
  | r :: t, j => by
    have ih := flatN_get t (j - 4)
    by_cases hj : j < 4
    · have e1 : j / 4 = 0 := by omega
      have e2 : j % 4 = j := by omega
      rw [e1, e2]
      simp only [flatN, List.flatMap_cons]
      rw [List.getElem?_append_left (by simp [R.ns]; omega)]
      simp
    · have e1 : j / 4 = (j - 4) / 4 + 1 := by omega
      have e2 : j % 4 = (j - 4) % 4 := by omega
      rw [e1, e2]
      simp only [flatN, List.flatMap_cons]
      rw [List.getElem?_append_right (by simp [R.ns]; omega)]
      simp only [R.ns, List.length_cons, List.length_nil]
      exact ih
theorem flatN_field {M : List R} {i c : Nat} {r : R} {u : Value} (hi : i < M.length) (hc : c < 4) (h : r.ns = M[i].ns.set c u) : flatN (M.set i r) = (flatN M).set (i * 4 + c) u := by
  apply List.ext_getElem?
  intro j
  rw [flatN_get, List.getElem?_set, List.getElem?_set, flatN_len, flatN_get]
  by_cases hj : i = j / 4
  · rw [if_pos hj, if_pos (by omega)]
    simp only [Option.bind_some]
    rw [h, List.getElem?_set]
    by_cases hk : c = j % 4
    · rw [if_pos hk, if_pos (by simp [R.ns]; omega), if_pos (by omega), if_pos (by omega)]
    · rw [if_neg hk, if_neg (by omega), ← hj, List.getElem?_eq_getElem hi]
      rfl
  · rw [if_neg hj, if_neg (by omega)]

/-- A slice in memory of its own that holds the nodes M. -/
def RowN (w : World) (base : Nat) (v : Value) (n : Nat) (M : List R) : Prop := M.length = n ∧ w.ownsRow base 25 4 v n (flatN M) ∧ ∀ r ∈ M, r.o = false
theorem RowN.below {w w' : World} {base : Nat} {v : Value} {n : Nat} {M : List R} (h : RowN w base v n M) (hb : Below w.heap.size w w') : RowN w' base v n M := ⟨h.1, own_below h.2.1 hb, h.2.2⟩
theorem RowN.sl {w : World} {base : Nat} {v : Value} {n : Nat} {M : List R} (h : RowN w base v n M) : NodSl w v M := by
  obtain ⟨rfl, h, ho⟩ := h
  refine ⟨ho, ?_⟩
  rcases h.2 with ⟨rfl, hn⟩ | ⟨g, cap, cur, rfl, hb, hg, hc, _⟩
  · exact ⟨none, 0, by rw [hn], by omega, fun h => by omega⟩
  · refine ⟨_, cap, rfl, hc, fun _ => ⟨g, 0, rfl, (Array.getElem?_eq_some_iff.1 hg).1, fun i r hi => ?_⟩⟩
    have hlt : i < M.length := (List.getElem?_eq_some_iff.1 hi).1
    have one : ∀ c, c < 4 → w.cell? ⟨g, i * 4 + c, none⟩ = r.ns[c]? := fun c hc => by
      rw [h.cellAt (i * 4 + c) (by omega), flatN_get]
      have e1 : (i * 4 + c) / 4 = i := by omega
      have e2 : (i * 4 + c) % 4 = c := by omega
      rw [e1, e2, hi]
      rfl
    rw [Nat.zero_add]
    exact ⟨one 0 (by omega), one 1 (by omega), one 2 (by omega), one 3 (by omega)⟩
theorem RowN.field {w : World} {base g cap n : Nat} {M : List R} {i c : Nat} {r : R} {u : Value} (h : RowN w base (.slice (some ⟨g, 0, none⟩) n cap) n M) (hi : i < M.length) (hc : c < 4) (hr : r.ns = M[i].ns.set c u) (ho : r.o = false) :
    RowN (w.setCell ⟨g, i * 4 + c, none⟩ u) base (.slice (some ⟨g, 0, none⟩) n cap) n (M.set i r) ∧ w.grownBy (w.setCell ⟨g, i * 4 + c, none⟩ u) (some g) := by
  obtain ⟨h1, h2⟩ := h.2.1.stored (i * 4 + c) u
  exact ⟨⟨by rw [List.length_set]; exact h.1, by rw [flatN_field hi hc hr]; exact h1, fun x hx => (List.mem_or_eq_of_mem_set hx).elim (h.2.2 x) (fun e => by rw [e]; exact ho)⟩, h2⟩
theorem RowN.frozen {w : World} {base g cap n : Nat} {M : List R} (h : RowN w base (.slice (some ⟨g, 0, none⟩) n cap) n M) (j : Nat) : w.frozen? ⟨g, j, none⟩ = false := h.2.1.frozenAt j
theorem RowN.cells {w : World} {base g cap n : Nat} {M : List R} (h : RowN w base (.slice (some ⟨g, 0, none⟩) n cap) n M) {i : Nat} (hi : i < M.length) : NodCells w g (i * 4) M[i] := by
  have one : ∀ c, c < 4 → w.cell? ⟨g, i * 4 + c, none⟩ = M[i].ns[c]? := fun c hc => by
    rw [h.2.1.cellAt (i * 4 + c) (by rw [← h.1]; omega), flatN_get]
    have e1 : (i * 4 + c) / 4 = i := by omega
    have e2 : (i * 4 + c) % 4 = c := by omega
    rw [e1, e2, List.getElem?_eq_getElem hi]
    rfl
  exact ⟨one 0 (by omega), one 1 (by omega), one 2 (by omega), one 3 (by omega)⟩
/-- A whole node written. -/
theorem RowN.store {w : World} {base g cap n : Nat} {M : List R} {i : Nat} (r : R) (h : RowN w base (.slice (some ⟨g, 0, none⟩) n cap) n M) (hi : i < M.length) (ho : r.o = false) :
    RowN ((((w.setCell ⟨g, i * 4, none⟩ (.int .i64 r.k)).setCell ⟨g, i * 4 + 1, none⟩ (.string r.p)).setCell ⟨g, i * 4 + 2, none⟩ (.string r.b)).setCell ⟨g, i * 4 + 3, none⟩ (.int .i64 r.m)) base (.slice (some ⟨g, 0, none⟩) n cap) n (M.set i r) ∧
    w.grownBy ((((w.setCell ⟨g, i * 4, none⟩ (.int .i64 r.k)).setCell ⟨g, i * 4 + 1, none⟩ (.string r.p)).setCell ⟨g, i * 4 + 2, none⟩ (.string r.b)).setCell ⟨g, i * 4 + 3, none⟩ (.int .i64 r.m)) (some g) := by
  have hM := h.2.2 M[i] (List.getElem_mem hi)
  obtain ⟨a1, b1⟩ := h.field (i := i) (c := 0) (r := { M[i] with k := r.k }) (u := .int .i64 r.k) hi (by omega) rfl hM
  obtain ⟨a2, b2⟩ := a1.field (i := i) (c := 1) (r := { M[i] with k := r.k, p := r.p }) (u := .string r.p) (by simpa using hi) (by omega) (by simp [R.ns]) hM
  obtain ⟨a3, b3⟩ := a2.field (i := i) (c := 2) (r := { M[i] with k := r.k, p := r.p, b := r.b }) (u := .string r.b) (by simpa using hi) (by omega) (by simp [R.ns]) hM
  obtain ⟨a4, b4⟩ := a3.field (i := i) (c := 3) (r := r) (u := .int .i64 r.m) (by simpa using hi) (by omega) (by simp [R.ns]) ho
  refine ⟨?_, grown_trans (grown_trans (grown_trans b1 b2) b3) b4⟩
  simp only [List.set_set] at a4
  exact a4

end Go.Proofs.YtibekkfbpmloiaaGreatDoor.Recs

/- Rows of nodes: parts of a row as the source of an append; a copy of a list of nodes that is never nil. -/
namespace Go.Proofs.YtibekkfbpmloiaaGreatDoor.Recs
set_option maxRecDepth 100000
open Go.RowKit Paths

theorem own_down {w : World} {base base' : Nat} {e : TypeId} {size : Nat} {v : Value} {n : Nat} {xs : List Value} (h : w.ownsRow base e size v n xs) (hb : base' ≤ base) : w.ownsRow base' e size v n xs := by
  obtain ⟨h1, h2⟩ := h
  refine ⟨h1, ?_⟩
  rcases h2 with h2 | ⟨g, cap', cur, a, b, c⟩
  · exact .inl h2
  · exact .inr ⟨g, cap', cur, a, Nat.le_trans hb b, c⟩
end Go.Proofs.YtibekkfbpmloiaaGreatDoor.Recs
