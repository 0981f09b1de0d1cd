/- Parts of several texts of mine in one file (each begins with its own remark). -/
import Derived.Test.YtibekkfbpmloiabGreatDoorCA1
import Derived.Test.YtibekkfbpmloiabGreatDoorCA10
import Derived.Test.YtibekkfbpmloiabGreatDoorCA11
import Derived.Test.YtibekkfbpmloiabGreatDoorCA2
import Derived.Test.YtibekkfbpmloiabGreatDoorCA3
import Derived.Test.YtibekkfbpmloiabGreatDoorCA4
import Derived.Test.YtibekkfbpmloiabGreatDoorCA5
import Derived.Test.YtibekkfbpmloiabGreatDoorCA6
import Derived.Test.YtibekkfbpmloiabGreatDoorCA7
import Derived.Test.YtibekkfbpmloiabGreatDoorCA9
import Derived.Test.YtibekkfbpmloiabGreatDoorShelf
import Derived.Test.YtibekkfbpmloiabGreatDoorChecked
import Derived.Test.YtibekkfbpmloiabGreatDoorShelf2
import Derived.Test.YtibekkfbpmloiabGreatDoorRows
import Derived.Test.YtibekkfbpmloiabGreatDoorProg
import Derived.Sort.Grow
import Derived.Deep.Draws
import Derived.WalkLawsBesides
import Derived.BigQuiet
import Derived.Laws.BytesArg
import Derived.Deep.QuietTactic
import Derived.Deep.RegionHeld3
import Derived.Deep.LoopGhost
import Derived.WalkKit
import Derived.WalkSpells
import Derived.WalkSmall
import Derived.Lib.OthersKept
import Derived.Lib.Hide
import Derived.Lib.Strings
import Derived.Lib.Join
import Derived.Sort.OwnSorted
import Derived.RangeFuncNested
import Derived.RangeFuncBound
import Derived.RangeFuncCalls
import Derived.RangeFuncLeaves
import Derived.RangeFuncBox
import Derived.Shelf.Abstract
import Derived.Shelf.RegionOpen
import Derived.OwnWalkIn
import Derived.TacticsInMore
import Derived.LoopNIn
import Derived.LoopIn
import Derived.Maps.OwnIn
import Derived.Maps.AppendAt
import Derived.Sort.MapsRangeIn
import Derived.Sort.KeysCollected
import Derived.Laws.IdiomRangeMap
import Derived.StillTailTactics
import Derived.Deep.Slices
import Derived.OpenShut
import Derived.ShutString
import Derived.ChangeArms
import Derived.WideShapes
import Derived.Lib.LaidTab
import Derived.Maps.RangeWalk
import Derived.Maps.Ext
import Derived.Lib.SlMapFilter
import Derived.Laws.OwnMore
import Derived.BigRegion
import Derived.Deep.RegionWith
import Derived.OneCell
import Derived.Lib.SliceRun
import Derived.Lib.Overlaps
import Derived.Lib.AppendZerosOnto
import Derived.Laws.NewBlocks
import Derived.Laws.IdiomCopy
import Derived.Deep.RegionLaw
import Derived.ChangeVars
import Derived.Deep.DeepHandedRow
import Derived.LaidEql
import Derived.Stop.Asserts
import Derived.Below
import Derived.Stop.LaidErr
import Derived.Stop.LaidTwo
import Derived.Deep.Cut
import Derived.Deep.CutRange
import Derived.Deep.CutBlock
/- PartOK and splitPath of the program: what they leave, and that nothing drawn is given back. -/
namespace Go.Proofs.YtibekkfbpmloiabGreatDoor.Paths
open Go.RowKit

theorem ask_drawn {α : Type} (x : Ask α) (w : World) : w.drawn ≤ (w.ask x).2.drawn := by
  induction x generalizing w with
  | done a => exact Nat.le_refl _
  | ask what range k ih =>
    simp only [World.ask]
    split
    · exact ih _ _
    · exact Nat.le_trans (Nat.le_succ _) (ih _ { w with drawn := w.drawn + 1 })
theorem sys_drawn (w : World) (c : Sys) : w.drawn ≤ (w.sys c).2.drawn := by
  have h := ask_drawn (Kernel.perform c w.os) w
  unfold World.sys
  split
  · exact Nat.le_refl _
  · rename_i e
    rw [e] at h
    exact h
theorem bind_ok {ε α β : Type} {x : Except ε α} {f : α → Except ε β} {b : β} (h : (x >>= f) = .ok b) : ∃ a, f a = .ok b := by
  cases x with
  | error e => cases h
  | ok a => exact ⟨a, h⟩
theorem view_drawn {p : Program} {w : World} {a k : Addr} {u : TypeId} {v : Value} {at' : Bool} {r : World × List Addr} (h : w.viewStore p a u k v at' = .ok r) : r.1.drawn = w.drawn := by
  unfold World.viewStore at h
  repeat' (first | (obtain ⟨_, h⟩ := bind_ok h) | split at h | (change Except.error _ = _ at h; cases h) | dsimp only at h | (cases h; rfl))
theorem far_drawn {p : Program} {w : World} {a : Addr} {v : Value} {at' : Bool} {r : World × List Addr} (h : w.farStore p a v at' = .ok r) : r.1.drawn = w.drawn := by
  unfold World.farStore at h
  split at h
  · split at h
    · rename_i e
      cases h
      exact view_drawn e
    · cases h
  · cases h
theorem freeze_drawn (w : World) (a : Addr) (n : Nat) : (w.freeze a n).drawn = w.drawn := by
  unfold World.freeze
  split <;> rfl
/-- A run never gives back what it drew. -/
theorem run_drawn {α : Type} (p : Program) (e : Sem α) (w : World) : ∀ a w', e.run p w = .ok a w' → w.drawn ≤ w'.drawn := by
  induction e generalizing w with
  | pure a => intro b w' h; cases h; exact Nat.le_refl _
  | load m a k ih =>
    intro b w' h
    simp only [Sem.run] at h
    split at h
    · exact ih _ _ _ _ h
    · split at h
      · exact ih _ _ _ _ h
      · cases h
  | store m a v k ih =>
    intro b w' h
    cases v <;> simp only [Sem.run] at h <;> first
      | (cases h; done)
      | (split at h
         · split at h
           · cases h
           · have h2 := ih _ _ _ h
             exact h2
         · split at h
           · rename_i e
             have := far_drawn e
             have h2 := ih _ _ _ h
             simp only at this
             omega
           · cases h)
  | new o k ih => intro b w' h; have h2 := ih _ { w with heap := w.heap.push o } _ _ h; exact h2
  | shape r k ih => intro b w' h; exact ih _ _ _ _ h
  | freeze a n k ih =>
    intro b w' h
    have := ih (w.freeze a n) _ _ h
    rwa [freeze_drawn] at this
  | frozen a k ih => intro b w' h; exact ih _ _ _ _ h
  | getObj r k ih =>
    intro b w' h
    simp only [Sem.run] at h
    split at h
    · cases h
    · exact ih _ _ _ _ h
    · cases h
  | setObj r o k ih =>
    intro b w' h
    simp only [Sem.run] at h
    split at h
    · cases h
    · exact ih { w with heap := w.heap.setIfInBounds r o } _ _ h
    · cases h
  | choose q k ih =>
    intro b w' h
    simp only [Sem.run] at h
    split at h
    · exact ih _ _ _ _ h
    · exact Nat.le_trans (Nat.le_succ _) (ih _ { w with drawn := w.drawn + 1 } _ _ h)
  | sys c k ih =>
    intro b w' h
    exact Nat.le_trans (sys_drawn w c) (ih _ (w.sys c).2 _ _ h)
  | program k ih => intro b w' h; exact ih _ _ _ _ h
  | mark m k ih => intro b w' h; exact ih _ _ _ h
  | halt h => intro b w' h2; cases h2

/-- New memory only, and nothing drawn is given back. -/
structure Bel (B : Nat) (w w' : World) : Prop where
  b : Below B w w'
  d : w.drawn ≤ w'.drawn
theorem Bel.refl (B : Nat) (w : World) : Bel B w w := ⟨Below.refl _ _, Nat.le_refl _⟩
theorem Bel.trans {B : Nat} {a b c : World} (h : Bel B a b) (k : Bel B b c) : Bel B a c := ⟨h.b.trans k.b, Nat.le_trans h.d k.d⟩
theorem Bel.mono {B B' : Nat} {w w' : World} (h : Bel B w w') (hB : B' ≤ B) : Bel B' w w' := ⟨h.b.mono hB, h.d⟩
theorem Bel.alloc {B : Nat} {a w : World} (h : Bel B a w) (hB : B ≤ w.heap.size) (o : Obj) : Bel B a (w.alloc o) := ⟨h.b.alloc hB o, h.d⟩
theorem Bel.size {B : Nat} {a w : World} (h : Bel B a w) : a.heap.size ≤ w.heap.size := h.b.size
theorem Bel.grown {B : Nat} {a w w' : World} {row : Option Nat} (h : Bel B a w) (hg : w.grownBy w' row) (hd : w.drawn ≤ w'.drawn) (hB : B ≤ w.heap.size) (hr : ∀ k, row = some k → B ≤ k) : Bel B a w' :=
  ⟨h.b.grown hg hB hr, Nat.le_trans h.d hd⟩
theorem bel_iterAt {B : Nat} {a w : World} (h : Bel B a w) {k : Nat} (hk : B ≤ k) (s : ByteArray) (pos : Nat) : Bel B a (w.iterAt k s pos) := ⟨Lib.below_iterAt h.b hk s pos, h.d⟩
/-- The same, as the world grown by new blocks. -/
theorem Bel.world {w w' : World} (h : Bel w.heap.size w w') : ∃ q os, w' = Go.Sort.grow (w.drewN q) os := by
  refine ⟨w'.drawn - w.drawn, w'.heap.extract w.heap.size w'.heap.size, ?_⟩
  obtain ⟨⟨ho, ht, hou, hs, hb⟩, hd⟩ := h
  obtain ⟨h', t', d', o', u'⟩ := w'
  obtain ⟨h0, t0, d0, o0, u0⟩ := w
  simp only at ho ht hou hs hb hd
  subst ho ht hou
  have hd' : d0 + (d' - d0) = d' := by omega
  have hh : h' = h0 ++ h'.extract h0.size h'.size := by
    apply Array.ext_getElem?
    intro i
    by_cases hi : i < h0.size
    · rw [Array.getElem?_append_left hi]
      exact hb i hi
    · rw [Array.getElem?_append_right (by omega), Array.getElem?_extract]
      by_cases hi2 : i < h'.size
      · rw [if_pos (by omega)]
        congr 1
        omega
      · rw [if_neg (by omega)]
        exact Array.getElem?_eq_none (by omega)
  unfold Go.Sort.grow World.drewN
  simp only [World.mk.injEq, hd', and_true]
  exact hh
theorem wpList_append_bel {P : Program} (w : World) {ops : Array Oper} {rest : List Oper} {o : Oper} {a : Act} {Q : Exit → Act → World → Prop} (hgd : o.guard = none) (s x : Operand) (t : TypeId)
    (ho : o.op = .call { callee := .builtin .append, args := #[s, x], argTypes := #[t, t] })
    (base : Nat) (e : TypeId) (i : TypeInfo) (z : Value) (size bytes : Nat) (ht : P.underlying t = some (.slice e)) (hi : P.info? e = some i) (hz : i.zero = some z)
    (hsize : i.size = size) (hby : i.bytes = bytes) (hzs : z.cells.size = size) (hsz : 0 < size)
    (v : Value) (n : Nat) (xs : List Value) (hs : a.eval s = v) (hown : w.ownsRow base e size v n xs)
    (ad : Addr) (m c : Nat) (news : List Value) (hx : a.eval x = .slice (some ad) m c) (hl : news.length = m * size) (hnews : ∀ j u, news[j]? = some u → w.cell? (ad.add j) = some u) (h1 : ∀ u ∈ news, u.oneCell' = true)
    (h63 : n + m ≤ maxLen) (hbytes : (n + m) * bytes ≤ 140737488355328) (hbase : base ≤ w.heap.size)
    (h : ∀ v' w', w'.ownsRow base e size v' (n + m) (xs ++ news) → w.grownBy w' v.ownBlock → (v' = .slice none 0 0 ↔ v = .slice none 0 0 ∧ m = 0) → w.drawn ≤ w'.drawn → wpList P ops Q rest (a.put o.dst v') w') : wpList P ops Q (o :: rest) a w := by
  obtain ⟨v', w', hr, h2, h3, h4⟩ := run_append_own (P := P) w base t o.type e i z size bytes ht hi hz hsize hby hzs hsz v n xs hown ad m c news hl hnews h1 h63 hbytes hbase
  refine wpList_plain hgd fun K hK => ?_
  have hd := run_drawn P _ w _ _ hr
  unfold Oper.wp execOp
  simp only [ho, resolve, invoke, builtin, Sem.run_bind, Sem.run_pure, Result.andThen_ok, List.map_toArray, List.map_cons, List.map_nil, hs, hx, hr]
  exact hK _ _ (h v' w' h2 h3 h4 hd)

set_option maxHeartbeats 400000 in
theorem partOK_bel (s : ByteArray) (w : World) : Calls Tryz.prog 164 #[.string s] w fun e w' => e = .returned (.bool (partB s.data.toList)) ∧ Bel w.heap.size w w' := by
  by_cases h0 : 1 ≤ s.size ∧ s.size ≤ 8
  · have he := isEmpty_false h0.1
    have hd : decide ((8 : Int) < (s.size : Int)) = false := by simp; omega
    rcases Bool.eq_false_or_eq_true (s.toList == [46]) with h1 | h1
    · rw [partB_no_dot h1]
      go_enter Tryz.func164, Tryz.ntmps164
      go_wp2
      go_ret
      exact ⟨rfl, Bel.refl _ _⟩
    rcases Bool.eq_false_or_eq_true (s.toList == [46, 46]) with h2 | h2
    · rw [partB_no_dots h2]
      go_enter Tryz.func164, Tryz.ntmps164
      go_wp2
      go_ret
      exact ⟨rfl, Bel.refl _ _⟩
    rw [partB_yes h0 h1 h2]
    go_enter Tryz.func164, Tryz.ntmps164
    go_wp2
    go_loopw [] (fun wr => ∃ pos : Nat, wr.heap[w.heap.size]? = some (.stringIter s pos) ∧ Bel w.heap.size w wr ∧ Hid (partAll s.data.toList = partAll (s.data.toList.drop pos))) (fun wr => s.size - wr.iterPos w.heap.size)
    case atStart => exact ⟨0, World.iter_heap w s 0, (Bel.refl _ _).alloc (Nat.le_refl _) _, rfl⟩
    case round =>
      obtain ⟨pos, hit, hbw, HS⟩ := hrel
      have hpos0 := iterPos_of hit
      by_cases hp : pos < s.size
      · have hnx : ∀ ty, (Instr.next (.pointer (some ⟨w.heap.size, 0, none⟩)) true ty).run Tryz.prog wr = _ := fun ty => Lib.run_next_any_at wr w.heap.size s pos ty hit hp
        have hwd := width_pos s pos hp
        have hit2 := Lib.iterAt_heap wr w.heap.size s pos (pos + (Utf8.decode s pos).2) hit
        have hbw2 := bel_iterAt hbw (k := w.heap.size) (Nat.le_refl _) s (pos + (Utf8.decode s pos).2)
        obtain ⟨W1, hW1⟩ : ∃ W1, W1 = wr.iterAt w.heap.size s (pos + (Utf8.decode s pos).2) := ⟨_, rfl⟩
        rw [← hW1] at hnx hit2 hbw2
        clear hW1
        go_wp2
        · go_ret
          exact ⟨ret_bool (by rw [HS.out]; exact (part_stops s pos hp (by have h3 := ‹(_ ∨ _) ∨ _›; simp only [beq_iff_eq] at h3; omega)).symm), hbw2⟩
        · exact ⟨⟨_, hit2, hbw2, by show _ = _; rw [HS.out]; have h3 := ‹(_ ∧ _) ∧ _›; simp only [beq_eq_false_iff_ne] at h3; exact part_goes s pos hp h3.1.1 h3.1.2 h3.2⟩, by rw [hpos0, iterPos_of hit2]; omega⟩
        · go_ret
          exact ⟨ret_bool (by rw [HS.out]; exact (part_stops s pos hp (.inr (.inl ‹_›))).symm), hbw2⟩
        · go_ret
          exact ⟨ret_bool (by rw [HS.out]; exact (part_stops s pos hp (.inl ‹_›)).symm), hbw2⟩
      · have hnx : ∀ ty, (Instr.next (.pointer (some ⟨w.heap.size, 0, none⟩)) true ty).run Tryz.prog wr = _ := fun ty => Lib.run_next_end_at wr w.heap.size s pos ty hit hp
        have HE : Hid (partAll s.data.toList = true) := by show _ = _; rw [HS.out, drop_end s pos hp]; rfl
        go_wp2
        go_ret
        exact ⟨ret_bool HE.out.symm, hbw⟩
  · rw [partB_no_len h0]
    by_cases h1 : s.size = 0
    · have he := isEmpty_true h1
      go_enter Tryz.func164, Tryz.ntmps164
      go_wp2
      go_ret
      exact ⟨rfl, Bel.refl _ _⟩
    · have he := isEmpty_false (by omega : 0 < s.size)
      have hd : decide ((8 : Int) < (s.size : Int)) = true := by simp; omega
      go_enter Tryz.func164, Tryz.ntmps164
      go_wp2
      go_ret
      exact ⟨rfl, Bel.refl _ _⟩

def SplitBel (l : List UInt8) (w w' : World) (v : Value) : Prop :=
  Bel w.heap.size w w' ∧ w'.ownsRow w.heap.size 9 1 v (partsOf l).length ((partsOf l).map strV) ∧ (pathB l = false → v = .slice none 0 0) ∧ (pathB l = true → v ≠ .slice none 0 0)

theorem SplitBel.bad {l : List UInt8} {w w' : World} (h : pathB l = false) (hb : Bel w.heap.size w w') : SplitBel l w w' (.slice none 0 0) := by
  refine ⟨hb, ?_, fun _ => rfl, fun h2 => by rw [h] at h2; cases h2⟩
  simp [partsOf, h]
  exact World.ownsRow_nil _ _ _ _

theorem SplitBel.good {l : List UInt8} {P : List (List UInt8)} {R : ByteArray} {w w' : World} {v : Value} (h : cutAt 47 l = P ++ cutAt 47 R.data.toList) (hP : P.length < 4) (ha : P.all partB = true) (hB : partB R.data.toList = true)
    (hb : Bel w.heap.size w w') (hown : w'.ownsRow w.heap.size 9 1 v (P.length + 1) (P.map strV ++ [.string R])) (hn : v ≠ .slice none 0 0) : SplitBel l w w' v := by
  obtain ⟨h1, h2⟩ := pathB_good h hP ha hB
  refine ⟨hb, ?_, fun h3 => (by rw [h1] at h3; cases h3), fun _ => hn⟩
  unfold partsOf
  rw [if_pos h1, h2]
  simpa [strV_data] using hown

set_option maxRecDepth 100000 in
set_option maxHeartbeats 1000000 in
theorem splitPath_bel (s : ByteArray) (w : World) (hs : s.size ≤ maxLen) : Calls Tryz.prog 100 #[.string s] w fun e w' => ∃ v, e = .returned v ∧ SplitBel s.data.toList w w' v := by
  obtain ⟨i0, hi, hz0, hz1, hz2⟩ := info_parts strInfo
  unfold maxLen at hs
  go_enter Tryz.func100, Tryz.ntmps100
  go_wp2
  go_step3
  go_wp2
  go_step3
  go_wp2
  go_loopg [3, 4] 4 (fun g v r wr => ∃ (P : List (List UInt8)) (R : ByteArray), r = .string R ∧ P.length + g = 4 ∧ P.all partB = true ∧ Hid (cutAt 47 s.data.toList = P ++ cutAt 47 R.data.toList) ∧ wr.ownsRow w.heap.size 9 1 v P.length (P.map strV) ∧ Bel w.heap.size w wr ∧ R.size ≤ s.size)
  case atStart => exact ⟨[], s, rfl, rfl, rfl, rfl, World.ownsRow_nil _ _ _ _, Bel.refl _ _, Nat.le_refl _⟩
  case round =>
    obtain ⟨P, R, rfl, hP4, hPa, HC, hown, hbw, hRs⟩ := hrel
    obtain ⟨A, cap, rfl⟩ := own_form hown
    cases gk with
    | zero =>
      have hd : decide ((P.length : Int) < 4) = false := by simp; omega
      have HB : Hid (pathB s.data.toList = false) := pathB_many HC.out (by omega)
      go_wp2
      rw [Exit.noGoto_ret]
      go_ret
      exact ⟨_, rfl, SplitBel.bad HB.out hbw⟩
    | succ g =>
      have hd : decide ((P.length : Int) < 4) = true := by simp; omega
      generalize hwo : wr = wo at *
      clear hwo wr
      have hwl := hbw.size
      go_wp2
      go_loopw [3, 4] (fun v3 v4 wx => v3 = .slice A P.length cap ∧ v4 = .string R ∧ ∃ pos : Nat, wx.heap[wo.heap.size]? = some (.stringIter R pos) ∧ Bel w.heap.size w wx ∧ wx.ownsRow w.heap.size 9 1 (.slice A P.length cap) P.length (P.map strV) ∧ Seen R.data.toList pos ∧ Hid (A.map Addr.block ≠ some wo.heap.size)) (fun _ _ wx => R.size - wx.iterPos wo.heap.size)
      case atStart => exact ⟨rfl, rfl, 0, World.iter_heap wo R 0, hbw.alloc hbw.size _, hown.alloc _, Seen.zero _, fun h => by have := (hown.lt wo.heap.size (by cases A <;> simp_all [Value.ownBlock])).2; omega⟩
      case round =>
        obtain ⟨rfl, rfl, pos, hit, hbx, hownx, hseen, HA⟩ := hrel
        have hpos0 := iterPos_of hit
        by_cases hp : pos < R.size
        · have hnx : ∀ ty, (Instr.next (.pointer (some ⟨wo.heap.size, 0, none⟩)) true ty).run Tryz.prog wr = _ := fun ty => Lib.run_next_any_at wr wo.heap.size R pos ty hit hp
          have hwd := width_pos R pos hp
          have hit2 := Lib.iterAt_heap wr wo.heap.size R pos (pos + (Utf8.decode R pos).2) hit
          have hbw2 := bel_iterAt hbx (k := wo.heap.size) hwl R (pos + (Utf8.decode R pos).2)
          have hown2 : (wr.iterAt wo.heap.size R (pos + (Utf8.decode R pos).2)).ownsRow w.heap.size 9 1 (.slice A P.length cap) P.length (P.map strV) := own_iterAt hownx HA.out R _
          obtain ⟨W1, hW1⟩ : ∃ W1, W1 = wr.iterAt wo.heap.size R (pos + (Utf8.decode R pos).2) := ⟨_, rfl⟩
          rw [← hW1] at hnx hit2 hbw2 hown2
          clear hW1 hbw hown
          rcases Bool.eq_false_or_eq_true (((Utf8.decode R pos).1 : Int) != 47) with h47 | h47
          · have Hs := Lib.hid (hseen.next hp (by simpa using h47))
            clear hseen
            go_wp2
            go_roundw
            case rel => exact ⟨rfl, rfl, _, hit2, hbw2, hown2, Hs.out, HA⟩
            case measure => rw [hpos0, iterPos_of hit2]; omega
          · have H47 : Hid (((Utf8.decode R pos).1 : Int) = 47) := by show _ = _; simpa using h47
            rcases Bool.eq_false_or_eq_true (partB (R.data.toList.take pos)) with hB | hB
            · have HM := Lib.hid (split_more HC.out hp H47.out hB)
              have HB := Lib.hid hB
              clear hseen
              go_wp2_with fail
              refine (partOK_bel _ _).mono ?_
              rintro e w2 ⟨rfl, hb2⟩
              have hown3 := own_below hown2 hb2.b
              have hbw3 := hbw2.trans (hb2.mono hbw2.size)
              have hs3 := hbw3.size
              go_wp2_with (first
                | (at_builtin; refine wpList_append_bel _ rfl _ _ 32 rfl w.heap.size 9 i0 (.string ByteArray.empty) 1 16 Tryz.underlying32 hi hz0 hz1 hz2 rfl (by decide) _ _ _ rfl (hown3.alloc _) ⟨w2.heap.size, 0, none⟩ 1 1 [.string (R.extract 0 pos)] rfl rfl (cell_one_new _ _ _) (fun x hx => by simp at hx; subst hx; rfl) (by unfold maxLen; omega) (by omega) (by simp; omega) ?_; intro v' w3 hown' hgrow3 hnil3 hdr3))
              go_roundg g
              case measure => omega
              case rel =>
                refine ⟨P ++ [R.data.toList.take pos], _, rfl, by simp; omega, by simp [hPa, HB.out], HM.out, ?_, (hbw3.alloc hbw3.size _).grown hgrow3 hdr3 (by simp; omega) (fun q hq => (hown3.lt q hq).1), by simp; omega⟩
                simpa [strV_take] using hown'
            · have HB := Lib.hid (split_more_no HC.out hp hseen H47.out hB)
              clear hseen
              go_wp2_with fail
              refine (partOK_bel _ _).mono ?_
              rintro e w2 ⟨rfl, hb2⟩
              go_wp2
              rw [Exit.noGoto_ret]
              go_ret
              exact ⟨_, rfl, SplitBel.bad HB.out (hbw2.trans (hb2.mono hbw2.size))⟩
        · have hnx : ∀ ty, (Instr.next (.pointer (some ⟨wo.heap.size, 0, none⟩)) true ty).run Tryz.prog wr = _ := fun ty => Lib.run_next_end_at wr wo.heap.size R pos ty hit hp
          clear hbw hown
          rcases Bool.eq_false_or_eq_true (partB R.data.toList) with hB | hB
          · have HB := Lib.hid hB
            clear hseen
            go_wp2_with fail
            refine (partOK_bel _ _).mono ?_
            rintro e w2 ⟨rfl, hb2⟩
            have hown3 := own_below hownx hb2.b
            have hbw3 := hbx.trans (hb2.mono hbx.size)
            have hs3 := hbw3.size
            go_wp2_with (first
              | (at_builtin; refine wpList_append_bel _ rfl _ _ 32 rfl w.heap.size 9 i0 (.string ByteArray.empty) 1 16 Tryz.underlying32 hi hz0 hz1 hz2 rfl (by decide) _ _ _ rfl (hown3.alloc _) ⟨w2.heap.size, 0, none⟩ 1 1 [.string R] rfl rfl (cell_one_new _ _ _) (fun x hx => by simp at hx; subst hx; rfl) (by unfold maxLen; omega) (by omega) (by simp; omega) ?_; intro v' w3 hown' hgrow3 hnil3 hdr3))
            rw [Exit.noGoto_ret]
            go_ret
            exact ⟨_, rfl, SplitBel.good HC.out (by omega) hPa HB.out ((hbw3.alloc hbw3.size _).grown hgrow3 hdr3 (by simp; omega) (fun q hq => (hown3.lt q hq).1)) hown' (fun h => by have := (hnil3.1 h).2; omega)⟩
          · have HB := Lib.hid (split_end_no HC.out hp hseen hB)
            clear hseen
            go_wp2_with fail
            refine (partOK_bel _ _).mono ?_
            rintro e w2 ⟨rfl, hb2⟩
            go_wp2
            rw [Exit.noGoto_ret]
            go_ret
            exact ⟨_, rfl, SplitBel.bad HB.out (hbx.trans (hb2.mono hbx.size))⟩
end Go.Proofs.YtibekkfbpmloiabGreatDoor.Paths

/- The program's map of paths: its nodes in order, as a slice of its own (the library's sort by its contract, proved once over any program). -/
namespace Go.Proofs.YtibekkfbpmloiabGreatDoor.Recs
set_option maxRecDepth 100000
open Go.RowKit Paths Go.Shelf

def cmpR (x y : R) : Int := cmpP (partsOf x.p.data.toList) (partsOf y.p.data.toList)
theorem item_second (w : World) (x y : R) : Item ((w.alloc (.cells #[.int .i64 x.k, .string x.p, .string x.b, .int .i64 x.m] 68)).alloc (.cells #[.int .i64 y.k, .string y.p, .string y.b, .int .i64 y.m] 68)) (w.heap.size + 1) y := by
  have h := Item.new (w.alloc (.cells #[.int .i64 x.k, .string x.p, .string x.b, .int .i64 x.m] 68)) y
  have e : (w.alloc (.cells #[.int .i64 x.k, .string x.p, .string x.b, .int .i64 x.m] 68)).heap.size = w.heap.size + 1 := by simp
  rw [e] at h
  exact h

set_option maxHeartbeats 2000000 in
/-- The comparison that the program hands to the sort. -/
theorem treeCmp_any (x y : R) (w : World) (hx : pathB x.p.data.toList = true) (hy : pathB y.p.data.toList = true) :
    Calls Tryz.prog 197 #[x.nod, y.nod] w fun e w' => e = .returned (.int .i64 (cmpR x y)) ∧ Bel w.heap.size w w' := by
  have lx := (pathB_parts hx).1
  have ly := (pathB_parts hy).1
  rw [← partsOf_yes hx] at lx
  rw [← partsOf_yes hy] at ly
  have hxs : x.p.size ≤ maxLen := by have h : x.p.size ≤ 35 := (by rw [Lib.size_eq]; exact pathB_len hx); unfold maxLen; omega
  have hys : y.p.size ≤ maxLen := by have h : y.p.size ≤ 35 := (by rw [Lib.size_eq]; exact pathB_len hy); unfold maxLen; omega
  clear hx hy
  unfold R.nod
  have b2 : Bel w.heap.size w ((w.alloc (.cells #[.int .i64 x.k, .string x.p, .string x.b, .int .i64 x.m] 68)).alloc (.cells #[.int .i64 y.k, .string y.p, .string y.b, .int .i64 y.m] 68)) := ((Bel.refl _ _).alloc (Nat.le_refl _) _).alloc (by simp) _
  have i1 : Item ((w.alloc (.cells #[.int .i64 x.k, .string x.p, .string x.b, .int .i64 x.m] 68)).alloc (.cells #[.int .i64 y.k, .string y.p, .string y.b, .int .i64 y.m] 68)) w.heap.size x := (Item.new w x).below ((Below.refl _ _).alloc (Nat.le_refl _) _)
  have i2 := item_second w x y
  go_enter Tryz.func197, Tryz.ntmps197
  go_wp2_with fail
  generalize (w.alloc (.cells #[.int .i64 x.k, .string x.p, .string x.b, .int .i64 x.m] 68)).alloc (.cells #[.int .i64 y.k, .string y.p, .string y.b, .int .i64 y.m] 68) = W at *
  have hl1 := i1.lt
  have hl2 := i2.lt
  obtain ⟨_, d1, _, _⟩ := i1.nod
  obtain ⟨_, e1, _, _⟩ := i2.nod
  simp only [Nat.zero_add] at d1 e1
  have HKS : Hid (∀ W', Bel W.heap.size W W' → W'.cell? ⟨w.heap.size, 1, none⟩ = some (.string x.p) ∧ W'.cell? ⟨w.heap.size + 1, 1, none⟩ = some (.string y.p)) := fun W' hb =>
    ⟨(hb.b.cell (p := ⟨w.heap.size, 1, none⟩) hl1).trans d1, (hb.b.cell (p := ⟨w.heap.size + 1, 1, none⟩) hl2).trans e1⟩
  have hbd : Bel W.heap.size W W.drew := ⟨(Below.refl _ _).drew, Nat.le_succ _⟩
  clear i1 i2
  go_region_held3 (fun W' => W'.cell? ⟨w.heap.size, 1, none⟩ = some (.string x.p) ∧ W'.cell? ⟨w.heap.size + 1, 1, none⟩ = some (.string y.p)) (first | exact HKS.out _ c4 | exact HKS.out _ c3 | exact HKS.out _ hbd | go_keep) (first
    | (go_at_call 100; have c0 := c3; refine (splitPath_bel _ _ hys).mono ?_; rintro e w4 ⟨v2, rfl, hp2⟩; have HP2 := Lib.hid hp2; have c4 := c0.trans (hp2.1.mono c0.size); clear hp2)
    | (go_at_call 100; refine (splitPath_bel _ _ hxs).mono ?_; rintro e w3 ⟨v1, rfl, hp1⟩; have HP1 := Lib.hid hp1; have c3 := hbd.trans (hp1.1.mono hbd.size); clear hp1)
    | (go_at_call 101; refine (slicesCompare_any _ _ _ _ _ (Strs.own (own_below HP1.out.2.1 HP2.out.1.b)) (Strs.own HP2.out.2.1) (by omega) (by omega)).mono ?_; rintro e w5 ⟨rfl, rfl⟩))
  go_wp2_with fail
  go_ret
  exact ⟨rfl, b2.trans (c4.mono b2.size)⟩
end Go.Proofs.YtibekkfbpmloiabGreatDoor.Recs
