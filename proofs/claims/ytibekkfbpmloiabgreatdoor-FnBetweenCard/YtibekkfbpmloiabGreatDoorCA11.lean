/- Parts of several texts of mine in one file (each begins with its own remark). -/
import Derived.Test.YtibekkfbpmloiabGreatDoorCA1
import Derived.Test.YtibekkfbpmloiabGreatDoorCA10
import Derived.Test.YtibekkfbpmloiabGreatDoorCA2
import Derived.Test.YtibekkfbpmloiabGreatDoorCA3
import Derived.Test.YtibekkfbpmloiabGreatDoorCA4
import Derived.Test.YtibekkfbpmloiabGreatDoorCA5
import Derived.Test.YtibekkfbpmloiabGreatDoorCA6
import Derived.Test.YtibekkfbpmloiabGreatDoorCA7
import Derived.Test.YtibekkfbpmloiabGreatDoorCA8
import Derived.Test.YtibekkfbpmloiabGreatDoorCA9
import Derived.Test.YtibekkfbpmloiabGreatDoorChecked
import Derived.Test.YtibekkfbpmloiabGreatDoorRows
import Derived.Test.YtibekkfbpmloiabGreatDoorProg
import Derived.Test.YtibekkfbpmloiabGreatDoorShelf
import Derived.Deep.Cut
import Derived.Deep.CutRange
import Derived.Deep.CutBlock
import Derived.Deep.RegionHeld3
import Derived.StillTailTactics
import Derived.Deep.RegionWith
import Derived.OneCell
import Derived.Lib.SliceRun
import Derived.Laws.OwnMore
import Derived.Deep.Slices
import Derived.OpenShut
import Derived.ShutString
import Derived.ChangeArms
import Derived.WideShapes
import Derived.Lib.LaidTab
import Derived.BigQuiet
import Derived.Deep.QuietTactic
import Derived.Deep.Draws
import Derived.Deep.LoopGhost
import Derived.WalkKit
import Derived.WalkSpells
import Derived.WalkSmall
import Derived.Lib.OthersKept
import Derived.Lib.Hide
import Derived.Lib.Strings
import Derived.Lib.Join
import Derived.Laws.BytesArg
import Derived.BigRegion
import Derived.Lib.Overlaps
import Derived.Lib.AppendZerosOnto
import Derived.Laws.NewBlocks
import Derived.Laws.IdiomCopy
import Derived.Deep.RegionLaw
import Derived.ChangeVars
import Derived.Deep.DeepHandedRow
import Derived.LaidEql
import Derived.Stop.Asserts
import Derived.Below
import Derived.Stop.LaidErr
import Derived.Stop.LaidTwo
import Derived.WalkLawsBesides
/- Trees: a node put into its place, of the model. -/
namespace Go.Proofs.YtibekkfbpmloiabGreatDoor.Recs
set_option maxRecDepth 100000
open Go.RowKit Paths

theorem step_append_own {P : Program} (w : World) {ops : Array Oper} {o : Oper} {a : Act} {K : Act → World → Prop} {Q : Exit → Act → World → Prop} {E : Prop} (hgd : o.guard = none) (s x : Operand) (t : TypeId)
    (ho : o.op = .call { callee := .builtin .append, args := #[s, x], argTypes := #[t, t] })
    (base : Nat) (e : TypeId) (i : TypeInfo) (z : Value) (size bytes : Nat) (ht : P.underlying t = some (.slice e)) (hi : P.info? e = some i) (hz : i.zero = some z)
    (hsize : i.size = size) (hby : i.bytes = bytes) (hzs : z.cells.size = size) (hsz : 0 < size)
    (v : Value) (n : Nat) (xs : List Value) (hs : a.eval s = v) (hown : w.ownsRow base e size v n xs)
    (ad : Addr) (m c : Nat) (news : List Value) (hx : a.eval x = .slice (some ad) m c) (hl : news.length = m * size) (hnews : ∀ j u, news[j]? = some u → w.cell? (ad.add j) = some u) (h1 : ∀ u ∈ news, u.oneCell' = true)
    (h63 : n + m ≤ maxLen) (hbytes : (n + m) * bytes ≤ 140737488355328) (hbase : base ≤ w.heap.size)
    (h : ∀ v' w', w'.ownsRow base e size v' (n + m) (xs ++ news) → w.grownBy w' v.ownBlock → (v' = .slice none 0 0 ↔ v = .slice none 0 0 ∧ m = 0) → K (a.put o.dst v') w') :
    if Region.wanted o (yielded ops a.tmps) = true then Oper.wp P o a w K Q else E := by
  have hw : Region.wanted o (yielded ops a.tmps) = true := by simp [Region.wanted, hgd]
  rw [if_pos hw]
  exact wp_append_own w s x t ho base e i z size bytes ht hi hz hsize hby hzs hsz v n xs hs hown ad m c news hx hl hnews h1 h63 hbytes hbase h

/-- A block that holds one node. -/
def Item (w : World) (g : Nat) (n : R) : Prop := w.heap[g]? = some (.cells #[.int .i64 n.k, .string n.p, .string n.b, .int .i64 n.m] 68 (0, 0))
theorem Item.new (w : World) (n : R) : Item (w.alloc (.cells #[.int .i64 n.k, .string n.p, .string n.b, .int .i64 n.m] 68)) w.heap.size n := alloc_at w _
theorem Item.lt {w : World} {g : Nat} {n : R} (h : Item w g n) : g < w.heap.size := (Array.getElem?_eq_some_iff.1 h).1
theorem Item.below {w w' : World} {g : Nat} {n : R} (h : Item w g n) (hb : Below w.heap.size w w') : Item w' g n := (hb.block _ h.lt).trans h
theorem Item.grown {w w' : World} {g : Nat} {n : R} {row : Option Nat} (h : Item w g n) (hg : w.grownBy w' row) (hne : row ≠ some g) : Item w' g n := (hg.block g h.lt (fun e => hne e.symm)).trans h
theorem Item.cells {w : World} {g : Nat} {n : R} (h : Item w g n) : ∀ j u, n.ns[j]? = some u → w.cell? ((⟨g, 0, none⟩ : Addr).add j) = some u := by
  intro j u hj
  rw [Addr.add_lit, Nat.zero_add]
  unfold World.cell?
  unfold Item at h
  simp only [h]
  match j, hj with
  | 0, hj => cases hj; rfl
  | 1, hj => cases hj; rfl
  | 2, hj => cases hj; rfl
  | 3, hj => cases hj; rfl
  | j + 4, hj => simp [R.ns] at hj
theorem Item.nod {w : World} {g : Nat} {n : R} (h : Item w g n) : NodCells w g 0 n := ⟨h.cells 0 _ rfl, h.cells 1 _ rfl, h.cells 2 _ rfl, h.cells 3 _ rfl⟩
/-- What lies behind the place. -/
def restAt (l : List R) (n : R) : Nat := if (l[placeOf l n]?).any (fun x => decide (x.p = n.p)) then placeOf l n + 1 else placeOf l n
theorem put_rest {l : List R} (h : Sorted l) (n : R) : putL l n = l.take (placeOf l n) ++ [n] ++ l.drop (restAt l n) := by
  rw [put_is h]
  unfold restAt
  split <;> simp
theorem rest_le (l : List R) (n : R) : restAt l n ≤ l.length := by
  unfold restAt
  split
  · rename_i h
    cases hg : l[placeOf l n]? with
    | none => rw [hg] at h; cases h
    | some x => exact (List.getElem?_eq_some_iff.1 hg).1
  · exact place_le l n
theorem flat_put {w : World} {base : Nat} {v : Value} {l : List R} {n : R} {m : Nat} (h : w.ownsRow base 68 4 v m (flatN (l.take (placeOf l n)) ++ n.ns ++ flatN (l.drop (restAt l n)))) (hs : Sorted l) (hm : m = (putL l n).length) (hl : ∀ r ∈ l, r.o = false) (hn : n.o = false) :
    RowN w base v (putL l n).length (putL l n) := by
  subst hm
  refine ⟨rfl, ?_, fun x hx => ?_⟩
  · have e : flatN (putL l n) = flatN (l.take (placeOf l n)) ++ n.ns ++ flatN (l.drop (restAt l n)) := by
      rw [put_rest hs, flatN_append, flatN_snoc]
    rw [e]
    exact h
  · rcases mem_put.1 hx with rfl | ⟨h1, _⟩
    · exact hn
    · exact hl x h1
theorem put_count {l : List R} (h : Sorted l) (n : R) : (putL l n).length = placeOf l n + 1 + (l.length - restAt l n) := by
  have := place_le l n
  rw [put_rest h, List.length_append, List.length_append, List.length_take, List.length_drop]
  simp
  omega

set_option maxHeartbeats 6400000 in
theorem l04Put_any (v : Value) (l : List R) (n : R) (base : Nat) (w : World) (h : RowN w base v l.length l) (hv : v ≠ .slice none 0 0) (hs : Sorted l) (hp : ∀ r ∈ l, r.p.size ≤ 35) (hn : n.p.size ≤ 35) (hno : n.o = false) (hl : l.length ≤ 1000) :
    Calls Tryz.prog 183 #[v, n.nod] w fun e w' => ∃ x, e = .returned x ∧ Below w.heap.size w w' ∧ RowN w' w.heap.size x (putL l n).length (putL l n) ∧ x ≠ .slice none 0 0 := by
  obtain ⟨i0, hi, hI0, hI1, hI2⟩ := info_parts nodInfo
  obtain ⟨g, cap, rfl, hcap, hcm, hgb, hgl⟩ := notnil h hv
  have hbW : Below w.heap.size w (w.alloc (.cells #[.int .i64 n.k, .string n.p, .string n.b, .int .i64 n.m] 68)) := (Below.refl _ _).alloc (Nat.le_refl _) _
  have hIt : Item (w.alloc (.cells #[.int .i64 n.k, .string n.p, .string n.b, .int .i64 n.m] 68)) w.heap.size n := Item.new w n
  have hrW := h.below hbW
  have HRET : Hid (∀ x w', Below (w.alloc (.cells #[.int .i64 n.k, .string n.p, .string n.b, .int .i64 n.m] 68)).heap.size (w.alloc (.cells #[.int .i64 n.k, .string n.p, .string n.b, .int .i64 n.m] 68)) w' → w'.ownsRow (w.alloc (.cells #[.int .i64 n.k, .string n.p, .string n.b, .int .i64 n.m] 68)).heap.size 68 4 x (placeOf l n + 1 + (l.length - restAt l n)) (flatN (l.take (placeOf l n)) ++ n.ns ++ flatN (l.drop (restAt l n))) → x ≠ .slice none 0 0 →
      ∃ x', Ending.returned x = .returned x' ∧ Below w.heap.size w w' ∧ RowN w' w.heap.size x' (putL l n).length (putL l n) ∧ x' ≠ .slice none 0 0) := fun x w' hb ho hx =>
    ⟨x, rfl, hbW.trans (hb.mono hbW.size), (fun hr : RowN w' _ x _ (putL l n) => ⟨hr.1, own_down hr.2.1 hbW.size, hr.2.2⟩) (flat_put ho hs (put_count hs n).symm h.2.2 hno), hx⟩
  have hpl := place_le l n
  have hrl := rest_le l n
  have HPL : Hid (∀ k, k < placeOf l n → ∃ h : k < l.length, lessR l[k] n = true) := fun k hk => place_less hk
  have HPS : Hid (∀ h : placeOf l n < l.length, lessR l[placeOf l n] n = false) := fun h => place_stop h
  have HRE : Hid (restAt l n = if (l[placeOf l n]?).any (fun x => decide (x.p = n.p)) then placeOf l n + 1 else placeOf l n) := rfl
  have HL1 : Hid ((flatN (l.take (placeOf l n))).length = placeOf l n * 4) := by show _ = _; rw [flatN_len, List.length_take]; congr 1; omega
  have HL2 : Hid ((flatN (l.drop (restAt l n))).length = (l.length - restAt l n) * 4) := by show _ = _; rw [flatN_len, List.length_drop]
  have HP := Lib.hid hp
  have hgw : g ≠ w.heap.size := by omega
  have hzW : (w.alloc (.cells #[.int .i64 n.k, .string n.p, .string n.b, .int .i64 n.m] 68)).heap.size = w.heap.size + 1 := by simp
  have hgW : g < (w.alloc (.cells #[.int .i64 n.k, .string n.p, .string n.b, .int .i64 n.m] 68)).heap.size := by omega
  have hwW : w.heap.size < (w.alloc (.cells #[.int .i64 n.k, .string n.p, .string n.b, .int .i64 n.m] 68)).heap.size := by omega
  have HRW := Lib.hid hrW
  have HIT := Lib.hid hIt
  unfold R.nod
  unfold maxLen at hcm
  clear h hv hrW hIt hbW hs hp
  go_enter Tryz.func183, Tryz.ntmps183
  go_upto_block 0 with (fail)
  generalize hWW : w.alloc (.cells #[.int .i64 n.k, .string n.p, .string n.b, .int .i64 n.m] 68) = W at *
  generalize hQ : placeOf l n = Q at *
  clear hWW hzW
  go_cut [5] from 7 (fun i wx => i = .int .i64 (Q : Int) ∧ Hid (Below W.heap.size W wx))
  case first =>
    go_wp2_with fail
    go_loopw [5] (fun i wr => ∃ k : Nat, k ≤ Q ∧ i = .int .i64 k ∧ Below W.heap.size W wr) (fun i _ => Q - (intOf i).toNat)
    case atStart => exact ⟨0, by omega, rfl, Below.refl _ _⟩
    case round =>
      obtain ⟨k, hk, rfl, hbw⟩ := hrel
      have hgr : g < wr.heap.size := Nat.lt_of_lt_of_le hgW hbw.size
      have hwr : w.heap.size < wr.heap.size := Nat.lt_of_lt_of_le hwW hbw.size
      have hrowr := HRW.out.below hbw
      obtain ⟨m0, m1, m2, m3⟩ := (HIT.out.below hbw).nod
      have hi0 : (0 : Int) ≤ (k : Int) := by omega
      by_cases hlt : k < Q
      · obtain ⟨hkl, hless⟩ := HPL.out k hlt
        obtain ⟨_, p1, _, _⟩ := hrowr.cells hkl
        have hs1 := HP.out _ (List.getElem_mem hkl)
        have HLE := fun w' => l01Less_any l[k].p n.p w' (by omega) (by omega)
        have hls : lessP (cutAt 47 l[k].p.data.toList) (cutAt 47 n.p.data.toList) = true := hless
        rw [hls] at HLE
        have hi1 : (k : Int) < (l.length : Int) := by omega
        clear hless hls
        go_wp2
        go_region_held3 (fun w' => w'.cell? ⟨g, k * 4 + 1, none⟩ = some (.string l[k].p) ∧ w'.cell? ⟨w.heap.size, 1, none⟩ = some (.string n.p)) (first | exact ⟨p1, m1⟩ | exact ⟨(hb1.cell (p := ⟨g, k * 4 + 1, none⟩) hgr).trans p1, (hb1.cell (p := ⟨w.heap.size, 1, none⟩) hwr).trans m1⟩ | go_keep) (first | (go_at_call 76; refine (HLE _).mono ?_; rintro e w1 ⟨rfl, hb1⟩))
        go_wp2_with fail
        exact ⟨⟨k + 1, by omega, by go_num, hbw.drew.trans (hb1.mono hbw.size)⟩, by simp [intOf]; omega⟩
      · obtain rfl : k = Q := by omega
        by_cases hkl : k < l.length
        · have hless := HPS.out hkl
          obtain ⟨_, p1, _, _⟩ := hrowr.cells hkl
          have hs1 := HP.out _ (List.getElem_mem hkl)
          have HLE := fun w' => l01Less_any l[k].p n.p w' (by omega) (by omega)
          have hls : lessP (cutAt 47 l[k].p.data.toList) (cutAt 47 n.p.data.toList) = false := hless
          rw [hls] at HLE
          have hi1 : (k : Int) < (l.length : Int) := by omega
          have hic : (k : Int) ≤ (cap : Int) := by omega
          have HGE : Hid (l[k]? = some l[k]) := List.getElem?_eq_getElem hkl
          clear hless hls
          go_wp2
          go_region_held3 (fun w' => w'.cell? ⟨g, k * 4 + 1, none⟩ = some (.string l[k].p) ∧ w'.cell? ⟨w.heap.size, 1, none⟩ = some (.string n.p)) (first | exact ⟨p1, m1⟩ | exact ⟨(hb1.cell (p := ⟨g, k * 4 + 1, none⟩) hgr).trans p1, (hb1.cell (p := ⟨w.heap.size, 1, none⟩) hwr).trans m1⟩ | go_keep) (first | (go_at_call 76; refine (HLE _).mono ?_; rintro e w1 ⟨rfl, hb1⟩))
          have hbw1 : Below W.heap.size W w1 := hbw.drew.trans (hb1.mono hbw.size)
          go_wp2_with fail
          go_meet
          exact ⟨rfl, hbw1⟩
        · have hi1 : ¬ ((k : Int) < (l.length : Int)) := by omega
          have hd1 : decide ((k : Int) < (l.length : Int)) = false := by simp; omega
          go_wp2
          go_quiet (fail)
          go_wp2_with fail
          go_meet
          exact ⟨rfl, below_drewN hbw nq⟩
  case rest =>
    obtain ⟨rfl, HB1⟩ := hcut
    generalize hwq : wc = wa at *
    clear hwq
    go_upto_region 4 with (fail)
    go_cut [6] from 23 (fun s wx => ∃ ad c, s = .slice (some ad) (l.length - Q) c ∧ Hid (∀ W2, Below W.heap.size W W2 → ∀ j u, (flatN (l.drop Q))[j]? = some u → W2.cell? (ad.add j) = some u) ∧ Hid (Below W.heap.size W wx))
    case first =>
      have hic : (Q : Int) ≤ (cap : Int) := by omega
      have hi0 : (0 : Int) ≤ (Q : Int) := by omega
      by_cases hcc : cap = Q
      · have hll : Q = l.length := by omega
        have hcc2 := hcc.symm
        have HNO : Hid (∀ W2, Below W.heap.size W W2 → ∀ j u, (flatN (l.drop Q))[j]? = some u → W2.cell? ((⟨g, 0, none⟩ : Addr).add j) = some u) := fun W2 _ j u hj => by rw [List.drop_eq_nil_of_le (by omega)] at hj; simp [flatN] at hj
        have HZ0 : Hid (l.length - Q = 0) := by show _ = _; omega
        clear hcc hll
        subst hcc2
        go_wp2_with fail
        go_meet
        exact ⟨_, _, by rw [HZ0.out], HNO.out, HB1.out⟩
      · go_wp2_with fail
        go_meet
        exact ⟨_, _, rfl, fun W2 hW2 => src_cells (HRW.out.below hW2) Q _ (.inl rfl), HB1.out⟩
    case rest =>
      obtain ⟨ad6, c6, rfl, HC6, HB2⟩ := hcut
      generalize hwq : wc = wb at *
      clear hwq
      go_upto_region 5 with (fail)
      go_cut [39] from 26 (fun s wx => ∃ b : Bool, s = .bool b ∧ Hid (b = true → Q < l.length ∧ restAt l n = Q + 1) ∧ Hid (b = false → restAt l n = Q) ∧ Hid (Below W.heap.size W wx))
      case first =>
        have hi0 : (0 : Int) ≤ (Q : Int) := by omega
        by_cases hkl : Q < l.length
        · obtain ⟨_, p1, _, _⟩ := (HRW.out.below HB2.out).cells hkl
          obtain ⟨m0, m1, m2, m3⟩ := (HIT.out.below HB2.out).nod
          have HGE : Hid (l[Q]? = some l[Q]) := List.getElem?_eq_getElem hkl
          have hi1 : (Q : Int) < (l.length : Int) := by omega
          by_cases heq : l[Q].p = n.p
          · have HR : Hid (restAt l n = Q + 1) := by show _ = _; rw [HRE.out, HGE.out]; simp [heq]
            have hd : (l[Q].p.toList == n.p.toList) = true := by rw [heq]; simp
            clear heq
            go_wp2
            go_quiet (fail)
            go_wp2_with fail
            go_meet
            exact ⟨true, rfl, fun _ => ⟨hkl, HR.out⟩, fun h => (by cases h), below_drewN HB2.out nq⟩
          · have HR : Hid (restAt l n = Q) := by show _ = _; rw [HRE.out, HGE.out]; simp [heq]
            have hd : (l[Q].p.toList == n.p.toList) = false := by rw [Bool.eq_false_iff]; exact fun e => heq (str_eq_of e)
            clear heq
            go_wp2
            go_quiet (fail)
            go_wp2_with fail
            go_meet
            exact ⟨false, rfl, fun h => (by cases h), fun _ => HR.out, below_drewN HB2.out nq⟩
        · have HR : Hid (restAt l n = Q) := by show _ = _; rw [HRE.out, List.getElem?_eq_none (by omega)]; rfl
          have hi1 : ¬ ((Q : Int) < (l.length : Int)) := by omega
          have hd1 : decide ((Q : Int) < (l.length : Int)) = false := by simp; omega
          go_wp2
          go_quiet (fail)
          go_wp2_with fail
          go_meet
          exact ⟨false, rfl, fun h => (by cases h), fun _ => HR.out, below_drewN HB2.out nq⟩
      case rest =>
        obtain ⟨b, rfl, HBT, HBF, HB3⟩ := hcut
        generalize hwq : wc = wd at *
        clear hwq
        go_upto_if 39 with (fail)
        go_cut [6] from 40 (fun s wx => ∃ ad c, s = .slice (some ad) (l.length - restAt l n) c ∧ Hid (∀ W2, Below W.heap.size W W2 → ∀ j u, (flatN (l.drop (restAt l n)))[j]? = some u → W2.cell? (ad.add j) = some u) ∧ Hid (Below W.heap.size W wx))
        case first =>
          cases b with
          | false =>
            have hR := Lib.hid (HBF.out rfl)
            go_wp2_with fail
            go_meet
            exact ⟨_, _, by rw [hR.out], by rw [hR.out]; exact HC6.out, HB3.out⟩
          | true =>
            obtain ⟨hkl, hR⟩ := HBT.out rfl
            have HRQ := Lib.hid hR
            have hi2 : (Q : Int) + 1 ≤ (l.length : Int) := by omega
            have hi3 : (0 : Int) ≤ (Q : Int) + 1 := by omega
            have hi4 : (Q : Int) + 1 ≤ (cap : Int) := by omega
            clear hR
            by_cases hcc : cap = Q + 1
            · have hll : l.length = Q + 1 := by omega
              have HNO : Hid (∀ W2, Below W.heap.size W W2 → ∀ j u, (flatN (l.drop (restAt l n)))[j]? = some u → W2.cell? ((⟨g, 0, none⟩ : Addr).add j) = some u) := fun W2 _ j u hj => by rw [HRQ.out, List.drop_eq_nil_of_le (by omega)] at hj; simp [flatN] at hj
              have hkk : (Q : Int) ≤ (Q : Int) + 1 := by omega
              have HZ1 : Hid (l.length - restAt l n = 0) := by show _ = _; rw [HRQ.out]; omega
              clear hll
              subst hcc
              go_wp2_with fail
              go_meet
              exact ⟨_, _, by rw [HZ1.out], HNO.out, HB3.out⟩
            · go_wp2_with fail
              go_meet
              exact ⟨_, _, by rw [HRQ.out], fun W2 hW2 => by rw [HRQ.out]; exact src_cells (HRW.out.below hW2) (Q + 1) _ (.inl rfl), HB3.out⟩
        case rest =>
          obtain ⟨ad7, c7, rfl, HC7, HB4⟩ := hcut
          generalize hwq : wc = w2 at *
          clear hwq HC6 HBT HBF
          have hic : (Q : Int) ≤ (cap : Int) := by omega
          have hi0 : (0 : Int) ≤ (Q : Int) := by omega
          have hbw2 := HB4.out
          generalize hRR : restAt l n = RR at *
          clear hRR
          go_wp2
          have HKS : Hid (∀ w', Below W.heap.size W w' → NodCells w' w.heap.size 0 n) := fun w' hb => (HIT.out.below hb).nod
          have HZ : Hid (Below W.heap.size W w2.drew) := hbw2.drew
          refine wp_region_held_drew (S := fun w' => NodCells w' w.heap.size 0 n) (by kernel_rfl) (HKS.out _ HZ.out) (fun hHeld => ?_)
          refine wpAnyH_take (i := 1) (oi := { dst := some 45, op := Go.Op.move (Go.Operand.tmp 0), type := 23, pos := "l04_trees.go:135", after := #[], guard := none }) (v := ?vb1) rfl (by kernel_rfl) (by kernel_rfl) (by kernel_rfl) (fun _ _ _ h => h) (Or.inl ⟨by rfl, ?yb1⟩) hHeld ?zb1
          case yb1 =>
            intro w hSw
            (try dsimp only at hSw)
            go_simp
            try with_reducible rfl
          simp only [Act.put, List.setIfInBounds_toArray, List.set_cons_zero, List.set_cons_succ]
          refine wpAnyH_take (i := 2) (oi := { dst := some 46, op := Go.Op.move (Go.Operand.tmp 5), type := 3, pos := "l04_trees.go:135", after := #[], guard := none }) (v := ?vb2) rfl (by kernel_rfl) (by kernel_rfl) (by kernel_rfl) (fun _ _ _ h => h) (Or.inl ⟨by rfl, ?yb2⟩) hHeld ?zb2
          case yb2 =>
            intro w hSw
            (try dsimp only at hSw)
            go_simp
            try with_reducible rfl
          simp only [Act.put, List.setIfInBounds_toArray, List.set_cons_zero, List.set_cons_succ]
          refine wpAnyH_take (i := 3) (oi := { dst := some 47, op := Go.Op.slice 23 (Go.Operand.tmp 45) none (some (Go.Operand.tmp 46)) none, type := 23, pos := "l04_trees.go:135", after := #[{ on := 1, ground := Go.Ground.data }, { on := 2, ground := Go.Ground.data }], guard := none }) (v := ?vb3) rfl (by kernel_rfl) (by kernel_rfl) (by kernel_rfl) (fun _ _ _ h => h) (Or.inl ⟨by rfl, ?yb3⟩) hHeld ?zb3
          case yb3 =>
            intro w hSw
            (try dsimp only at hSw)
            go_simp
            try with_reducible rfl
          simp only [Act.put, List.setIfInBounds_toArray, List.set_cons_zero, List.set_cons_succ]
          refine wpAnyH_take (i := 5) (oi := { dst := some 49, op := Go.Op.load 68 (Go.Operand.tmp 3), type := 68, pos := "l04_trees.go:135", after := #[], guard := none }) (v := ?vb5) rfl (by kernel_rfl) (by kernel_rfl) (by kernel_rfl) (fun _ _ _ h => h) (Or.inl ⟨by rfl, ?yb5⟩) hHeld ?zb5
          case yb5 =>
            intro w hSw
            obtain ⟨q0, q1, q2, q3⟩ := hSw
            go_simp
            try with_reducible rfl
          simp only [Act.put, List.setIfInBounds_toArray, List.set_cons_zero, List.set_cons_succ]
          refine wpAnyH_take (i := 8) (oi := { dst := some 52, op := Go.Op.move (Go.Operand.tmp 6), type := 23, pos := "l04_trees.go:135", after := #[], guard := none }) (v := ?vb8) rfl (by kernel_rfl) (by kernel_rfl) (by kernel_rfl) (fun _ _ _ h => h) (Or.inl ⟨by rfl, ?yb8⟩) hHeld ?zb8
          case yb8 =>
            intro w hSw
            (try dsimp only at hSw)
            go_simp
            try with_reducible rfl
          simp only [Act.put, List.setIfInBounds_toArray, List.set_cons_zero, List.set_cons_succ]
          generalize w2.drew = u0 at *
          refine wpAnyH_ready (rs := [0, 6]) (by kernel_rfl) (by simp) ?_
          refine (AllReadyH.cons (o := { dst := some 44, op := Go.Op.buildSlice 23 0 #[], type := 23, pos := "l04_trees.go:135", after := #[], guard := none }) rfl (fun K hK => ?_) (AllReadyH.cons (o := { dst := some 50, op := Go.Op.buildSlice 23 1 #[(0, Go.Operand.tmp 49)], type := 23, pos := "l04_trees.go:135", after := #[{ on := 5, ground := Go.Ground.data }], guard := none }) rfl (fun K hK => ?_) AllReadyH.nil))
          · go_simp
            have HZn : Hid (Below W.heap.size W (u0.alloc (.cells #[] 68))) := HZ.out.alloc HZ.out.size _
            have HBn : Below u0.heap.size u0 (u0.alloc (.cells #[] 68)) := (Below.refl _ _).alloc (Nat.le_refl _) _
            have R0 : Hid ((u0.alloc (.cells #[] 68)).ownsRow W.heap.size 68 4 (.slice (some ⟨u0.heap.size, 0, none⟩) 0 0) 0 []) := World.ownsRow_lit u0 #[] 0 HZ.out.size (Nat.zero_le _) rfl
            refine hK.out _ _ (HKS.out _ HZn.out) (fun hHeld => ?_)
            replace HZ := HZn
            clear hK K HZn HBn
            generalize u0.alloc (.cells #[] 68) = u1 at *
            generalize u0.heap.size = g0 at *
            refine wpAnyH_ready (rs := [4, 6]) (by kernel_rfl) (by simp) ?_
            refine (AllReadyH.cons (o := { dst := some 48, op := Go.Op.call { callee := Go.Callee.builtin Go.Builtin.append, args := #[Go.Operand.tmp 44, Go.Operand.tmp 47], argTypes := #[23, 23] }, type := 23, pos := "l04_trees.go:135", after := #[{ on := 0, ground := Go.Ground.data }, { on := 3, ground := Go.Ground.data }], guard := none }) rfl (fun K hK => ?_) (AllReadyH.cons (o := { dst := some 50, op := Go.Op.buildSlice 23 1 #[(0, Go.Operand.tmp 49)], type := 23, pos := "l04_trees.go:135", after := #[{ on := 5, ground := Go.Ground.data }], guard := none }) rfl (fun K hK => ?_) AllReadyH.nil))
            · refine step_append_own _ (by rfl) (.tmp 44) (.tmp 47) 23 (by rfl) W.heap.size 68 i0 (.agg #[.int .i64 0, .string ByteArray.empty, .string ByteArray.empty, .int .i64 0]) 4 48 Tryz.underlying23 hi hI0 hI1 hI2 rfl (by decide) (.slice (some ⟨g0, 0, none⟩) 0 0) 0 [] (by simp [Act.eval] <;> omega) R0.out ⟨g, 0, none⟩ Q cap (flatN (l.take Q)) (by simp [Act.eval] <;> omega) HL1.out (src_cells (HRW.out.below HZ.out) 0 _ (.inr ⟨rfl, Q, rfl⟩)) (flatN_one _) (by unfold maxLen; omega) (by omega) HZ.out.size ?_
              intro s48 u2 R4x G4 _
              have R4 : Hid (u2.ownsRow W.heap.size 68 4 s48 Q (flatN (l.take Q))) := by have := R4x; rw [Nat.zero_add, List.nil_append] at this; exact this
              have HZn : Hid (Below W.heap.size W u2) := HZ.out.grown G4 HZ.out.size (fun j hj => (R0.out.lt j hj).1)
              simp only [Act.put, List.setIfInBounds_toArray, List.set_cons_zero, List.set_cons_succ]
              refine hK.out _ _ (HKS.out _ HZn.out) (fun hHeld => ?_)
              replace HZ := HZn
              clear hK K HZn R4x G4 R0
              refine wpAnyH_ready (rs := [6]) (by kernel_rfl) (by simp) ?_
              refine (AllReadyH.cons (o := { dst := some 50, op := Go.Op.buildSlice 23 1 #[(0, Go.Operand.tmp 49)], type := 23, pos := "l04_trees.go:135", after := #[{ on := 5, ground := Go.Ground.data }], guard := none }) rfl (fun K hK => ?_) AllReadyH.nil)
              go_simp
              have HZn : Hid (Below W.heap.size W (u2.alloc (.cells #[.int .i64 n.k, .string n.p, .string n.b, .int .i64 n.m] 68))) := HZ.out.alloc HZ.out.size _
              have HBn : Below u2.heap.size u2 (u2.alloc (.cells #[.int .i64 n.k, .string n.p, .string n.b, .int .i64 n.m] 68)) := (Below.refl _ _).alloc (Nat.le_refl _) _
              have IT : Hid (Item (u2.alloc (.cells #[.int .i64 n.k, .string n.p, .string n.b, .int .i64 n.m] 68)) u2.heap.size n) := Item.new u2 n
              replace R4 := Lib.hid (own_below R4.out HBn)
              refine hK.out _ _ (HKS.out _ HZn.out) (fun hHeld => ?_)
              replace HZ := HZn
              clear hK K HZn HBn
              generalize u2.alloc (.cells #[.int .i64 n.k, .string n.p, .string n.b, .int .i64 n.m] 68) = u3 at *
              generalize u2.heap.size = gi at *
              refine wpAnyH_ready (rs := [7]) (by kernel_rfl) (by simp) ?_
              refine (AllReadyH.cons (o := { dst := some 51, op := Go.Op.call { callee := Go.Callee.builtin Go.Builtin.append, args := #[Go.Operand.tmp 48, Go.Operand.tmp 50], argTypes := #[23, 23] }, type := 23, pos := "l04_trees.go:135", after := #[{ on := 4, ground := Go.Ground.data }, { on := 6, ground := Go.Ground.data }, { on := 4, ground := Go.Ground.chain }], guard := none }) rfl (fun K hK => ?_) AllReadyH.nil)
              refine step_append_own _ (by rfl) (.tmp 48) (.tmp 50) 23 (by rfl) W.heap.size 68 i0 (.agg #[.int .i64 0, .string ByteArray.empty, .string ByteArray.empty, .int .i64 0]) 4 48 Tryz.underlying23 hi hI0 hI1 hI2 rfl (by decide) s48 Q (flatN (l.take Q)) (by simp [Act.eval] <;> omega) R4.out ⟨gi, 0, none⟩ 1 1 n.ns (by simp [Act.eval] <;> omega) rfl IT.out.cells (nodR_one n) (by unfold maxLen; omega) (by omega) HZ.out.size ?_
              intro s51 u4 R7x G7 N7
              have R7 := Lib.hid R7x
              have N7h : Hid (s51 ≠ .slice none 0 0) := fun e => by have := (N7.1 e).2; omega
              have HZn : Hid (Below W.heap.size W u4) := HZ.out.grown G7 HZ.out.size (fun j hj => (R4.out.lt j hj).1)
              simp only [Act.put, List.setIfInBounds_toArray, List.set_cons_zero, List.set_cons_succ]
              refine hK.out _ _ (HKS.out _ HZn.out) (fun hHeld => ?_)
              replace HZ := HZn
              clear hK K HZn R7x G7 N7 R4 IT
              refine wpAnyH_ready (rs := [9]) (by kernel_rfl) (by simp) ?_
              refine (AllReadyH.cons (o := { dst := some 53, op := Go.Op.call { callee := Go.Callee.builtin Go.Builtin.append, args := #[Go.Operand.tmp 51, Go.Operand.tmp 52], argTypes := #[23, 23] }, type := 23, pos := "l04_trees.go:135", after := #[{ on := 7, ground := Go.Ground.data }, { on := 8, ground := Go.Ground.data }, { on := 7, ground := Go.Ground.chain }], guard := none }) rfl (fun K hK => ?_) AllReadyH.nil)
              refine step_append_own _ (by rfl) (.tmp 51) (.tmp 52) 23 (by rfl) W.heap.size 68 i0 (.agg #[.int .i64 0, .string ByteArray.empty, .string ByteArray.empty, .int .i64 0]) 4 48 Tryz.underlying23 hi hI0 hI1 hI2 rfl (by decide) s51 (Q + 1) (flatN (l.take Q) ++ n.ns) (by simp [Act.eval] <;> omega) R7.out ad7 (l.length - RR) c7 (flatN (l.drop RR)) (by simp [Act.eval] <;> omega) HL2.out (HC7.out _ HZ.out) (flatN_one _) (by unfold maxLen; omega) (by omega) HZ.out.size ?_
              intro s53 u5 R9x G9 N9
              have HF := Lib.hid (HRET.out s53 u5 (HZ.out.grown G9 HZ.out.size (fun j hj => (R7.out.lt j hj).1)) R9x (fun e => N7h.out (N9.1 e).1))
              have HZn : Hid (Below W.heap.size W u5) := HZ.out.grown G9 HZ.out.size (fun j hj => (R7.out.lt j hj).1)
              simp only [Act.put, List.setIfInBounds_toArray, List.set_cons_zero, List.set_cons_succ]
              refine hK.out _ _ (HKS.out _ HZn.out) (fun hHeld => ?_)
              replace HZ := HZn
              clear hK K HZn R9x G9 N9 R7 N7h
              refine wpAnyH_take (i := 10) (oi := { dst := some 4, op := Go.Op.assign (Go.Operand.tmp 53), type := 23, pos := "l04_trees.go:135", after := #[{ on := 9, ground := Go.Ground.data }, { on := 9, ground := Go.Ground.chain }, { on := 0, ground := Go.Ground.phase }, { on := 1, ground := Go.Ground.phase }, { on := 2, ground := Go.Ground.phase }, { on := 3, ground := Go.Ground.phase }, { on := 4, ground := Go.Ground.phase }, { on := 5, ground := Go.Ground.phase }, { on := 6, ground := Go.Ground.phase }, { on := 7, ground := Go.Ground.phase }, { on := 8, ground := Go.Ground.phase }, { on := 9, ground := Go.Ground.phase }], guard := none }) (v := ?vbx1q10) rfl (by kernel_rfl) (by kernel_rfl) (by kernel_rfl) (fun _ _ _ h => h) (Or.inl ⟨by rfl, ?ybx1q10⟩) hHeld ?zbx1q10
              case ybx1q10 =>
                intro w hSw
                (try dsimp only at hSw)
                go_simp
                try with_reducible rfl
              simp only [Act.put, List.setIfInBounds_toArray, List.set_cons_zero, List.set_cons_succ]
              refine wpAnyH_done (by kernel_rfl) ?_ _
              go_wp2
              go_ret
              exact HF.out
            · go_simp
              have HZn : Hid (Below W.heap.size W (u1.alloc (.cells #[.int .i64 n.k, .string n.p, .string n.b, .int .i64 n.m] 68))) := HZ.out.alloc HZ.out.size _
              have HBn : Below u1.heap.size u1 (u1.alloc (.cells #[.int .i64 n.k, .string n.p, .string n.b, .int .i64 n.m] 68)) := (Below.refl _ _).alloc (Nat.le_refl _) _
              have IT : Hid (Item (u1.alloc (.cells #[.int .i64 n.k, .string n.p, .string n.b, .int .i64 n.m] 68)) u1.heap.size n) := Item.new u1 n
              have NE : Hid ((Value.slice (some ⟨g0, 0, none⟩) 0 0).ownBlock ≠ some u1.heap.size) := fun e => by have h2 := (R0.out.lt _ e).2; omega
              replace R0 := Lib.hid (own_below R0.out HBn)
              refine hK.out _ _ (HKS.out _ HZn.out) (fun hHeld => ?_)
              replace HZ := HZn
              clear hK K HZn HBn
              generalize u1.alloc (.cells #[.int .i64 n.k, .string n.p, .string n.b, .int .i64 n.m] 68) = u2 at *
              generalize u1.heap.size = gi at *
              refine wpAnyH_ready (rs := [4]) (by kernel_rfl) (by simp) ?_
              refine (AllReadyH.cons (o := { dst := some 48, op := Go.Op.call { callee := Go.Callee.builtin Go.Builtin.append, args := #[Go.Operand.tmp 44, Go.Operand.tmp 47], argTypes := #[23, 23] }, type := 23, pos := "l04_trees.go:135", after := #[{ on := 0, ground := Go.Ground.data }, { on := 3, ground := Go.Ground.data }], guard := none }) rfl (fun K hK => ?_) AllReadyH.nil)
              refine step_append_own _ (by rfl) (.tmp 44) (.tmp 47) 23 (by rfl) W.heap.size 68 i0 (.agg #[.int .i64 0, .string ByteArray.empty, .string ByteArray.empty, .int .i64 0]) 4 48 Tryz.underlying23 hi hI0 hI1 hI2 rfl (by decide) (.slice (some ⟨g0, 0, none⟩) 0 0) 0 [] (by simp [Act.eval] <;> omega) R0.out ⟨g, 0, none⟩ Q cap (flatN (l.take Q)) (by simp [Act.eval] <;> omega) HL1.out (src_cells (HRW.out.below HZ.out) 0 _ (.inr ⟨rfl, Q, rfl⟩)) (flatN_one _) (by unfold maxLen; omega) (by omega) HZ.out.size ?_
              intro s48 u3 R4x G4 _
              have R4 : Hid (u3.ownsRow W.heap.size 68 4 s48 Q (flatN (l.take Q))) := by have := R4x; rw [Nat.zero_add, List.nil_append] at this; exact this
              have HZn : Hid (Below W.heap.size W u3) := HZ.out.grown G4 HZ.out.size (fun j hj => (R0.out.lt j hj).1)
              replace IT := Lib.hid (IT.out.grown G4 NE.out)
              clear NE
              simp only [Act.put, List.setIfInBounds_toArray, List.set_cons_zero, List.set_cons_succ]
              refine hK.out _ _ (HKS.out _ HZn.out) (fun hHeld => ?_)
              replace HZ := HZn
              clear hK K HZn R4x G4 R0
              refine wpAnyH_ready (rs := [7]) (by kernel_rfl) (by simp) ?_
              refine (AllReadyH.cons (o := { dst := some 51, op := Go.Op.call { callee := Go.Callee.builtin Go.Builtin.append, args := #[Go.Operand.tmp 48, Go.Operand.tmp 50], argTypes := #[23, 23] }, type := 23, pos := "l04_trees.go:135", after := #[{ on := 4, ground := Go.Ground.data }, { on := 6, ground := Go.Ground.data }, { on := 4, ground := Go.Ground.chain }], guard := none }) rfl (fun K hK => ?_) AllReadyH.nil)
              refine step_append_own _ (by rfl) (.tmp 48) (.tmp 50) 23 (by rfl) W.heap.size 68 i0 (.agg #[.int .i64 0, .string ByteArray.empty, .string ByteArray.empty, .int .i64 0]) 4 48 Tryz.underlying23 hi hI0 hI1 hI2 rfl (by decide) s48 Q (flatN (l.take Q)) (by simp [Act.eval] <;> omega) R4.out ⟨gi, 0, none⟩ 1 1 n.ns (by simp [Act.eval] <;> omega) rfl IT.out.cells (nodR_one n) (by unfold maxLen; omega) (by omega) HZ.out.size ?_
              intro s51 u4 R7x G7 N7
              have R7 := Lib.hid R7x
              have N7h : Hid (s51 ≠ .slice none 0 0) := fun e => by have := (N7.1 e).2; omega
              have HZn : Hid (Below W.heap.size W u4) := HZ.out.grown G7 HZ.out.size (fun j hj => (R4.out.lt j hj).1)
              simp only [Act.put, List.setIfInBounds_toArray, List.set_cons_zero, List.set_cons_succ]
              refine hK.out _ _ (HKS.out _ HZn.out) (fun hHeld => ?_)
              replace HZ := HZn
              clear hK K HZn R7x G7 N7 R4 IT
              refine wpAnyH_ready (rs := [9]) (by kernel_rfl) (by simp) ?_
              refine (AllReadyH.cons (o := { dst := some 53, op := Go.Op.call { callee := Go.Callee.builtin Go.Builtin.append, args := #[Go.Operand.tmp 51, Go.Operand.tmp 52], argTypes := #[23, 23] }, type := 23, pos := "l04_trees.go:135", after := #[{ on := 7, ground := Go.Ground.data }, { on := 8, ground := Go.Ground.data }, { on := 7, ground := Go.Ground.chain }], guard := none }) rfl (fun K hK => ?_) AllReadyH.nil)
              refine step_append_own _ (by rfl) (.tmp 51) (.tmp 52) 23 (by rfl) W.heap.size 68 i0 (.agg #[.int .i64 0, .string ByteArray.empty, .string ByteArray.empty, .int .i64 0]) 4 48 Tryz.underlying23 hi hI0 hI1 hI2 rfl (by decide) s51 (Q + 1) (flatN (l.take Q) ++ n.ns) (by simp [Act.eval] <;> omega) R7.out ad7 (l.length - RR) c7 (flatN (l.drop RR)) (by simp [Act.eval] <;> omega) HL2.out (HC7.out _ HZ.out) (flatN_one _) (by unfold maxLen; omega) (by omega) HZ.out.size ?_
              intro s53 u5 R9x G9 N9
              have HF := Lib.hid (HRET.out s53 u5 (HZ.out.grown G9 HZ.out.size (fun j hj => (R7.out.lt j hj).1)) R9x (fun e => N7h.out (N9.1 e).1))
              have HZn : Hid (Below W.heap.size W u5) := HZ.out.grown G9 HZ.out.size (fun j hj => (R7.out.lt j hj).1)
              simp only [Act.put, List.setIfInBounds_toArray, List.set_cons_zero, List.set_cons_succ]
              refine hK.out _ _ (HKS.out _ HZn.out) (fun hHeld => ?_)
              replace HZ := HZn
              clear hK K HZn R9x G9 N9 R7 N7h
              refine wpAnyH_take (i := 10) (oi := { dst := some 4, op := Go.Op.assign (Go.Operand.tmp 53), type := 23, pos := "l04_trees.go:135", after := #[{ on := 9, ground := Go.Ground.data }, { on := 9, ground := Go.Ground.chain }, { on := 0, ground := Go.Ground.phase }, { on := 1, ground := Go.Ground.phase }, { on := 2, ground := Go.Ground.phase }, { on := 3, ground := Go.Ground.phase }, { on := 4, ground := Go.Ground.phase }, { on := 5, ground := Go.Ground.phase }, { on := 6, ground := Go.Ground.phase }, { on := 7, ground := Go.Ground.phase }, { on := 8, ground := Go.Ground.phase }, { on := 9, ground := Go.Ground.phase }], guard := none }) (v := ?vbx2q10) rfl (by kernel_rfl) (by kernel_rfl) (by kernel_rfl) (fun _ _ _ h => h) (Or.inl ⟨by rfl, ?ybx2q10⟩) hHeld ?zbx2q10
              case ybx2q10 =>
                intro w hSw
                (try dsimp only at hSw)
                go_simp
                try with_reducible rfl
              simp only [Act.put, List.setIfInBounds_toArray, List.set_cons_zero, List.set_cons_succ]
              refine wpAnyH_done (by kernel_rfl) ?_ _
              go_wp2
              go_ret
              exact HF.out
          · go_simp
            have HZn : Hid (Below W.heap.size W (u0.alloc (.cells #[.int .i64 n.k, .string n.p, .string n.b, .int .i64 n.m] 68))) := HZ.out.alloc HZ.out.size _
            have HBn : Below u0.heap.size u0 (u0.alloc (.cells #[.int .i64 n.k, .string n.p, .string n.b, .int .i64 n.m] 68)) := (Below.refl _ _).alloc (Nat.le_refl _) _
            have IT : Hid (Item (u0.alloc (.cells #[.int .i64 n.k, .string n.p, .string n.b, .int .i64 n.m] 68)) u0.heap.size n) := Item.new u0 n
            refine hK.out _ _ (HKS.out _ HZn.out) (fun hHeld => ?_)
            replace HZ := HZn
            clear hK K HZn HBn
            generalize u0.alloc (.cells #[.int .i64 n.k, .string n.p, .string n.b, .int .i64 n.m] 68) = u1 at *
            generalize u0.heap.size = gi at *
            refine wpAnyH_ready (rs := [0]) (by kernel_rfl) (by simp) ?_
            refine (AllReadyH.cons (o := { dst := some 44, op := Go.Op.buildSlice 23 0 #[], type := 23, pos := "l04_trees.go:135", after := #[], guard := none }) rfl (fun K hK => ?_) AllReadyH.nil)
            go_simp
            have HZn : Hid (Below W.heap.size W (u1.alloc (.cells #[] 68))) := HZ.out.alloc HZ.out.size _
            have HBn : Below u1.heap.size u1 (u1.alloc (.cells #[] 68)) := (Below.refl _ _).alloc (Nat.le_refl _) _
            have R0 : Hid ((u1.alloc (.cells #[] 68)).ownsRow W.heap.size 68 4 (.slice (some ⟨u1.heap.size, 0, none⟩) 0 0) 0 []) := World.ownsRow_lit u1 #[] 0 HZ.out.size (Nat.zero_le _) rfl
            have NE : Hid ((Value.slice (some ⟨u1.heap.size, 0, none⟩) 0 0).ownBlock ≠ some gi) := fun e => by have h1 : u1.heap.size = gi := Option.some.inj e; have h2 := IT.out.lt; omega
            replace IT := Lib.hid (IT.out.below HBn)
            refine hK.out _ _ (HKS.out _ HZn.out) (fun hHeld => ?_)
            replace HZ := HZn
            clear hK K HZn HBn
            generalize u1.alloc (.cells #[] 68) = u2 at *
            generalize u1.heap.size = g0 at *
            refine wpAnyH_ready (rs := [4]) (by kernel_rfl) (by simp) ?_
            refine (AllReadyH.cons (o := { dst := some 48, op := Go.Op.call { callee := Go.Callee.builtin Go.Builtin.append, args := #[Go.Operand.tmp 44, Go.Operand.tmp 47], argTypes := #[23, 23] }, type := 23, pos := "l04_trees.go:135", after := #[{ on := 0, ground := Go.Ground.data }, { on := 3, ground := Go.Ground.data }], guard := none }) rfl (fun K hK => ?_) AllReadyH.nil)
            refine step_append_own _ (by rfl) (.tmp 44) (.tmp 47) 23 (by rfl) W.heap.size 68 i0 (.agg #[.int .i64 0, .string ByteArray.empty, .string ByteArray.empty, .int .i64 0]) 4 48 Tryz.underlying23 hi hI0 hI1 hI2 rfl (by decide) (.slice (some ⟨g0, 0, none⟩) 0 0) 0 [] (by simp [Act.eval] <;> omega) R0.out ⟨g, 0, none⟩ Q cap (flatN (l.take Q)) (by simp [Act.eval] <;> omega) HL1.out (src_cells (HRW.out.below HZ.out) 0 _ (.inr ⟨rfl, Q, rfl⟩)) (flatN_one _) (by unfold maxLen; omega) (by omega) HZ.out.size ?_
            intro s48 u3 R4x G4 _
            have R4 : Hid (u3.ownsRow W.heap.size 68 4 s48 Q (flatN (l.take Q))) := by have := R4x; rw [Nat.zero_add, List.nil_append] at this; exact this
            have HZn : Hid (Below W.heap.size W u3) := HZ.out.grown G4 HZ.out.size (fun j hj => (R0.out.lt j hj).1)
            replace IT := Lib.hid (IT.out.grown G4 NE.out)
            clear NE
            simp only [Act.put, List.setIfInBounds_toArray, List.set_cons_zero, List.set_cons_succ]
            refine hK.out _ _ (HKS.out _ HZn.out) (fun hHeld => ?_)
            replace HZ := HZn
            clear hK K HZn R4x G4 R0
            refine wpAnyH_ready (rs := [7]) (by kernel_rfl) (by simp) ?_
            refine (AllReadyH.cons (o := { dst := some 51, op := Go.Op.call { callee := Go.Callee.builtin Go.Builtin.append, args := #[Go.Operand.tmp 48, Go.Operand.tmp 50], argTypes := #[23, 23] }, type := 23, pos := "l04_trees.go:135", after := #[{ on := 4, ground := Go.Ground.data }, { on := 6, ground := Go.Ground.data }, { on := 4, ground := Go.Ground.chain }], guard := none }) rfl (fun K hK => ?_) AllReadyH.nil)
            refine step_append_own _ (by rfl) (.tmp 48) (.tmp 50) 23 (by rfl) W.heap.size 68 i0 (.agg #[.int .i64 0, .string ByteArray.empty, .string ByteArray.empty, .int .i64 0]) 4 48 Tryz.underlying23 hi hI0 hI1 hI2 rfl (by decide) s48 Q (flatN (l.take Q)) (by simp [Act.eval] <;> omega) R4.out ⟨gi, 0, none⟩ 1 1 n.ns (by simp [Act.eval] <;> omega) rfl IT.out.cells (nodR_one n) (by unfold maxLen; omega) (by omega) HZ.out.size ?_
            intro s51 u4 R7x G7 N7
            have R7 := Lib.hid R7x
            have N7h : Hid (s51 ≠ .slice none 0 0) := fun e => by have := (N7.1 e).2; omega
            have HZn : Hid (Below W.heap.size W u4) := HZ.out.grown G7 HZ.out.size (fun j hj => (R4.out.lt j hj).1)
            simp only [Act.put, List.setIfInBounds_toArray, List.set_cons_zero, List.set_cons_succ]
            refine hK.out _ _ (HKS.out _ HZn.out) (fun hHeld => ?_)
            replace HZ := HZn
            clear hK K HZn R7x G7 N7 R4 IT
            refine wpAnyH_ready (rs := [9]) (by kernel_rfl) (by simp) ?_
            refine (AllReadyH.cons (o := { dst := some 53, op := Go.Op.call { callee := Go.Callee.builtin Go.Builtin.append, args := #[Go.Operand.tmp 51, Go.Operand.tmp 52], argTypes := #[23, 23] }, type := 23, pos := "l04_trees.go:135", after := #[{ on := 7, ground := Go.Ground.data }, { on := 8, ground := Go.Ground.data }, { on := 7, ground := Go.Ground.chain }], guard := none }) rfl (fun K hK => ?_) AllReadyH.nil)
            refine step_append_own _ (by rfl) (.tmp 51) (.tmp 52) 23 (by rfl) W.heap.size 68 i0 (.agg #[.int .i64 0, .string ByteArray.empty, .string ByteArray.empty, .int .i64 0]) 4 48 Tryz.underlying23 hi hI0 hI1 hI2 rfl (by decide) s51 (Q + 1) (flatN (l.take Q) ++ n.ns) (by simp [Act.eval] <;> omega) R7.out ad7 (l.length - RR) c7 (flatN (l.drop RR)) (by simp [Act.eval] <;> omega) HL2.out (HC7.out _ HZ.out) (flatN_one _) (by unfold maxLen; omega) (by omega) HZ.out.size ?_
            intro s53 u5 R9x G9 N9
            have HF := Lib.hid (HRET.out s53 u5 (HZ.out.grown G9 HZ.out.size (fun j hj => (R7.out.lt j hj).1)) R9x (fun e => N7h.out (N9.1 e).1))
            have HZn : Hid (Below W.heap.size W u5) := HZ.out.grown G9 HZ.out.size (fun j hj => (R7.out.lt j hj).1)
            simp only [Act.put, List.setIfInBounds_toArray, List.set_cons_zero, List.set_cons_succ]
            refine hK.out _ _ (HKS.out _ HZn.out) (fun hHeld => ?_)
            replace HZ := HZn
            clear hK K HZn R9x G9 N9 R7 N7h
            refine wpAnyH_take (i := 10) (oi := { dst := some 4, op := Go.Op.assign (Go.Operand.tmp 53), type := 23, pos := "l04_trees.go:135", after := #[{ on := 9, ground := Go.Ground.data }, { on := 9, ground := Go.Ground.chain }, { on := 0, ground := Go.Ground.phase }, { on := 1, ground := Go.Ground.phase }, { on := 2, ground := Go.Ground.phase }, { on := 3, ground := Go.Ground.phase }, { on := 4, ground := Go.Ground.phase }, { on := 5, ground := Go.Ground.phase }, { on := 6, ground := Go.Ground.phase }, { on := 7, ground := Go.Ground.phase }, { on := 8, ground := Go.Ground.phase }, { on := 9, ground := Go.Ground.phase }], guard := none }) (v := ?vbx3q10) rfl (by kernel_rfl) (by kernel_rfl) (by kernel_rfl) (fun _ _ _ h => h) (Or.inl ⟨by rfl, ?ybx3q10⟩) hHeld ?zbx3q10
            case ybx3q10 =>
              intro w hSw
              (try dsimp only at hSw)
              go_simp
              try with_reducible rfl
            simp only [Act.put, List.setIfInBounds_toArray, List.set_cons_zero, List.set_cons_succ]
            refine wpAnyH_done (by kernel_rfl) ?_ _
            go_wp2
            go_ret
            exact HF.out
end Go.Proofs.YtibekkfbpmloiabGreatDoor.Recs
