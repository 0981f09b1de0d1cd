/- Parts of several texts of mine in one file (each begins with its own remark). -/
import Derived.Test.YtibekkfbpmloiabGreatDoorCA1
import Derived.Test.YtibekkfbpmloiabGreatDoorCA10
import Derived.Test.YtibekkfbpmloiabGreatDoorCA14
import Derived.Test.YtibekkfbpmloiabGreatDoorCA15
import Derived.Test.YtibekkfbpmloiabGreatDoorCA16
import Derived.Test.YtibekkfbpmloiabGreatDoorCA17
import Derived.Test.YtibekkfbpmloiabGreatDoorCA18
import Derived.Test.YtibekkfbpmloiabGreatDoorCA2
import Derived.Test.YtibekkfbpmloiabGreatDoorCA20
import Derived.Test.YtibekkfbpmloiabGreatDoorCA21
import Derived.Test.YtibekkfbpmloiabGreatDoorCA22
import Derived.Test.YtibekkfbpmloiabGreatDoorCA3
import Derived.Test.YtibekkfbpmloiabGreatDoorCA4
import Derived.Test.YtibekkfbpmloiabGreatDoorCA5
import Derived.Test.YtibekkfbpmloiabGreatDoorCA6
import Derived.Test.YtibekkfbpmloiabGreatDoorCA7
import Derived.Test.YtibekkfbpmloiabGreatDoorCA8
import Derived.Test.YtibekkfbpmloiabGreatDoorCA9
import Derived.Test.YtibekkfbpmloiabGreatDoorCC1
import Derived.Test.YtibekkfbpmloiabGreatDoorCC10
import Derived.Test.YtibekkfbpmloiabGreatDoorCC11
import Derived.Test.YtibekkfbpmloiabGreatDoorCC12
import Derived.Test.YtibekkfbpmloiabGreatDoorCC4
import Derived.Test.YtibekkfbpmloiabGreatDoorCC8
import Derived.Test.YtibekkfbpmloiabGreatDoorCC9
import Derived.Test.YtibekkfbpmloiabGreatDoorChecked
import Derived.Test.YtibekkfbpmloiabGreatDoorShelf
import Derived.Test.YtibekkfbpmloiabGreatDoorProg
import Derived.Test.YtibekkfbpmloiabGreatDoorRows
import Derived.Maps.OwnIn
import Derived.Deep.Slices
import Derived.OpenShut
import Derived.ShutString
import Derived.ChangeArms
import Derived.WideShapes
import Derived.Lib.LaidTab
import Derived.BigQuiet
import Derived.Deep.QuietTactic
import Derived.Deep.RegionHeld3
import Derived.StillTailTactics
import Derived.Deep.Draws
import Derived.Deep.LoopGhost
import Derived.WalkKit
import Derived.WalkSpells
import Derived.WalkSmall
import Derived.Lib.OthersKept
import Derived.Lib.Hide
import Derived.Lib.Strings
import Derived.Lib.Join
import Derived.WalkLawsBesides
import Derived.Laws.BytesArg
import Derived.Laws.OwnMore
import Derived.BigRegion
import Derived.Stop.LaidErr
import Derived.LaidEql
import Derived.Stop.Asserts
import Derived.Below
import Derived.Stop.LaidTwo
import Derived.Deep.RegionWith
import Derived.Laws.AppendOwnNone
import Derived.RegionTactic
import Derived.RangeFuncNested
import Derived.RangeFuncBound
import Derived.RangeFuncCalls
import Derived.RangeFuncLeaves
import Derived.RangeFuncBox
import Derived.Shelf.Abstract
import Derived.Shelf.RegionOpen
import Derived.OwnWalkIn
import Derived.TacticsInMore
import Derived.LoopNIn
import Derived.LoopIn
import Derived.ChangeVars
import Derived.Deep.DeepHandedRow
import Derived.OneCell
import Derived.Lib.SliceRun
import Derived.Lib.Overlaps
import Derived.Lib.AppendZerosOnto
import Derived.Laws.NewBlocks
import Derived.Laws.IdiomCopy
import Derived.Deep.RegionLaw
import Derived.Laws.IdiomRangeMap
import Derived.Maps.RangeWalk
import Derived.Maps.Ext
import Derived.Lib.SlMapFilter
/- The layer between two trees, of the program: the walk. -/
namespace Go.Proofs.YtibekkfbpmloiabGreatDoor.Recs
set_option maxRecDepth 100000
open Go.RowKit Paths Errs Go.Shelf
attribute [local go_sem] Oper.semAt_some

theorem field_at {K : Act → World → Prop} {a : Act} {d : Option Tmp} {v v' : Value} {W : World} (h : v = v') (hk : K (a.put d v') W) : K (a.put d v) W := h ▸ hk
theorem setCell_other {w : World} {B B' j : Nat} {o : Obj} {u : Value} (h : w.heap[B]? = some o) (hne : B' ≠ B) : (w.setCell ⟨B', j, none⟩ u).heap[B]? = some o := by
  simp only [World.setCell, Array.getElem?_modify, h]
  rw [if_neg hne]
/-- An append at an operation of a drawn region, inside a fence. -/
theorem stepIn_append_own {F : Fence} {n : Nat} {P : Program} (w : World) {ops : Array Oper} {o : Oper} {a : Act} {K : Act → World → Prop} {Q : Exit → Act → World → Prop} {E : Prop}
    (hg : o.guard = none) (s x : Operand) (t : TypeId) (hop : o.op = Op.call { callee := Callee.builtin Builtin.append, args := #[s, x], argTypes := #[t, t] })
    (base : Nat) (e : TypeId) (i : TypeInfo) (z : Value) (size bytes : Nat) (h1 : P.underlying t = some (.slice e)) (h2 : P.info? e = some i) (h3 : i.zero = some z) (h4 : i.size = size) (h5 : i.bytes = bytes) (h6 : z.cells.size = size) (h7 : 0 < size)
    (v : Value) (k : Nat) (xs : List Value) (hs : a.eval s = v) (hown : w.ownsRow base e size v k xs) (ad : Addr) (m c : Nat) (news : List Value) (hx : a.eval x = .slice (some ad) m c) (hn : news.length = m * size)
    (hc : ∀ j u, news[j]? = some u → w.cell? (ad.add j) = some u) (h1c : ∀ u ∈ news, u.oneCell' = true) (b1 : k + m ≤ maxLen) (b2 : (k + m) * bytes ≤ 140737488355328) (b3 : base ≤ w.heap.size)
    (hK : ∀ v' w', w'.ownsRow base e size v' (k + m) (xs ++ news) → w.grownBy w' v.ownBlock → K (a.put o.dst v') w') :
    if Region.wanted o (yielded ops a.tmps) = true then Oper.wpIn F n P o a w K Q else E := by
  rw [if_pos (by simp [Region.wanted, hg])]
  obtain ⟨v', w', hrun, r1, r2, r3⟩ := run_append_own (P := P) w base t o.type e i z size bytes h1 h2 h3 h4 h5 h6 h7 v k xs hown ad m c news hn hc h1c b1 b2 b3
  unfold Oper.wpIn
  refine ⟨?_, ?_⟩
  · simp [Oper.about, hop, resolve, Target.leads, Sem.run_pure]
  · rw [Oper.semAt_plain F _ _ (by rw [hop]; intro c hc'; cases hc')]
    simp [execOp, hop, resolve, invoke, builtin, hs, hx, hrun, Result.andThen]
    exact hK v' w' r1 r2

/-- What stays as it was while the layer grows: by name. -/
structure Fr (m Pm Mb n Bf Bx : Nat) (c : Chg) (T : List R) (W wr : World) : Prop where
  bel : Below m W wr
  oth : KeepsOthers W wr
  fn : ∀ z, Boxed W Bf 90 z → Boxed wr Bf 90 z
  cb : CbN wr Bx c.1 c.2.1 c.2.2
  bm : Boxed wr Pm 150 (.map (some Mb))
  map : MapT wr Mb n T
theorem Fr.below {m Pm Mb n Bf Bx : Nat} {c : Chg} {T : List R} {W wr w' : World} (h : Fr m Pm Mb n Bf Bx c T W wr) (hm : m ≤ wr.heap.size) (hb : Below wr.heap.size wr w') : Fr m Pm Mb n Bf Bx c T W w' :=
  ⟨h.bel.trans (hb.mono hm), h.oth.trans (others_of hb), fun z hz => (hb.block _ (h.fn z hz).lt).trans (h.fn z hz), h.cb.below hb h.cb.lt, (hb.block _ h.bm.lt).trans h.bm, h.map.below hb⟩
theorem Fr.drew {m Pm Mb n Bf Bx : Nat} {c : Chg} {T : List R} {W wr : World} (h : Fr m Pm Mb n Bf Bx c T W wr) (hm : m ≤ wr.heap.size) : Fr m Pm Mb n Bf Bx c T W wr.drew := h.below hm (Below.refl _ _).drew
theorem own_no_cells {w : World} {m : Nat} {e : TypeId} {s k : Nat} {u : Value} {xs : List Value} {B : Nat} {o : Obj} (h : w.ownsRow m e s u k xs) (hB : w.heap[B]? = some o) (ho : ∀ cs fz, o ≠ .cells cs e fz) : some B ≠ u.ownBlock := by
  rcases h.2 with ⟨rfl, _⟩ | ⟨g, cap, cur, rfl, _, hg, _⟩
  · intro e; cases e
  · intro e
    obtain rfl : B = g := Option.some.inj e
    rw [hg] at hB
    exact ho _ _ (Option.some.inj hB).symm
/-- The layer in its box grows by a record. -/
theorem Fr.step {m Pl Pm Mb n Bf Bx k k' : Nat} {c : Chg} {T : List R} {W wr w1 : World} {u v' : Value} {xs ys : List Value} {tmp : Obj} (h : Fr m Pm Mb n Bf Bx c T W wr) (hv : Boxed wr Pl 27 u) (hrow : wr.ownsRow m 53 5 u k xs)
    (hm : m ≤ wr.heap.size) (hP : m ≤ Pl) (n1 : Pl ≠ Bx) (n2 : Pl ≠ Pm) (n3 : Pl ≠ Bf) (n4 : Pl ≠ Mb) (hown' : w1.ownsRow m 53 5 v' k' ys) (hgrow : (wr.alloc tmp).grownBy w1 u.ownBlock) :
    Boxed (w1.setCell ⟨Pl, 0, none⟩ v') Pl 27 v' ∧ (w1.setCell ⟨Pl, 0, none⟩ v').ownsRow m 53 5 v' k' ys ∧ Fr m Pm Mb n Bf Bx c T W (w1.setCell ⟨Pl, 0, none⟩ v') := by
  obtain ⟨_, q2, q3, q4, q5⟩ := hv.appended (by decide) hrow hm hP hown' hgrow
  have hrA := hrow.alloc tmp
  have key : ∀ {B : Nat} {o : Obj}, wr.heap[B]? = some o → Pl ≠ B → (∀ cs fz, o ≠ .cells cs 53 fz) → (w1.setCell ⟨Pl, 0, none⟩ v').heap[B]? = some o := fun {B o} hB hne ho => by
    have hl := (Array.getElem?_eq_some_iff.1 hB).1
    have hA : (wr.alloc tmp).heap[B]? = some o := ((World.grownBy_alloc wr tmp none).block B hl (by simp)).trans hB
    exact setCell_other ((hgrow.block B (Array.getElem?_eq_some_iff.1 hA).1 (own_no_cells hrA hA ho)).trans hA) hne
  refine ⟨q2, q3, h.bel.trans q5, h.oth.trans q4, fun z hz => key (h.fn z hz) n3 (fun _ _ e => by cases e), key h.cb n1 (fun _ _ e => by cases e), key h.bm n2 (fun _ _ e => by cases e), ?_⟩
  obtain ⟨⟨es, e1, e2⟩, e3⟩ := h.map
  obtain ⟨xs', clock, hb, F, hs, hD⟩ := e1
  exact ⟨⟨es, ⟨xs', clock, key hb n4 (fun _ _ e => by cases e), F, hs, hD⟩, e2⟩, e3⟩

theorem row_step {m b2 Pl k n : Nat} {wr w1 : World} {u v' pv : Value} {xs zs : List Value} {tmp : Obj} (hs : wr.ownsRow b2 9 1 pv n zs) (hv : Boxed wr Pl 27 u) (hrow : wr.ownsRow m 53 5 u k xs)
    (hgrow : (wr.alloc tmp).grownBy w1 u.ownBlock) : (w1.setCell ⟨Pl, 0, none⟩ v').ownsRow b2 9 1 pv n zs := by
  obtain ⟨h1, h2⟩ := hs
  refine ⟨h1, ?_⟩
  rcases h2 with h2 | ⟨g, cap', cur, a, b, c, d⟩
  · exact .inl h2
  · have hrA := hrow.alloc tmp
    have hl := (Array.getElem?_eq_some_iff.1 c).1
    have hA := ((World.grownBy_alloc wr tmp none).block g hl (by simp)).trans c
    have hne : Pl ≠ g := fun e => by
      subst e
      rw [show wr.heap[Pl]? = _ from hv] at c
      cases c
    exact .inr ⟨g, cap', cur, a, b, setCell_other ((hgrow.block g (Array.getElem?_eq_some_iff.1 hA).1 (own_no_cells hrA hA (fun _ _ e => by cases e))).trans hA) hne, d⟩

set_option maxHeartbeats 16000000 in
theorem layerBetween_any (v1 v2 : Value) (A B : List R) (w : World) (h1 : NodSl w v1 A) (h2 : NodSl w v2 B) (ht1 : Tree A) (ht2 : Tree B) :
    Calls Tryz.prog 71 #[v1, v2] w fun e w' => ∃ z, e = .returned z ∧ Below w.heap.size w w' ∧ RowOf w' w.heap.size z (betP A B).length (betP A B) := by
  obtain ⟨i0, hi, hI0, hI1, hI2⟩ := info_parts recInfo
  have hlA := ht1.len
  have hlB := ht2.len
  have h48 : (chgs A B).length ≤ 48 := by have := chg_len A B; omega
  have HTA := Lib.hid ht1
  have HTB := Lib.hid ht2
  have HOB := Lib.hid h2.1
  have HS1 := Lib.hid h1
  have HS2 := Lib.hid h2
  have HPB : ∀ r ∈ B, r.p.size ≤ maxLen := fun r hr => path_max (ht2.is.path r hr)
  have HMT := mapOfTree_any v2 B w h2 (by omega) ht2.sorted HPB
  obtain ⟨a1, cap1, rfl⟩ := nodSl_form h1
  obtain ⟨a2, cap2, rfl⟩ := nodSl_form h2
  clear h1 h2 ht1 ht2 HPB
  refine (callsIn_wide (n := 6)).1 ?_
  refine callsIn_of_wp_marks Tryz.func71 rfl trivial ?_ rfl
  simp only [Tryz.ntmps71, List.size_toArray, List.length_cons, List.length_nil, Nat.reduceAdd, Nat.reduceSub, Array.replicate_succ, Array.replicate_zero, List.push_toArray, List.append_toArray, List.nil_append, List.cons_append]
  gi_wp2
  first
  | refine (callsIn_wide.2 HMT).mono ?_
  | refine ⟨trivial, (callsIn_wide.2 HMT).mono ?_⟩
  rintro e w1 ⟨rfl, hb1, hm1⟩
  have hml := hm1.lt
  obtain ⟨⟨es, hes1, hes2⟩, hno⟩ := hm1
  have HE1 := Lib.hid hes1
  have HE2 := Lib.hid hes2
  have HNO := Lib.hid hno
  have hbX := hb1.alloc hb1.size (.cells #[.map (some w.heap.size)] 150)
  have hbm1 := Boxed.new w1 150 (.map (some w.heap.size))
  have HBM1 := Lib.hid hbm1
  have hkey := WideMaps.keyOf_string_mk (P := Tryz.prog) (s := ⟨#[]⟩) Tryz.underlying9 (by decide)
  clear hes1 hes2 hno hbm1 HMT
  gi_wp2_with (first
    | (gi_at_mapUpdate; refine wpListIn_mapUpdate_own _ rfl _ _ _ 150 rfl 9 68 keyed Tryz.underlying150 readN w.heap.size B.length (.map es) rfl (HE1.out.alloc _) (by unfold maxLen; omega) _ _ _ rfl rfl hkey _ [] (readN_nod rootN) ?_; intro w2 hown2 hgrow2))
  have hgw : w1.heap.size < w2.heap.size := by have := hgrow2.size; simp at this; omega
  have HM2 : Hid (MapT w2 w.heap.size (B.length + 1) (rootN :: B)) := by
    refine (MapT.put rootN HE2.out HNO.out rfl hown2).congr fun x => ?_
    rw [List.mem_cons, List.mem_cons, List.mem_filter]
    constructor
    · rintro (e | e)
      · exact .inl e
      · refine .inr ⟨e, decide_eq_true fun he => ?_⟩
        have := HTB.out.is.path x e
        rw [he] at this
        exact pathB_ne this rfl
    · rintro (e | e)
      · exact .inl e
      · exact .inr e.1
  have hc2 : Below w.heap.size w w2 := hbX.grown hgrow2 hbX.size (fun k e => by cases e; exact Nat.le_refl _)
  have HBM2 : Hid (Boxed w2 w1.heap.size 150 (.map (some w.heap.size))) := HBM1.out.kept hgrow2 (fun e => by have := Option.some.inj e; omega)
  have hsz2 := hc2.size
  clear hown2 hgrow2 HE1 HE2 HNO
  gi_wp2
  first
  | refine (callsIn_wide.2 (changesN_any a1 a2 _ _ cap1 cap2 _)).mono ?_
  | refine ⟨trivial, (callsIn_wide.2 (changesN_any a1 a2 _ _ cap1 cap2 _)).mono ?_⟩
  rintro e w5 ⟨rfl, rfl⟩
  gi_wp2
  obtain ⟨W0, hW0⟩ : ∃ W0, ((((w2.alloc (.cells #[.slice none 0 0] 27)).alloc (.cells #[.slice a1 A.length cap1] 23)).alloc (.cells #[.slice a2 B.length cap2] 23)).alloc (.cells #[.func (.func 75) #[] #[]] 90)) = W0 := ⟨_, rfl⟩
  have hb0 : Below w.heap.size w W0 := by rw [← hW0]; exact (((hc2.alloc hsz2 _).alloc (by simp; omega) _).alloc (by simp; omega) _).alloc (by simp; omega) _
  have hb02 : Below w2.heap.size w2 W0 := by rw [← hW0]; exact ((((Below.refl _ _).alloc (Nat.le_refl _) _).alloc (by simp) _).alloc (by simp; omega) _).alloc (by simp; omega) _
  have hs0 : W0.heap.size = w2.heap.size + 4 := by rw [← hW0]; simp
  have bP : Boxed W0 w2.heap.size 27 (.slice none 0 0) := by rw [← hW0]; exact (((Boxed.new w2 _ _).alloc _).alloc _).alloc _
  have bA : Boxed W0 (w2.heap.size + 1) 23 (.slice a1 A.length cap1) := by
    rw [← hW0]
    have := Boxed.new (w2.alloc (.cells #[.slice none 0 0] 27)) 23 (.slice a1 A.length cap1)
    rw [World.size_alloc] at this
    exact (this.alloc _).alloc _
  have bB : Boxed W0 (w2.heap.size + 1 + 1) 23 (.slice a2 B.length cap2) := by
    rw [← hW0]
    have := Boxed.new ((w2.alloc (.cells #[.slice none 0 0] 27)).alloc (.cells #[.slice a1 A.length cap1] 23)) 23 (.slice a2 B.length cap2)
    rw [World.size_alloc, World.size_alloc] at this
    exact this.alloc _
  have bF : Boxed W0 (w2.heap.size + 1 + 2) 90 (.func (.func 75) #[] #[]) := by
    rw [← hW0]
    have := Boxed.new (((w2.alloc (.cells #[.slice none 0 0] 27)).alloc (.cells #[.slice a1 A.length cap1] 23)).alloc (.cells #[.slice a2 B.length cap2] 23)) 90 (.func (.func 75) #[] #[])
    rw [World.size_alloc, World.size_alloc, World.size_alloc] at this
    exact this
  have bM : Boxed W0 w1.heap.size 150 (.map (some w.heap.size)) := (hb02.block _ HBM2.out.lt).trans HBM2.out
  have hM0 : MapT W0 w.heap.size (B.length + 1) (rootN :: B) := HM2.out.below hb02
  rw [hW0]
  clear hW0
  refine wpIn_rangeFunc_ownH rfl (by omega) (gf := 140) (lb := #[.pointer (some ⟨w2.heap.size + 1, 0, none⟩), .pointer (some ⟨w2.heap.size + 1 + 1, 0, none⟩), .pointer (some ⟨w2.heap.size + 1 + 2, 0, none⟩)]) rfl trivial (enters_of Tryz.func140 (by kernel_rfl) rfl)
    (chgN_stops (6 - 1) (by omega) (w2.heap.size + 1) (w2.heap.size + 1 + 1) (w2.heap.size + 1 + 2) _ _ A B w W0 hb0 HS1.out HS2.out bA bB bF HTA.out.fault HTB.out.fault (by omega)) KeepD.trans (KeepD.put (by omega)) (Below.refl _ _) (fun _ => rfl)
    (fun pre W => ((∃ v, Boxed W w2.heap.size 27 v ∧ W.ownsRow w.heap.size 53 5 v (lbL B (pre.map ItC.c)).length (flat (lbL B (pre.map ItC.c))) ∧ True) ∧ (Boxed W w1.heap.size 150 (.map (some w.heap.size)) ∧ MapT W w.heap.size (B.length + 1) (rootN :: B))) ∧ Below w.heap.size w W)
    (fun _ _ _ => False)
    (OwnFrom.and (OwnFrom.and (Own.from (holdsRow_own w.heap.size w2.heap.size 27 53 5 (fun pre : List (ItC A B) => (lbL B (pre.map ItC.c)).length) (fun pre => flat (lbL B (pre.map ItC.c))) (fun _ _ => True)) _) (OwnFrom.and (Own.from (boxed_own _ _ _) _) (fun s X Y row hs hg hr => hs.kept hg (fun e => by have := (hr _ e.symm).1; omega)))) (ownFrom_below (Nat.le_refl _) hb0.size))
    (fun _ _ _ _ _ hs _ _ => hs)
    ⟨⟨⟨_, bP, World.ownsRow_nil _ _ _ _, trivial⟩, bM, hM0⟩, hb0⟩
    (fun x a' W => ∃ Bx, w2.heap.size < Bx ∧ CbN W Bx x.c.1 x.c.2.1 x.c.2.2 ∧ a' = { tmps := #[.slice a1 A.length cap1, .slice a2 B.length cap2, undef, undef, .slice none 0 0, .pointer (some ⟨w1.heap.size, 0, none⟩), .pointer (some ⟨w2.heap.size, 0, none⟩), .pointer (some ⟨Bx, 0, none⟩), undef, undef, undef, undef, .slice a2 B.length cap2, .map (some w.heap.size), .map (some w.heap.size), .agg #[.int .i64 3, .string ⟨#[]⟩, .string ⟨#[]⟩, .int .i64 0], .slice a1 A.length cap1, .slice a2 B.length cap2, .func (.func 140) #[] #[.pointer (some ⟨w2.heap.size + 1, 0, none⟩), .pointer (some ⟨w2.heap.size + 1 + 1, 0, none⟩), .pointer (some ⟨w2.heap.size + 1 + 2, 0, none⟩)], chgVN x.c, undef, undef, undef, undef, undef, undef, undef, undef, undef, undef, undef, undef, undef, undef, undef, undef, undef, undef, undef, undef, undef, undef, undef, undef, undef, undef, undef, undef, undef, undef, undef, undef, undef, undef, undef, undef, undef], defers := [] })
    (fun x a' _ X Y row hs hg hr => by obtain ⟨Bx, k1, k2, k3⟩ := hs; exact ⟨Bx, k1, cbN_own Bx k2 hg (fun r e => (hr r e).2), k3⟩)
    ?assign ?body ?done ?stop
  case assign =>
    rintro l pre x W K ⟨⟨⟨v, bv, hrow, -⟩, bm, hmp⟩, hB⟩ hK
    simp only [chgVN]
    gi_wp2
    exact hK _ _ ((KeepsOthers.alloc _ _).from _) (KeepD.of ((Below.refl _ W).alloc (Nat.le_refl _) _) hB.size) ⟨⟨⟨v, bv.alloc _, hrow.alloc _, trivial⟩, bm.alloc _, hmp.below ((Below.refl _ W).alloc (Nat.le_refl _) _)⟩, hB.alloc hB.size _⟩ ⟨W.heap.size, bv.lt, alloc_here _ _, rfl⟩
  case body =>
    rintro l pre x a' W hl ⟨r, hr⟩ ⟨⟨⟨v, bl, hrow, -⟩, bm, hmp⟩, hB⟩ ⟨Bx, hBx, hcb, rfl⟩ hlt
    obtain ⟨c, hcm⟩ := x
    simp only at hcb ⊢
    have HD := Lib.hid ((chg_mem A B HTA.out.sorted HTB.out.sorted c).1 hcm)
    have hcp : pathB c.1.data.toList = true := chg_path HTA.out.is.path HTB.out.is.path HD.out
    have HCP := Lib.hid hcp
    have hcs := path_max hcp
    have hc64 := (pth_64 hcp)
    have HLP : Hid (lbL B ((pre ++ [(⟨c, hcm⟩ : ItC A B)]).map ItC.c) = stepB B (lbL B (pre.map ItC.c)) c) := by show _ = _; rw [List.map_append]; exact lbL_snoc B _ c
    have hLL : (lbL B (pre.map ItC.c)).length ≤ 192 := by
      have h1 := lbL_len B (pre.map ItC.c) (fun d hd => by
        obtain ⟨y, _, rfl⟩ := List.mem_map.1 hd
        exact chg_path HTA.out.is.path HTB.out.is.path ((chg_mem A B HTA.out.sorted HTB.out.sorted _).1 y.mem))
      rw [List.length_map] at h1
      omega
    have hPAR := parentOf_impl c.1 W hcs
    rw [askC_yes hc64 hcp, show strV (parS c.1) = .string (parO c.1) by unfold parS; rw [hcp]; rfl] at hPAR
    obtain ⟨e0, -⟩ := hcb.cells
    have hFR : Fr w.heap.size w1.heap.size w.heap.size (B.length + 1) (w2.heap.size + 1 + 2) Bx c (rootN :: B) W W := ⟨Below.refl _ _, KeepsOthers.refl _, fun z hz => hz, hcb, bm, hmp⟩
    have HFR := Lib.hid hFR
    have hBs := hB.size
    have HPO : (parO c.1).size ≤ maxLen := by
      have h0 := hcs
      by_cases hp : parentL c.1.data.toList = []
      · rw [parO_root hp]; decide
      · exact path_max (parts_parent hcp hp).1
    generalize hLQ : lbL B (pre.map ItC.c) = LP at *
    clear hFR hLQ hcp hmp bm
    gi_wp2
    refine ⟨trivial, (CallsIn.inRound l (callsIn_wide.2 hPAR)).mono ?_⟩
    rintro e W1 ⟨rfl, hb1⟩
    have hF1 := HFR.out.below hBs hb1
    obtain ⟨rp, hrun, hlook⟩ := hF1.map.look (parO c.1) HPO
    have HH := Lib.hid (look_homed HTB.out.is hlook)
    have bl1 : Boxed W1 w2.heap.size 27 v := (hb1.block _ bl.lt).trans bl
    have hrow1 := own_below hrow hb1
    have hBs1 := Nat.le_trans hBs hb1.size
    have hmc := hF1.bm.cell
    unfold R.nod at hrun
    clear hlook hPAR hb1 bl hrow e0 hcb
    by_cases hk : rp.k = 3
    · have hd : (rp.k != 3) = false := by simp [hk]
      have HHT : Hid (homed B c.1 = true) := HH.out.trans (decide_eq_true hk)
      have HPA := pathsAbove_any c.1 W1 HCP.out
      obtain ⟨e0, -⟩ := hF1.cb.cells
      have HF1 := Lib.hid hF1
      have hu3 := ups_3 HCP.out
      clear hk HH hF1
      gi_wp2
      refine field_at (v' := .int .i64 rp.k) rfl ?_
      gi_wp2
      refine ⟨trivial, (CallsIn.inRound l (callsIn_wide.2 HPA)).mono ?_⟩
      rintro e W2 ⟨pv, rfl, hb2, hpr⟩
      have hF2 := HF1.out.below hBs1 hb2
      have bl2 : Boxed W2 w2.heap.size 27 v := (hb2.block _ bl1.lt).trans bl1
      have hrow2 := own_below hrow1 hb2
      have hBs2 := Nat.le_trans hBs1 hb2.size
      have hrl : (ups c.1).length = (ups c.1).reverse.length := by simp
      have HUP : Hid (∀ a ∈ (ups c.1).reverse, a ∈ ups c.1) := fun a ha => List.mem_reverse.1 ha
      rw [hrl] at hpr hu3
      have HST : Hid (stepB B LP c = (ups c.1).reverse.foldl (addB B) LP ++ [aftR c]) := by show _ = _; unfold stepB; rw [HHT.out]; rfl
      have HROW := Lib.hid hpr
      clear hrl
      generalize hPP : (ups c.1).reverse = PP at *
      clear hPP
      obtain ⟨pA, pcap, rfl⟩ := own_form hpr
      have HF2 := Lib.hid hF2
      have HBL2 := Lib.hid bl2
      have HROW2 := Lib.hid hrow2
      clear hF2 bl2 hrow2 hrow1 bl1 HF1 HPA hpr e0 hmc hrun
      gi_wp2
      gi_loopw [35] (fun i wr => ∃ (k : Nat) (M : List R) (u : Value), k ≤ PP.length ∧ i = .int .i64 k ∧ Hid (M = (PP.take k).foldl (addB B) LP) ∧ M.length ≤ 192 + k ∧ Hid (Boxed wr w2.heap.size 27 u) ∧ Hid (wr.ownsRow w.heap.size 53 5 u M.length (flat M)) ∧ Hid (Fr w.heap.size w1.heap.size w.heap.size (B.length + 1) (w2.heap.size + 1 + 2) Bx c (rootN :: B) W wr) ∧ wr.ownsRow W1.heap.size 9 1 (.slice pA PP.length pcap) PP.length (sv PP)) (fun i _ => PP.length - (intOf i).toNat)
      case atStart => exact ⟨0, LP, v, by omega, rfl, rfl, by omega, HBL2, HROW2, HF2, HROW.out⟩
      case round =>
        obtain ⟨k, M, u, hk, rfl, HM, hMl, HBL, HRW, HF, hpr⟩ := hrel
        obtain ⟨uA, ucap, rfl⟩ := own_form HRW.out
        have hws : w.heap.size ≤ wr.heap.size := Nat.le_trans hB.size HF.out.bel.size
        have hPl : w.heap.size ≤ w2.heap.size := hsz2
        have hn1 : w2.heap.size ≠ Bx := by omega
        have hn2 : w2.heap.size ≠ w1.heap.size := by omega
        have hn3 : w2.heap.size ≠ w2.heap.size + 1 + 2 := by omega
        have hn4 : w2.heap.size ≠ w.heap.size := by omega
        by_cases hlt2 : k < PP.length
        · have hki : (k : Int) < (PP.length : Int) := by omega
          have hk0 : (0 : Int) ≤ (k : Int) := by omega
          have hup := HUP.out _ (List.getElem_mem hlt2)
          have hdm := path_max (ups_path HCP.out _ hup)
          obtain ⟨pg, ppc, hpe, _, _, hplt, hpcell⟩ := own_slice hpr (by omega)
          cases hpe
          have hpc : wr.cell? ⟨pg, k, none⟩ = some (.string PP[k]) := by
            have h1 := hpr.cellAt k (by omega)
            rw [show (sv PP)[k]? = some (.string PP[k]) by unfold sv; rw [List.getElem?_map, List.getElem?_eq_getElem hlt2]; rfl] at h1
            simpa using h1
          have hbc := HBL.out.cell
          have HIX := indexOfPath_any (.slice uA M.length ucap) M PP[k] wr (RowOf.sl ⟨rfl, HRW.out⟩) (by omega)
          have HTK := Lib.hid (addB_take B LP PP hlt2)
          rcases atL_recAt M PP[k] with ⟨ha, hn⟩ | ⟨j, hj, ha, hn⟩
          · have HN : Hid (∀ r, recB B PP[k] = r → Hid (M ++ [r] = (PP.take (k + 1)).foldl (addB B) LP)) := fun r hr => by show _ = _; rw [HTK.out, ← HM.out, addB_none hn, hr]
            rw [ha] at HIX
            clear hn ha
            gi_wp2
            refine ⟨trivial, (CallsIn.inRound l (callsIn_wide.2 HIX)).mono ?_⟩
            rintro e wq ⟨rfl, hbi⟩
            replace HBL : Hid (Boxed wq w2.heap.size 27 (.slice uA M.length ucap)) := (hbi.block _ HBL.out.lt).trans HBL.out
            replace HRW := Lib.hid (own_below HRW.out hbi)
            replace HF := Lib.hid (HF.out.below hws hbi)
            have HPR := Lib.hid (own_below hpr hbi)
            replace hws := Nat.le_trans hws hbi.size
            clear hbi HIX hbc hpc hpr
            gi_wp2
            refine wpIn_region_any (by kernel_rfl) ?_
            change wpAnyIn _ _ _ _ _ _ _ _ _ (World.drew _)
            have hbl0 : Boxed wq.drew w2.heap.size 27 (.slice uA M.length ucap) := HBL.out
            have hrw0 : wq.drew.ownsRow w.heap.size 53 5 (.slice uA M.length ucap) M.length (flat M) := HRW.out
            have hf0 := HF.out.drew hws
            have hws0 : w.heap.size ≤ wq.drew.heap.size := hws
            have HBL0 := Lib.hid hbl0
            have HRW0 := Lib.hid hrw0
            have HF0 := Lib.hid hf0
            have hpr0 : wq.drew.ownsRow W1.heap.size 9 1 (.slice (some ⟨pg, 0, none⟩) PP.length pcap) PP.length (sv PP) := HPR.out
            have HPR0 := Lib.hid hpr0
            clear hpr0 HPR
            obtain ⟨rn, hrun, hlook⟩ := hf0.map.look PP[k] hdm
            have HRB := Lib.hid (look_rec HTB.out.is HOB.out HCP.out HHT.out hup hlook)
            have HRV : Hid (∀ W, Calls Tryz.prog 134 #[.agg #[.int .i64 rn.k, .string rn.p, .string rn.b, .int .i64 rn.m]] W fun e w' => e = .returned (.agg #[.int .i64 rn.k, .string rn.p, .string rn.b, .int .i64 rn.m, .bool false]) ∧ Below W.heap.size W w') := fun W => by
              have := recordOfNode_any rn HRB.out.2 W
              unfold R.nod R.val at this
              rw [HRB.out.2] at this
              exact this
            have HCS : Hid (R.cs rn = [.int .i64 rn.k, .string rn.p, .string rn.b, .int .i64 rn.m, .bool false]) := by show _ = _; unfold R.cs; rw [HRB.out.2]
            unfold R.nod at hrun
            clear hlook
            clear hbl0 hrw0 hf0 HBL HRW HF
            generalize wq.drew = wd at *
            refine wpAnyIn_ready (rs := [0, 1, 2]) (by kernel_rfl) (by simp) ?_
            refine AllReadyIn.cons rfl (fun K hK => ?_) ?_
            · have hc0 := (HBL0.out).cell
              go_simp
              refine hK _ _ ?_
              clear hK K hc0
              refine wpAnyIn_ready (rs := [1, 2]) (by kernel_rfl) (by simp) ?_
              refine AllReadyIn.cons rfl (fun K hK => ?_) ?_
              · have hc0 := HF0.out.bm.cell
                go_simp
                refine hK _ _ ?_
                clear hK K hc0
                refine wpAnyIn_ready (rs := [2]) (by kernel_rfl) (by simp) ?_
                refine AllReadyIn.cons rfl (fun K hK => ?_) ?_
                · go_simp
                  refine hK _ _ ?_
                  clear hK K
                  refine wpAnyIn_ready (rs := [3]) (by kernel_rfl) (by simp) ?_
                  refine AllReadyIn.cons rfl (fun K hK => ?_) ?_
                  · go_simp
                    refine hK _ _ ?_
                    clear hK K
                    refine wpAnyIn_ready (rs := [4]) (by kernel_rfl) (by simp) ?_
                    refine AllReadyIn.cons rfl (fun K hK => ?_) ?_
                    · go_simp
                      refine ⟨trivial, (CallsIn.inRound l (callsIn_wide.2 (HRV.out _))).mono ?_⟩
                      rintro e w3 ⟨rfl, hb3⟩
                      have HBL1 : Hid (Boxed w3 w2.heap.size 27 (.slice uA M.length ucap)) := (hb3.block _ HBL0.out.lt).trans HBL0.out
                      have HRW1 := Lib.hid (own_below HRW0.out hb3)
                      have HPR1 := Lib.hid (own_below HPR0.out hb3)
                      clear HPR0
                      have HF1 := Lib.hid (HF0.out.below hws0 hb3)
                      have hws1 := Nat.le_trans hws0 hb3.size
                      refine hK _ _ ?_
                      clear hK K hb3 HBL0 HRW0 HF0
                      refine wpAnyIn_ready (rs := [5]) (by kernel_rfl) (by simp) ?_
                      refine AllReadyIn.cons rfl (fun K hK => ?_) ?_
                      · go_simp
                        refine hK _ _ ?_
                        clear hK K
                        refine wpAnyIn_ready (rs := [6]) (by kernel_rfl) (by simp) ?_
                        refine AllReadyIn.cons rfl (fun K hK => ?_) ?_
                        · refine stepIn_append_own _ (by rfl) (.tmp 43) (.tmp 48) 27 (by rfl) w.heap.size 53 i0 (.agg #[.int .i64 0, .string ByteArray.empty, .string ByteArray.empty, .int .i64 0, .bool false]) 5 56 Tryz.underlying27 hi hI0 hI1 hI2 rfl (by decide) (.slice uA M.length ucap) M.length (flat M) (by simp [Act.eval]) (HRW1.out.alloc (.cells #[.int .i64 rn.k, .string rn.p, .string rn.b, .int .i64 rn.m, .bool false] 53)) ⟨w3.heap.size, 0, none⟩ 1 1 (R.cs rn) (by simp [Act.eval]) rfl (by have h := rec_cells_new w3 rn 53; rw [HRB.out.2] at h; exact h) (rec_one rn) (by unfold maxLen; omega) (by omega) (by simp; omega) ?_
                          intro v' w9 hown' hgrow
                          obtain ⟨g', cap', rfl⟩ := ownsRow_succ hown'
                          have HS := Lib.hid (Fr.step HF1.out HBL1.out HRW1.out hws1 hPl hn1 hn2 hn3 hn4 hown' hgrow)
                          have hv1 := (HBL1.out.appended (by decide) HRW1.out hws1 hPl hown' hgrow).1
                          have hc1 := hv1.cell
                          have hf1 := hv1.frozen
                          have HPRF := Lib.hid (row_step (v' := .slice (some ⟨g', 0, none⟩) (M.length + 1) cap') HPR1.out HBL1.out HRW1.out hgrow)
                          refine hK _ _ ?_
                          clear hK K hown' hgrow hv1 HF1 HBL1 HRW1
                          refine wpAnyIn_ready (rs := [7]) (by kernel_rfl) (by simp) ?_
                          refine AllReadyIn.cons rfl (fun K hK => ?_) ?_
                          · go_simp
                            refine hK _ _ ?_
                            clear hK K hc1 hf1
                            refine wpAnyIn_done (by kernel_rfl) ?_ _
                            gi_wp2
                            exact ⟨⟨k + 1, M ++ [rn], _, by omega, by go_num, HN.out rn HRB.out.1, by rw [List.length_append, List.length_singleton]; omega, HS.out.1, by show World.ownsRow _ _ _ _ _ _ _; rw [List.length_append, List.length_singleton, flat_snoc]; exact HS.out.2.1, HS.out.2.2, HPRF.out⟩, by simp [intOf]; omega⟩
                          exact AllReadyIn.nil
                        exact AllReadyIn.nil
                      exact AllReadyIn.nil
                    exact AllReadyIn.nil
                  exact AllReadyIn.nil
                exact AllReadyIn.nil
              refine AllReadyIn.cons rfl (fun K hK => ?_) ?_
              · go_simp
                refine hK _ _ ?_
                clear hK K
                refine wpAnyIn_ready (rs := [1]) (by kernel_rfl) (by simp) ?_
                refine AllReadyIn.cons rfl (fun K hK => ?_) ?_
                · have hc0 := HF0.out.bm.cell
                  go_simp
                  refine hK _ _ ?_
                  clear hK K hc0
                  refine wpAnyIn_ready (rs := [3]) (by kernel_rfl) (by simp) ?_
                  refine AllReadyIn.cons rfl (fun K hK => ?_) ?_
                  · go_simp
                    refine hK _ _ ?_
                    clear hK K
                    refine wpAnyIn_ready (rs := [4]) (by kernel_rfl) (by simp) ?_
                    refine AllReadyIn.cons rfl (fun K hK => ?_) ?_
                    · go_simp
                      refine ⟨trivial, (CallsIn.inRound l (callsIn_wide.2 (HRV.out _))).mono ?_⟩
                      rintro e w3 ⟨rfl, hb3⟩
                      have HBL1 : Hid (Boxed w3 w2.heap.size 27 (.slice uA M.length ucap)) := (hb3.block _ HBL0.out.lt).trans HBL0.out
                      have HRW1 := Lib.hid (own_below HRW0.out hb3)
                      have HPR1 := Lib.hid (own_below HPR0.out hb3)
                      clear HPR0
                      have HF1 := Lib.hid (HF0.out.below hws0 hb3)
                      have hws1 := Nat.le_trans hws0 hb3.size
                      refine hK _ _ ?_
                      clear hK K hb3 HBL0 HRW0 HF0
                      refine wpAnyIn_ready (rs := [5]) (by kernel_rfl) (by simp) ?_
                      refine AllReadyIn.cons rfl (fun K hK => ?_) ?_
                      · go_simp
                        refine hK _ _ ?_
                        clear hK K
                        refine wpAnyIn_ready (rs := [6]) (by kernel_rfl) (by simp) ?_
                        refine AllReadyIn.cons rfl (fun K hK => ?_) ?_
                        · refine stepIn_append_own _ (by rfl) (.tmp 43) (.tmp 48) 27 (by rfl) w.heap.size 53 i0 (.agg #[.int .i64 0, .string ByteArray.empty, .string ByteArray.empty, .int .i64 0, .bool false]) 5 56 Tryz.underlying27 hi hI0 hI1 hI2 rfl (by decide) (.slice uA M.length ucap) M.length (flat M) (by simp [Act.eval]) (HRW1.out.alloc (.cells #[.int .i64 rn.k, .string rn.p, .string rn.b, .int .i64 rn.m, .bool false] 53)) ⟨w3.heap.size, 0, none⟩ 1 1 (R.cs rn) (by simp [Act.eval]) rfl (by have h := rec_cells_new w3 rn 53; rw [HRB.out.2] at h; exact h) (rec_one rn) (by unfold maxLen; omega) (by omega) (by simp; omega) ?_
                          intro v' w9 hown' hgrow
                          obtain ⟨g', cap', rfl⟩ := ownsRow_succ hown'
                          have HS := Lib.hid (Fr.step HF1.out HBL1.out HRW1.out hws1 hPl hn1 hn2 hn3 hn4 hown' hgrow)
                          have hv1 := (HBL1.out.appended (by decide) HRW1.out hws1 hPl hown' hgrow).1
                          have hc1 := hv1.cell
                          have hf1 := hv1.frozen
                          have HPRF := Lib.hid (row_step (v' := .slice (some ⟨g', 0, none⟩) (M.length + 1) cap') HPR1.out HBL1.out HRW1.out hgrow)
                          refine hK _ _ ?_
                          clear hK K hown' hgrow hv1 HF1 HBL1 HRW1
                          refine wpAnyIn_ready (rs := [7]) (by kernel_rfl) (by simp) ?_
                          refine AllReadyIn.cons rfl (fun K hK => ?_) ?_
                          · go_simp
                            refine hK _ _ ?_
                            clear hK K hc1 hf1
                            refine wpAnyIn_done (by kernel_rfl) ?_ _
                            gi_wp2
                            exact ⟨⟨k + 1, M ++ [rn], _, by omega, by go_num, HN.out rn HRB.out.1, by rw [List.length_append, List.length_singleton]; omega, HS.out.1, by show World.ownsRow _ _ _ _ _ _ _; rw [List.length_append, List.length_singleton, flat_snoc]; exact HS.out.2.1, HS.out.2.2, HPRF.out⟩, by simp [intOf]; omega⟩
                          exact AllReadyIn.nil
                        exact AllReadyIn.nil
                      exact AllReadyIn.nil
                    exact AllReadyIn.nil
                  exact AllReadyIn.nil
                exact AllReadyIn.nil
              exact AllReadyIn.nil
            refine AllReadyIn.cons rfl (fun K hK => ?_) ?_
            · have hc0 := HF0.out.bm.cell
              go_simp
              refine hK _ _ ?_
              clear hK K hc0
              refine wpAnyIn_ready (rs := [0, 2]) (by kernel_rfl) (by simp) ?_
              refine AllReadyIn.cons rfl (fun K hK => ?_) ?_
              · have hc0 := (HBL0.out).cell
                go_simp
                refine hK _ _ ?_
                clear hK K hc0
                refine wpAnyIn_ready (rs := [2]) (by kernel_rfl) (by simp) ?_
                refine AllReadyIn.cons rfl (fun K hK => ?_) ?_
                · go_simp
                  refine hK _ _ ?_
                  clear hK K
                  refine wpAnyIn_ready (rs := [3]) (by kernel_rfl) (by simp) ?_
                  refine AllReadyIn.cons rfl (fun K hK => ?_) ?_
                  · go_simp
                    refine hK _ _ ?_
                    clear hK K
                    refine wpAnyIn_ready (rs := [4]) (by kernel_rfl) (by simp) ?_
                    refine AllReadyIn.cons rfl (fun K hK => ?_) ?_
                    · go_simp
                      refine ⟨trivial, (CallsIn.inRound l (callsIn_wide.2 (HRV.out _))).mono ?_⟩
                      rintro e w3 ⟨rfl, hb3⟩
                      have HBL1 : Hid (Boxed w3 w2.heap.size 27 (.slice uA M.length ucap)) := (hb3.block _ HBL0.out.lt).trans HBL0.out
                      have HRW1 := Lib.hid (own_below HRW0.out hb3)
                      have HPR1 := Lib.hid (own_below HPR0.out hb3)
                      clear HPR0
                      have HF1 := Lib.hid (HF0.out.below hws0 hb3)
                      have hws1 := Nat.le_trans hws0 hb3.size
                      refine hK _ _ ?_
                      clear hK K hb3 HBL0 HRW0 HF0
                      refine wpAnyIn_ready (rs := [5]) (by kernel_rfl) (by simp) ?_
                      refine AllReadyIn.cons rfl (fun K hK => ?_) ?_
                      · go_simp
                        refine hK _ _ ?_
                        clear hK K
                        refine wpAnyIn_ready (rs := [6]) (by kernel_rfl) (by simp) ?_
                        refine AllReadyIn.cons rfl (fun K hK => ?_) ?_
                        · refine stepIn_append_own _ (by rfl) (.tmp 43) (.tmp 48) 27 (by rfl) w.heap.size 53 i0 (.agg #[.int .i64 0, .string ByteArray.empty, .string ByteArray.empty, .int .i64 0, .bool false]) 5 56 Tryz.underlying27 hi hI0 hI1 hI2 rfl (by decide) (.slice uA M.length ucap) M.length (flat M) (by simp [Act.eval]) (HRW1.out.alloc (.cells #[.int .i64 rn.k, .string rn.p, .string rn.b, .int .i64 rn.m, .bool false] 53)) ⟨w3.heap.size, 0, none⟩ 1 1 (R.cs rn) (by simp [Act.eval]) rfl (by have h := rec_cells_new w3 rn 53; rw [HRB.out.2] at h; exact h) (rec_one rn) (by unfold maxLen; omega) (by omega) (by simp; omega) ?_
                          intro v' w9 hown' hgrow
                          obtain ⟨g', cap', rfl⟩ := ownsRow_succ hown'
                          have HS := Lib.hid (Fr.step HF1.out HBL1.out HRW1.out hws1 hPl hn1 hn2 hn3 hn4 hown' hgrow)
                          have hv1 := (HBL1.out.appended (by decide) HRW1.out hws1 hPl hown' hgrow).1
                          have hc1 := hv1.cell
                          have hf1 := hv1.frozen
                          have HPRF := Lib.hid (row_step (v' := .slice (some ⟨g', 0, none⟩) (M.length + 1) cap') HPR1.out HBL1.out HRW1.out hgrow)
                          refine hK _ _ ?_
                          clear hK K hown' hgrow hv1 HF1 HBL1 HRW1
                          refine wpAnyIn_ready (rs := [7]) (by kernel_rfl) (by simp) ?_
                          refine AllReadyIn.cons rfl (fun K hK => ?_) ?_
                          · go_simp
                            refine hK _ _ ?_
                            clear hK K hc1 hf1
                            refine wpAnyIn_done (by kernel_rfl) ?_ _
                            gi_wp2
                            exact ⟨⟨k + 1, M ++ [rn], _, by omega, by go_num, HN.out rn HRB.out.1, by rw [List.length_append, List.length_singleton]; omega, HS.out.1, by show World.ownsRow _ _ _ _ _ _ _; rw [List.length_append, List.length_singleton, flat_snoc]; exact HS.out.2.1, HS.out.2.2, HPRF.out⟩, by simp [intOf]; omega⟩
                          exact AllReadyIn.nil
                        exact AllReadyIn.nil
                      exact AllReadyIn.nil
                    exact AllReadyIn.nil
                  exact AllReadyIn.nil
                exact AllReadyIn.nil
              refine AllReadyIn.cons rfl (fun K hK => ?_) ?_
              · go_simp
                refine hK _ _ ?_
                clear hK K
                refine wpAnyIn_ready (rs := [0, 3]) (by kernel_rfl) (by simp) ?_
                refine AllReadyIn.cons rfl (fun K hK => ?_) ?_
                · have hc0 := (HBL0.out).cell
                  go_simp
                  refine hK _ _ ?_
                  clear hK K hc0
                  refine wpAnyIn_ready (rs := [3]) (by kernel_rfl) (by simp) ?_
                  refine AllReadyIn.cons rfl (fun K hK => ?_) ?_
                  · go_simp
                    refine hK _ _ ?_
                    clear hK K
                    refine wpAnyIn_ready (rs := [4]) (by kernel_rfl) (by simp) ?_
                    refine AllReadyIn.cons rfl (fun K hK => ?_) ?_
                    · go_simp
                      refine ⟨trivial, (CallsIn.inRound l (callsIn_wide.2 (HRV.out _))).mono ?_⟩
                      rintro e w3 ⟨rfl, hb3⟩
                      have HBL1 : Hid (Boxed w3 w2.heap.size 27 (.slice uA M.length ucap)) := (hb3.block _ HBL0.out.lt).trans HBL0.out
                      have HRW1 := Lib.hid (own_below HRW0.out hb3)
                      have HPR1 := Lib.hid (own_below HPR0.out hb3)
                      clear HPR0
                      have HF1 := Lib.hid (HF0.out.below hws0 hb3)
                      have hws1 := Nat.le_trans hws0 hb3.size
                      refine hK _ _ ?_
                      clear hK K hb3 HBL0 HRW0 HF0
                      refine wpAnyIn_ready (rs := [5]) (by kernel_rfl) (by simp) ?_
                      refine AllReadyIn.cons rfl (fun K hK => ?_) ?_
                      · go_simp
                        refine hK _ _ ?_
                        clear hK K
                        refine wpAnyIn_ready (rs := [6]) (by kernel_rfl) (by simp) ?_
                        refine AllReadyIn.cons rfl (fun K hK => ?_) ?_
                        · refine stepIn_append_own _ (by rfl) (.tmp 43) (.tmp 48) 27 (by rfl) w.heap.size 53 i0 (.agg #[.int .i64 0, .string ByteArray.empty, .string ByteArray.empty, .int .i64 0, .bool false]) 5 56 Tryz.underlying27 hi hI0 hI1 hI2 rfl (by decide) (.slice uA M.length ucap) M.length (flat M) (by simp [Act.eval]) (HRW1.out.alloc (.cells #[.int .i64 rn.k, .string rn.p, .string rn.b, .int .i64 rn.m, .bool false] 53)) ⟨w3.heap.size, 0, none⟩ 1 1 (R.cs rn) (by simp [Act.eval]) rfl (by have h := rec_cells_new w3 rn 53; rw [HRB.out.2] at h; exact h) (rec_one rn) (by unfold maxLen; omega) (by omega) (by simp; omega) ?_
                          intro v' w9 hown' hgrow
                          obtain ⟨g', cap', rfl⟩ := ownsRow_succ hown'
                          have HS := Lib.hid (Fr.step HF1.out HBL1.out HRW1.out hws1 hPl hn1 hn2 hn3 hn4 hown' hgrow)
                          have hv1 := (HBL1.out.appended (by decide) HRW1.out hws1 hPl hown' hgrow).1
                          have hc1 := hv1.cell
                          have hf1 := hv1.frozen
                          have HPRF := Lib.hid (row_step (v' := .slice (some ⟨g', 0, none⟩) (M.length + 1) cap') HPR1.out HBL1.out HRW1.out hgrow)
                          refine hK _ _ ?_
                          clear hK K hown' hgrow hv1 HF1 HBL1 HRW1
                          refine wpAnyIn_ready (rs := [7]) (by kernel_rfl) (by simp) ?_
                          refine AllReadyIn.cons rfl (fun K hK => ?_) ?_
                          · go_simp
                            refine hK _ _ ?_
                            clear hK K hc1 hf1
                            refine wpAnyIn_done (by kernel_rfl) ?_ _
                            gi_wp2
                            exact ⟨⟨k + 1, M ++ [rn], _, by omega, by go_num, HN.out rn HRB.out.1, by rw [List.length_append, List.length_singleton]; omega, HS.out.1, by show World.ownsRow _ _ _ _ _ _ _; rw [List.length_append, List.length_singleton, flat_snoc]; exact HS.out.2.1, HS.out.2.2, HPRF.out⟩, by simp [intOf]; omega⟩
                          exact AllReadyIn.nil
                        exact AllReadyIn.nil
                      exact AllReadyIn.nil
                    exact AllReadyIn.nil
                  exact AllReadyIn.nil
                refine AllReadyIn.cons rfl (fun K hK => ?_) ?_
                · go_simp
                  refine hK _ _ ?_
                  clear hK K
                  refine wpAnyIn_ready (rs := [0, 4]) (by kernel_rfl) (by simp) ?_
                  refine AllReadyIn.cons rfl (fun K hK => ?_) ?_
                  · have hc0 := (HBL0.out).cell
                    go_simp
                    refine hK _ _ ?_
                    clear hK K hc0
                    refine wpAnyIn_ready (rs := [4]) (by kernel_rfl) (by simp) ?_
                    refine AllReadyIn.cons rfl (fun K hK => ?_) ?_
                    · go_simp
                      refine ⟨trivial, (CallsIn.inRound l (callsIn_wide.2 (HRV.out _))).mono ?_⟩
                      rintro e w3 ⟨rfl, hb3⟩
                      have HBL1 : Hid (Boxed w3 w2.heap.size 27 (.slice uA M.length ucap)) := (hb3.block _ HBL0.out.lt).trans HBL0.out
                      have HRW1 := Lib.hid (own_below HRW0.out hb3)
                      have HPR1 := Lib.hid (own_below HPR0.out hb3)
                      clear HPR0
                      have HF1 := Lib.hid (HF0.out.below hws0 hb3)
                      have hws1 := Nat.le_trans hws0 hb3.size
                      refine hK _ _ ?_
                      clear hK K hb3 HBL0 HRW0 HF0
                      refine wpAnyIn_ready (rs := [5]) (by kernel_rfl) (by simp) ?_
                      refine AllReadyIn.cons rfl (fun K hK => ?_) ?_
                      · go_simp
                        refine hK _ _ ?_
                        clear hK K
                        refine wpAnyIn_ready (rs := [6]) (by kernel_rfl) (by simp) ?_
                        refine AllReadyIn.cons rfl (fun K hK => ?_) ?_
                        · refine stepIn_append_own _ (by rfl) (.tmp 43) (.tmp 48) 27 (by rfl) w.heap.size 53 i0 (.agg #[.int .i64 0, .string ByteArray.empty, .string ByteArray.empty, .int .i64 0, .bool false]) 5 56 Tryz.underlying27 hi hI0 hI1 hI2 rfl (by decide) (.slice uA M.length ucap) M.length (flat M) (by simp [Act.eval]) (HRW1.out.alloc (.cells #[.int .i64 rn.k, .string rn.p, .string rn.b, .int .i64 rn.m, .bool false] 53)) ⟨w3.heap.size, 0, none⟩ 1 1 (R.cs rn) (by simp [Act.eval]) rfl (by have h := rec_cells_new w3 rn 53; rw [HRB.out.2] at h; exact h) (rec_one rn) (by unfold maxLen; omega) (by omega) (by simp; omega) ?_
                          intro v' w9 hown' hgrow
                          obtain ⟨g', cap', rfl⟩ := ownsRow_succ hown'
                          have HS := Lib.hid (Fr.step HF1.out HBL1.out HRW1.out hws1 hPl hn1 hn2 hn3 hn4 hown' hgrow)
                          have hv1 := (HBL1.out.appended (by decide) HRW1.out hws1 hPl hown' hgrow).1
                          have hc1 := hv1.cell
                          have hf1 := hv1.frozen
                          have HPRF := Lib.hid (row_step (v' := .slice (some ⟨g', 0, none⟩) (M.length + 1) cap') HPR1.out HBL1.out HRW1.out hgrow)
                          refine hK _ _ ?_
                          clear hK K hown' hgrow hv1 HF1 HBL1 HRW1
                          refine wpAnyIn_ready (rs := [7]) (by kernel_rfl) (by simp) ?_
                          refine AllReadyIn.cons rfl (fun K hK => ?_) ?_
                          · go_simp
                            refine hK _ _ ?_
                            clear hK K hc1 hf1
                            refine wpAnyIn_done (by kernel_rfl) ?_ _
                            gi_wp2
                            exact ⟨⟨k + 1, M ++ [rn], _, by omega, by go_num, HN.out rn HRB.out.1, by rw [List.length_append, List.length_singleton]; omega, HS.out.1, by show World.ownsRow _ _ _ _ _ _ _; rw [List.length_append, List.length_singleton, flat_snoc]; exact HS.out.2.1, HS.out.2.2, HPRF.out⟩, by simp [intOf]; omega⟩
                          exact AllReadyIn.nil
                        exact AllReadyIn.nil
                      exact AllReadyIn.nil
                    exact AllReadyIn.nil
                  refine AllReadyIn.cons rfl (fun K hK => ?_) ?_
                  · go_simp
                    refine ⟨trivial, (CallsIn.inRound l (callsIn_wide.2 (HRV.out _))).mono ?_⟩
                    rintro e w3 ⟨rfl, hb3⟩
                    have HBL1 : Hid (Boxed w3 w2.heap.size 27 (.slice uA M.length ucap)) := (hb3.block _ HBL0.out.lt).trans HBL0.out
                    have HRW1 := Lib.hid (own_below HRW0.out hb3)
                    have HPR1 := Lib.hid (own_below HPR0.out hb3)
                    clear HPR0
                    have HF1 := Lib.hid (HF0.out.below hws0 hb3)
                    have hws1 := Nat.le_trans hws0 hb3.size
                    refine hK _ _ ?_
                    clear hK K hb3 HBL0 HRW0 HF0
                    refine wpAnyIn_ready (rs := [0, 5]) (by kernel_rfl) (by simp) ?_
                    refine AllReadyIn.cons rfl (fun K hK => ?_) ?_
                    · have hc0 := (HBL1.out).cell
                      go_simp
                      refine hK _ _ ?_
                      clear hK K hc0
                      refine wpAnyIn_ready (rs := [5]) (by kernel_rfl) (by simp) ?_
                      refine AllReadyIn.cons rfl (fun K hK => ?_) ?_
                      · go_simp
                        refine hK _ _ ?_
                        clear hK K
                        refine wpAnyIn_ready (rs := [6]) (by kernel_rfl) (by simp) ?_
                        refine AllReadyIn.cons rfl (fun K hK => ?_) ?_
                        · refine stepIn_append_own _ (by rfl) (.tmp 43) (.tmp 48) 27 (by rfl) w.heap.size 53 i0 (.agg #[.int .i64 0, .string ByteArray.empty, .string ByteArray.empty, .int .i64 0, .bool false]) 5 56 Tryz.underlying27 hi hI0 hI1 hI2 rfl (by decide) (.slice uA M.length ucap) M.length (flat M) (by simp [Act.eval]) (HRW1.out.alloc (.cells #[.int .i64 rn.k, .string rn.p, .string rn.b, .int .i64 rn.m, .bool false] 53)) ⟨w3.heap.size, 0, none⟩ 1 1 (R.cs rn) (by simp [Act.eval]) rfl (by have h := rec_cells_new w3 rn 53; rw [HRB.out.2] at h; exact h) (rec_one rn) (by unfold maxLen; omega) (by omega) (by simp; omega) ?_
                          intro v' w9 hown' hgrow
                          obtain ⟨g', cap', rfl⟩ := ownsRow_succ hown'
                          have HS := Lib.hid (Fr.step HF1.out HBL1.out HRW1.out hws1 hPl hn1 hn2 hn3 hn4 hown' hgrow)
                          have hv1 := (HBL1.out.appended (by decide) HRW1.out hws1 hPl hown' hgrow).1
                          have hc1 := hv1.cell
                          have hf1 := hv1.frozen
                          have HPRF := Lib.hid (row_step (v' := .slice (some ⟨g', 0, none⟩) (M.length + 1) cap') HPR1.out HBL1.out HRW1.out hgrow)
                          refine hK _ _ ?_
                          clear hK K hown' hgrow hv1 HF1 HBL1 HRW1
                          refine wpAnyIn_ready (rs := [7]) (by kernel_rfl) (by simp) ?_
                          refine AllReadyIn.cons rfl (fun K hK => ?_) ?_
                          · go_simp
                            refine hK _ _ ?_
                            clear hK K hc1 hf1
                            refine wpAnyIn_done (by kernel_rfl) ?_ _
                            gi_wp2
                            exact ⟨⟨k + 1, M ++ [rn], _, by omega, by go_num, HN.out rn HRB.out.1, by rw [List.length_append, List.length_singleton]; omega, HS.out.1, by show World.ownsRow _ _ _ _ _ _ _; rw [List.length_append, List.length_singleton, flat_snoc]; exact HS.out.2.1, HS.out.2.2, HPRF.out⟩, by simp [intOf]; omega⟩
                          exact AllReadyIn.nil
                        exact AllReadyIn.nil
                      exact AllReadyIn.nil
                    refine AllReadyIn.cons rfl (fun K hK => ?_) ?_
                    · go_simp
                      refine hK _ _ ?_
                      clear hK K
                      refine wpAnyIn_ready (rs := [0]) (by kernel_rfl) (by simp) ?_
                      refine AllReadyIn.cons rfl (fun K hK => ?_) ?_
                      · have hc0 := ((HBL1.out.alloc (.cells #[.int .i64 rn.k, .string rn.p, .string rn.b, .int .i64 rn.m, .bool false] 53))).cell
                        go_simp
                        refine hK _ _ ?_
                        clear hK K hc0
                        refine wpAnyIn_ready (rs := [6]) (by kernel_rfl) (by simp) ?_
                        refine AllReadyIn.cons rfl (fun K hK => ?_) ?_
                        · refine stepIn_append_own _ (by rfl) (.tmp 43) (.tmp 48) 27 (by rfl) w.heap.size 53 i0 (.agg #[.int .i64 0, .string ByteArray.empty, .string ByteArray.empty, .int .i64 0, .bool false]) 5 56 Tryz.underlying27 hi hI0 hI1 hI2 rfl (by decide) (.slice uA M.length ucap) M.length (flat M) (by simp [Act.eval]) (HRW1.out.alloc (.cells #[.int .i64 rn.k, .string rn.p, .string rn.b, .int .i64 rn.m, .bool false] 53)) ⟨w3.heap.size, 0, none⟩ 1 1 (R.cs rn) (by simp [Act.eval]) rfl (by have h := rec_cells_new w3 rn 53; rw [HRB.out.2] at h; exact h) (rec_one rn) (by unfold maxLen; omega) (by omega) (by simp; omega) ?_
                          intro v' w9 hown' hgrow
                          obtain ⟨g', cap', rfl⟩ := ownsRow_succ hown'
                          have HS := Lib.hid (Fr.step HF1.out HBL1.out HRW1.out hws1 hPl hn1 hn2 hn3 hn4 hown' hgrow)
                          have hv1 := (HBL1.out.appended (by decide) HRW1.out hws1 hPl hown' hgrow).1
                          have hc1 := hv1.cell
                          have hf1 := hv1.frozen
                          have HPRF := Lib.hid (row_step (v' := .slice (some ⟨g', 0, none⟩) (M.length + 1) cap') HPR1.out HBL1.out HRW1.out hgrow)
                          refine hK _ _ ?_
                          clear hK K hown' hgrow hv1 HF1 HBL1 HRW1
                          refine wpAnyIn_ready (rs := [7]) (by kernel_rfl) (by simp) ?_
                          refine AllReadyIn.cons rfl (fun K hK => ?_) ?_
                          · go_simp
                            refine hK _ _ ?_
                            clear hK K hc1 hf1
                            refine wpAnyIn_done (by kernel_rfl) ?_ _
                            gi_wp2
                            exact ⟨⟨k + 1, M ++ [rn], _, by omega, by go_num, HN.out rn HRB.out.1, by rw [List.length_append, List.length_singleton]; omega, HS.out.1, by show World.ownsRow _ _ _ _ _ _ _; rw [List.length_append, List.length_singleton, flat_snoc]; exact HS.out.2.1, HS.out.2.2, HPRF.out⟩, by simp [intOf]; omega⟩
                          exact AllReadyIn.nil
                        exact AllReadyIn.nil
                      exact AllReadyIn.nil
                    exact AllReadyIn.nil
                  exact AllReadyIn.nil
                exact AllReadyIn.nil
              exact AllReadyIn.nil
            refine AllReadyIn.cons rfl (fun K hK => ?_) ?_
            · go_simp
              refine hK _ _ ?_
              clear hK K
              refine wpAnyIn_ready (rs := [0, 1]) (by kernel_rfl) (by simp) ?_
              refine AllReadyIn.cons rfl (fun K hK => ?_) ?_
              · have hc0 := (HBL0.out).cell
                go_simp
                refine hK _ _ ?_
                clear hK K hc0
                refine wpAnyIn_ready (rs := [1]) (by kernel_rfl) (by simp) ?_
                refine AllReadyIn.cons rfl (fun K hK => ?_) ?_
                · have hc0 := HF0.out.bm.cell
                  go_simp
                  refine hK _ _ ?_
                  clear hK K hc0
                  refine wpAnyIn_ready (rs := [3]) (by kernel_rfl) (by simp) ?_
                  refine AllReadyIn.cons rfl (fun K hK => ?_) ?_
                  · go_simp
                    refine hK _ _ ?_
                    clear hK K
                    refine wpAnyIn_ready (rs := [4]) (by kernel_rfl) (by simp) ?_
                    refine AllReadyIn.cons rfl (fun K hK => ?_) ?_
                    · go_simp
                      refine ⟨trivial, (CallsIn.inRound l (callsIn_wide.2 (HRV.out _))).mono ?_⟩
                      rintro e w3 ⟨rfl, hb3⟩
                      have HBL1 : Hid (Boxed w3 w2.heap.size 27 (.slice uA M.length ucap)) := (hb3.block _ HBL0.out.lt).trans HBL0.out
                      have HRW1 := Lib.hid (own_below HRW0.out hb3)
                      have HPR1 := Lib.hid (own_below HPR0.out hb3)
                      clear HPR0
                      have HF1 := Lib.hid (HF0.out.below hws0 hb3)
                      have hws1 := Nat.le_trans hws0 hb3.size
                      refine hK _ _ ?_
                      clear hK K hb3 HBL0 HRW0 HF0
                      refine wpAnyIn_ready (rs := [5]) (by kernel_rfl) (by simp) ?_
                      refine AllReadyIn.cons rfl (fun K hK => ?_) ?_
                      · go_simp
                        refine hK _ _ ?_
                        clear hK K
                        refine wpAnyIn_ready (rs := [6]) (by kernel_rfl) (by simp) ?_
                        refine AllReadyIn.cons rfl (fun K hK => ?_) ?_
                        · refine stepIn_append_own _ (by rfl) (.tmp 43) (.tmp 48) 27 (by rfl) w.heap.size 53 i0 (.agg #[.int .i64 0, .string ByteArray.empty, .string ByteArray.empty, .int .i64 0, .bool false]) 5 56 Tryz.underlying27 hi hI0 hI1 hI2 rfl (by decide) (.slice uA M.length ucap) M.length (flat M) (by simp [Act.eval]) (HRW1.out.alloc (.cells #[.int .i64 rn.k, .string rn.p, .string rn.b, .int .i64 rn.m, .bool false] 53)) ⟨w3.heap.size, 0, none⟩ 1 1 (R.cs rn) (by simp [Act.eval]) rfl (by have h := rec_cells_new w3 rn 53; rw [HRB.out.2] at h; exact h) (rec_one rn) (by unfold maxLen; omega) (by omega) (by simp; omega) ?_
                          intro v' w9 hown' hgrow
                          obtain ⟨g', cap', rfl⟩ := ownsRow_succ hown'
                          have HS := Lib.hid (Fr.step HF1.out HBL1.out HRW1.out hws1 hPl hn1 hn2 hn3 hn4 hown' hgrow)
                          have hv1 := (HBL1.out.appended (by decide) HRW1.out hws1 hPl hown' hgrow).1
                          have hc1 := hv1.cell
                          have hf1 := hv1.frozen
                          have HPRF := Lib.hid (row_step (v' := .slice (some ⟨g', 0, none⟩) (M.length + 1) cap') HPR1.out HBL1.out HRW1.out hgrow)
                          refine hK _ _ ?_
                          clear hK K hown' hgrow hv1 HF1 HBL1 HRW1
                          refine wpAnyIn_ready (rs := [7]) (by kernel_rfl) (by simp) ?_
                          refine AllReadyIn.cons rfl (fun K hK => ?_) ?_
                          · go_simp
                            refine hK _ _ ?_
                            clear hK K hc1 hf1
                            refine wpAnyIn_done (by kernel_rfl) ?_ _
                            gi_wp2
                            exact ⟨⟨k + 1, M ++ [rn], _, by omega, by go_num, HN.out rn HRB.out.1, by rw [List.length_append, List.length_singleton]; omega, HS.out.1, by show World.ownsRow _ _ _ _ _ _ _; rw [List.length_append, List.length_singleton, flat_snoc]; exact HS.out.2.1, HS.out.2.2, HPRF.out⟩, by simp [intOf]; omega⟩
                          exact AllReadyIn.nil
                        exact AllReadyIn.nil
                      exact AllReadyIn.nil
                    exact AllReadyIn.nil
                  exact AllReadyIn.nil
                exact AllReadyIn.nil
              refine AllReadyIn.cons rfl (fun K hK => ?_) ?_
              · have hc0 := HF0.out.bm.cell
                go_simp
                refine hK _ _ ?_
                clear hK K hc0
                refine wpAnyIn_ready (rs := [0, 3]) (by kernel_rfl) (by simp) ?_
                refine AllReadyIn.cons rfl (fun K hK => ?_) ?_
                · have hc0 := (HBL0.out).cell
                  go_simp
                  refine hK _ _ ?_
                  clear hK K hc0
                  refine wpAnyIn_ready (rs := [3]) (by kernel_rfl) (by simp) ?_
                  refine AllReadyIn.cons rfl (fun K hK => ?_) ?_
                  · go_simp
                    refine hK _ _ ?_
                    clear hK K
                    refine wpAnyIn_ready (rs := [4]) (by kernel_rfl) (by simp) ?_
                    refine AllReadyIn.cons rfl (fun K hK => ?_) ?_
                    · go_simp
                      refine ⟨trivial, (CallsIn.inRound l (callsIn_wide.2 (HRV.out _))).mono ?_⟩
                      rintro e w3 ⟨rfl, hb3⟩
                      have HBL1 : Hid (Boxed w3 w2.heap.size 27 (.slice uA M.length ucap)) := (hb3.block _ HBL0.out.lt).trans HBL0.out
                      have HRW1 := Lib.hid (own_below HRW0.out hb3)
                      have HPR1 := Lib.hid (own_below HPR0.out hb3)
                      clear HPR0
                      have HF1 := Lib.hid (HF0.out.below hws0 hb3)
                      have hws1 := Nat.le_trans hws0 hb3.size
                      refine hK _ _ ?_
                      clear hK K hb3 HBL0 HRW0 HF0
                      refine wpAnyIn_ready (rs := [5]) (by kernel_rfl) (by simp) ?_
                      refine AllReadyIn.cons rfl (fun K hK => ?_) ?_
                      · go_simp
                        refine hK _ _ ?_
                        clear hK K
                        refine wpAnyIn_ready (rs := [6]) (by kernel_rfl) (by simp) ?_
                        refine AllReadyIn.cons rfl (fun K hK => ?_) ?_
                        · refine stepIn_append_own _ (by rfl) (.tmp 43) (.tmp 48) 27 (by rfl) w.heap.size 53 i0 (.agg #[.int .i64 0, .string ByteArray.empty, .string ByteArray.empty, .int .i64 0, .bool false]) 5 56 Tryz.underlying27 hi hI0 hI1 hI2 rfl (by decide) (.slice uA M.length ucap) M.length (flat M) (by simp [Act.eval]) (HRW1.out.alloc (.cells #[.int .i64 rn.k, .string rn.p, .string rn.b, .int .i64 rn.m, .bool false] 53)) ⟨w3.heap.size, 0, none⟩ 1 1 (R.cs rn) (by simp [Act.eval]) rfl (by have h := rec_cells_new w3 rn 53; rw [HRB.out.2] at h; exact h) (rec_one rn) (by unfold maxLen; omega) (by omega) (by simp; omega) ?_
                          intro v' w9 hown' hgrow
                          obtain ⟨g', cap', rfl⟩ := ownsRow_succ hown'
                          have HS := Lib.hid (Fr.step HF1.out HBL1.out HRW1.out hws1 hPl hn1 hn2 hn3 hn4 hown' hgrow)
                          have hv1 := (HBL1.out.appended (by decide) HRW1.out hws1 hPl hown' hgrow).1
                          have hc1 := hv1.cell
                          have hf1 := hv1.frozen
                          have HPRF := Lib.hid (row_step (v' := .slice (some ⟨g', 0, none⟩) (M.length + 1) cap') HPR1.out HBL1.out HRW1.out hgrow)
                          refine hK _ _ ?_
                          clear hK K hown' hgrow hv1 HF1 HBL1 HRW1
                          refine wpAnyIn_ready (rs := [7]) (by kernel_rfl) (by simp) ?_
                          refine AllReadyIn.cons rfl (fun K hK => ?_) ?_
                          · go_simp
                            refine hK _ _ ?_
                            clear hK K hc1 hf1
                            refine wpAnyIn_done (by kernel_rfl) ?_ _
                            gi_wp2
                            exact ⟨⟨k + 1, M ++ [rn], _, by omega, by go_num, HN.out rn HRB.out.1, by rw [List.length_append, List.length_singleton]; omega, HS.out.1, by show World.ownsRow _ _ _ _ _ _ _; rw [List.length_append, List.length_singleton, flat_snoc]; exact HS.out.2.1, HS.out.2.2, HPRF.out⟩, by simp [intOf]; omega⟩
                          exact AllReadyIn.nil
                        exact AllReadyIn.nil
                      exact AllReadyIn.nil
                    exact AllReadyIn.nil
                  exact AllReadyIn.nil
                refine AllReadyIn.cons rfl (fun K hK => ?_) ?_
                · go_simp
                  refine hK _ _ ?_
                  clear hK K
                  refine wpAnyIn_ready (rs := [0, 4]) (by kernel_rfl) (by simp) ?_
                  refine AllReadyIn.cons rfl (fun K hK => ?_) ?_
                  · have hc0 := (HBL0.out).cell
                    go_simp
                    refine hK _ _ ?_
                    clear hK K hc0
                    refine wpAnyIn_ready (rs := [4]) (by kernel_rfl) (by simp) ?_
                    refine AllReadyIn.cons rfl (fun K hK => ?_) ?_
                    · go_simp
                      refine ⟨trivial, (CallsIn.inRound l (callsIn_wide.2 (HRV.out _))).mono ?_⟩
                      rintro e w3 ⟨rfl, hb3⟩
                      have HBL1 : Hid (Boxed w3 w2.heap.size 27 (.slice uA M.length ucap)) := (hb3.block _ HBL0.out.lt).trans HBL0.out
                      have HRW1 := Lib.hid (own_below HRW0.out hb3)
                      have HPR1 := Lib.hid (own_below HPR0.out hb3)
                      clear HPR0
                      have HF1 := Lib.hid (HF0.out.below hws0 hb3)
                      have hws1 := Nat.le_trans hws0 hb3.size
                      refine hK _ _ ?_
                      clear hK K hb3 HBL0 HRW0 HF0
                      refine wpAnyIn_ready (rs := [5]) (by kernel_rfl) (by simp) ?_
                      refine AllReadyIn.cons rfl (fun K hK => ?_) ?_
                      · go_simp
                        refine hK _ _ ?_
                        clear hK K
                        refine wpAnyIn_ready (rs := [6]) (by kernel_rfl) (by simp) ?_
                        refine AllReadyIn.cons rfl (fun K hK => ?_) ?_
                        · refine stepIn_append_own _ (by rfl) (.tmp 43) (.tmp 48) 27 (by rfl) w.heap.size 53 i0 (.agg #[.int .i64 0, .string ByteArray.empty, .string ByteArray.empty, .int .i64 0, .bool false]) 5 56 Tryz.underlying27 hi hI0 hI1 hI2 rfl (by decide) (.slice uA M.length ucap) M.length (flat M) (by simp [Act.eval]) (HRW1.out.alloc (.cells #[.int .i64 rn.k, .string rn.p, .string rn.b, .int .i64 rn.m, .bool false] 53)) ⟨w3.heap.size, 0, none⟩ 1 1 (R.cs rn) (by simp [Act.eval]) rfl (by have h := rec_cells_new w3 rn 53; rw [HRB.out.2] at h; exact h) (rec_one rn) (by unfold maxLen; omega) (by omega) (by simp; omega) ?_
                          intro v' w9 hown' hgrow
                          obtain ⟨g', cap', rfl⟩ := ownsRow_succ hown'
                          have HS := Lib.hid (Fr.step HF1.out HBL1.out HRW1.out hws1 hPl hn1 hn2 hn3 hn4 hown' hgrow)
                          have hv1 := (HBL1.out.appended (by decide) HRW1.out hws1 hPl hown' hgrow).1
                          have hc1 := hv1.cell
                          have hf1 := hv1.frozen
                          have HPRF := Lib.hid (row_step (v' := .slice (some ⟨g', 0, none⟩) (M.length + 1) cap') HPR1.out HBL1.out HRW1.out hgrow)
                          refine hK _ _ ?_
                          clear hK K hown' hgrow hv1 HF1 HBL1 HRW1
                          refine wpAnyIn_ready (rs := [7]) (by kernel_rfl) (by simp) ?_
                          refine AllReadyIn.cons rfl (fun K hK => ?_) ?_
                          · go_simp
                            refine hK _ _ ?_
                            clear hK K hc1 hf1
                            refine wpAnyIn_done (by kernel_rfl) ?_ _
                            gi_wp2
                            exact ⟨⟨k + 1, M ++ [rn], _, by omega, by go_num, HN.out rn HRB.out.1, by rw [List.length_append, List.length_singleton]; omega, HS.out.1, by show World.ownsRow _ _ _ _ _ _ _; rw [List.length_append, List.length_singleton, flat_snoc]; exact HS.out.2.1, HS.out.2.2, HPRF.out⟩, by simp [intOf]; omega⟩
                          exact AllReadyIn.nil
                        exact AllReadyIn.nil
                      exact AllReadyIn.nil
                    exact AllReadyIn.nil
                  refine AllReadyIn.cons rfl (fun K hK => ?_) ?_
                  · go_simp
                    refine ⟨trivial, (CallsIn.inRound l (callsIn_wide.2 (HRV.out _))).mono ?_⟩
                    rintro e w3 ⟨rfl, hb3⟩
                    have HBL1 : Hid (Boxed w3 w2.heap.size 27 (.slice uA M.length ucap)) := (hb3.block _ HBL0.out.lt).trans HBL0.out
                    have HRW1 := Lib.hid (own_below HRW0.out hb3)
                    have HPR1 := Lib.hid (own_below HPR0.out hb3)
                    clear HPR0
                    have HF1 := Lib.hid (HF0.out.below hws0 hb3)
                    have hws1 := Nat.le_trans hws0 hb3.size
                    refine hK _ _ ?_
                    clear hK K hb3 HBL0 HRW0 HF0
                    refine wpAnyIn_ready (rs := [0, 5]) (by kernel_rfl) (by simp) ?_
                    refine AllReadyIn.cons rfl (fun K hK => ?_) ?_
                    · have hc0 := (HBL1.out).cell
                      go_simp
                      refine hK _ _ ?_
                      clear hK K hc0
                      refine wpAnyIn_ready (rs := [5]) (by kernel_rfl) (by simp) ?_
                      refine AllReadyIn.cons rfl (fun K hK => ?_) ?_
                      · go_simp
                        refine hK _ _ ?_
                        clear hK K
                        refine wpAnyIn_ready (rs := [6]) (by kernel_rfl) (by simp) ?_
                        refine AllReadyIn.cons rfl (fun K hK => ?_) ?_
                        · refine stepIn_append_own _ (by rfl) (.tmp 43) (.tmp 48) 27 (by rfl) w.heap.size 53 i0 (.agg #[.int .i64 0, .string ByteArray.empty, .string ByteArray.empty, .int .i64 0, .bool false]) 5 56 Tryz.underlying27 hi hI0 hI1 hI2 rfl (by decide) (.slice uA M.length ucap) M.length (flat M) (by simp [Act.eval]) (HRW1.out.alloc (.cells #[.int .i64 rn.k, .string rn.p, .string rn.b, .int .i64 rn.m, .bool false] 53)) ⟨w3.heap.size, 0, none⟩ 1 1 (R.cs rn) (by simp [Act.eval]) rfl (by have h := rec_cells_new w3 rn 53; rw [HRB.out.2] at h; exact h) (rec_one rn) (by unfold maxLen; omega) (by omega) (by simp; omega) ?_
                          intro v' w9 hown' hgrow
                          obtain ⟨g', cap', rfl⟩ := ownsRow_succ hown'
                          have HS := Lib.hid (Fr.step HF1.out HBL1.out HRW1.out hws1 hPl hn1 hn2 hn3 hn4 hown' hgrow)
                          have hv1 := (HBL1.out.appended (by decide) HRW1.out hws1 hPl hown' hgrow).1
                          have hc1 := hv1.cell
                          have hf1 := hv1.frozen
                          have HPRF := Lib.hid (row_step (v' := .slice (some ⟨g', 0, none⟩) (M.length + 1) cap') HPR1.out HBL1.out HRW1.out hgrow)
                          refine hK _ _ ?_
                          clear hK K hown' hgrow hv1 HF1 HBL1 HRW1
                          refine wpAnyIn_ready (rs := [7]) (by kernel_rfl) (by simp) ?_
                          refine AllReadyIn.cons rfl (fun K hK => ?_) ?_
                          · go_simp
                            refine hK _ _ ?_
                            clear hK K hc1 hf1
                            refine wpAnyIn_done (by kernel_rfl) ?_ _
                            gi_wp2
                            exact ⟨⟨k + 1, M ++ [rn], _, by omega, by go_num, HN.out rn HRB.out.1, by rw [List.length_append, List.length_singleton]; omega, HS.out.1, by show World.ownsRow _ _ _ _ _ _ _; rw [List.length_append, List.length_singleton, flat_snoc]; exact HS.out.2.1, HS.out.2.2, HPRF.out⟩, by simp [intOf]; omega⟩
                          exact AllReadyIn.nil
                        exact AllReadyIn.nil
                      exact AllReadyIn.nil
                    refine AllReadyIn.cons rfl (fun K hK => ?_) ?_
                    · go_simp
                      refine hK _ _ ?_
                      clear hK K
                      refine wpAnyIn_ready (rs := [0]) (by kernel_rfl) (by simp) ?_
                      refine AllReadyIn.cons rfl (fun K hK => ?_) ?_
                      · have hc0 := ((HBL1.out.alloc (.cells #[.int .i64 rn.k, .string rn.p, .string rn.b, .int .i64 rn.m, .bool false] 53))).cell
                        go_simp
                        refine hK _ _ ?_
                        clear hK K hc0
                        refine wpAnyIn_ready (rs := [6]) (by kernel_rfl) (by simp) ?_
                        refine AllReadyIn.cons rfl (fun K hK => ?_) ?_
                        · refine stepIn_append_own _ (by rfl) (.tmp 43) (.tmp 48) 27 (by rfl) w.heap.size 53 i0 (.agg #[.int .i64 0, .string ByteArray.empty, .string ByteArray.empty, .int .i64 0, .bool false]) 5 56 Tryz.underlying27 hi hI0 hI1 hI2 rfl (by decide) (.slice uA M.length ucap) M.length (flat M) (by simp [Act.eval]) (HRW1.out.alloc (.cells #[.int .i64 rn.k, .string rn.p, .string rn.b, .int .i64 rn.m, .bool false] 53)) ⟨w3.heap.size, 0, none⟩ 1 1 (R.cs rn) (by simp [Act.eval]) rfl (by have h := rec_cells_new w3 rn 53; rw [HRB.out.2] at h; exact h) (rec_one rn) (by unfold maxLen; omega) (by omega) (by simp; omega) ?_
                          intro v' w9 hown' hgrow
                          obtain ⟨g', cap', rfl⟩ := ownsRow_succ hown'
                          have HS := Lib.hid (Fr.step HF1.out HBL1.out HRW1.out hws1 hPl hn1 hn2 hn3 hn4 hown' hgrow)
                          have hv1 := (HBL1.out.appended (by decide) HRW1.out hws1 hPl hown' hgrow).1
                          have hc1 := hv1.cell
                          have hf1 := hv1.frozen
                          have HPRF := Lib.hid (row_step (v' := .slice (some ⟨g', 0, none⟩) (M.length + 1) cap') HPR1.out HBL1.out HRW1.out hgrow)
                          refine hK _ _ ?_
                          clear hK K hown' hgrow hv1 HF1 HBL1 HRW1
                          refine wpAnyIn_ready (rs := [7]) (by kernel_rfl) (by simp) ?_
                          refine AllReadyIn.cons rfl (fun K hK => ?_) ?_
                          · go_simp
                            refine hK _ _ ?_
                            clear hK K hc1 hf1
                            refine wpAnyIn_done (by kernel_rfl) ?_ _
                            gi_wp2
                            exact ⟨⟨k + 1, M ++ [rn], _, by omega, by go_num, HN.out rn HRB.out.1, by rw [List.length_append, List.length_singleton]; omega, HS.out.1, by show World.ownsRow _ _ _ _ _ _ _; rw [List.length_append, List.length_singleton, flat_snoc]; exact HS.out.2.1, HS.out.2.2, HPRF.out⟩, by simp [intOf]; omega⟩
                          exact AllReadyIn.nil
                        exact AllReadyIn.nil
                      exact AllReadyIn.nil
                    exact AllReadyIn.nil
                  exact AllReadyIn.nil
                exact AllReadyIn.nil
              exact AllReadyIn.nil
            exact AllReadyIn.nil
          · have HN : Hid (M = (PP.take (k + 1)).foldl (addB B) LP) := by show _ = _; rw [HTK.out, ← HM.out, addB_some hn]
            have hjd : decide ((j : Int) < 0) = false := decide_eq_false (by omega)
            rw [ha] at HIX
            clear hn ha
            gi_wp2
            refine ⟨trivial, (CallsIn.inRound l (callsIn_wide.2 HIX)).mono ?_⟩
            rintro e wq ⟨rfl, hbi⟩
            have HBLq : Hid (Boxed wq w2.heap.size 27 (.slice uA M.length ucap)) := (hbi.block _ HBL.out.lt).trans HBL.out
            have HRWq := Lib.hid (own_below HRW.out hbi)
            have HFq := Lib.hid (HF.out.below hws hbi)
            have hprq := own_below hpr hbi
            clear HIX hbc hpc
            gi_wp2
            exact ⟨⟨k + 1, M, _, by omega, by go_num, HN, by omega, HBLq, HRWq, HFq, hprq⟩, by simp [intOf]; omega⟩
        · obtain rfl : k = PP.length := by omega
          have HMF : Hid (PP.foldl (addB B) LP = M) := by show _ = _; rw [HM.out, List.take_length]
          have HZO : Hid (c.2.2.o = false ∧ (c.2.2 = zR ∨ 1 ≤ c.2.2.k)) := by
            have e : c.2.2 = (recAt B c.1).getD zR := congrArg Prod.snd HD.out.2
            show _ ∧ _
            rw [e]
            cases hq : recAt B c.1 with
            | none => exact ⟨rfl, .inl rfl⟩
            | some n =>
              obtain ⟨hm, _⟩ := recAt_mem hq
              exact ⟨HOB.out n hm, .inr (fault_path (HTB.out.fault n hm)).2.1⟩
          have HRV : Hid (∀ W, Calls Tryz.prog 135 #[chgVN c] W fun e w' => e = .returned (aftR c).val ∧ Below W.heap.size W w') := fun W => recordAfter_any c W HZO.out.1 HZO.out.2
          unfold chgVN R.val at HRV
          generalize haf : aftR c = af at *
          clear haf
          have hMl2 : M.length ≤ 195 := by omega
          gi_wp2
          refine wpIn_region_any (by kernel_rfl) ?_
          change wpAnyIn _ _ _ _ _ _ _ _ _ (World.drew _)
          have hbl0 : Boxed wr.drew w2.heap.size 27 (.slice uA M.length ucap) := HBL.out
          have hrw0 : wr.drew.ownsRow w.heap.size 53 5 (.slice uA M.length ucap) M.length (flat M) := HRW.out
          have hf0 := HF.out.drew hws
          have hws0 : w.heap.size ≤ wr.drew.heap.size := hws
          have HBL0 := Lib.hid hbl0
          have HRW0 := Lib.hid hrw0
          have HF0 := Lib.hid hf0
          clear hbl0 hrw0 hf0 HBL HRW HF
          generalize wr.drew = wd at *
          refine wpAnyIn_ready (rs := [0, 1]) (by kernel_rfl) (by simp) ?_
          refine AllReadyIn.cons rfl (fun K hK => ?_) ?_
          · have hc0 := (HBL0.out).cell
            go_simp
            refine hK _ _ ?_
            clear hK K hc0
            refine wpAnyIn_ready (rs := [1]) (by kernel_rfl) (by simp) ?_
            refine AllReadyIn.cons rfl (fun K hK => ?_) ?_
            · obtain ⟨e0, e1, e2, e3, e4, e5, e6, e7, e8⟩ := HF0.out.cb.cells
              go_simp
              refine hK _ _ ?_
              clear hK K e0 e1 e2 e3 e4 e5 e6 e7 e8
              refine wpAnyIn_ready (rs := [2]) (by kernel_rfl) (by simp) ?_
              refine AllReadyIn.cons rfl (fun K hK => ?_) ?_
              · go_simp
                refine ⟨trivial, (CallsIn.inRound l (callsIn_wide.2 (HRV.out _))).mono ?_⟩
                rintro e w3 ⟨rfl, hb3⟩
                have HBL1 : Hid (Boxed w3 w2.heap.size 27 (.slice uA M.length ucap)) := (hb3.block _ HBL0.out.lt).trans HBL0.out
                have HRW1 := Lib.hid (own_below HRW0.out hb3)
                have HF1 := Lib.hid (HF0.out.below hws0 hb3)
                have hws1 := Nat.le_trans hws0 hb3.size
                refine hK _ _ ?_
                clear hK K hb3 HBL0 HRW0 HF0
                refine wpAnyIn_ready (rs := [3]) (by kernel_rfl) (by simp) ?_
                refine AllReadyIn.cons rfl (fun K hK => ?_) ?_
                · go_simp
                  refine hK _ _ ?_
                  clear hK K
                  refine wpAnyIn_ready (rs := [4]) (by kernel_rfl) (by simp) ?_
                  refine AllReadyIn.cons rfl (fun K hK => ?_) ?_
                  · refine stepIn_append_own _ (by rfl) (.tmp 51) (.tmp 54) 27 (by rfl) w.heap.size 53 i0 (.agg #[.int .i64 0, .string ByteArray.empty, .string ByteArray.empty, .int .i64 0, .bool false]) 5 56 Tryz.underlying27 hi hI0 hI1 hI2 rfl (by decide) (.slice uA M.length ucap) M.length (flat M) (by simp [Act.eval]) (HRW1.out.alloc (.cells #[.int .i64 af.k, .string af.p, .string af.b, .int .i64 af.m, .bool af.o] 53)) ⟨w3.heap.size, 0, none⟩ 1 1 (R.cs af) (by simp [Act.eval]) rfl (rec_cells_new _ af _) (rec_one af) (by unfold maxLen; omega) (by omega) (by simp; omega) ?_
                    intro v' w9 hown' hgrow
                    obtain ⟨g', cap', rfl⟩ := ownsRow_succ hown'
                    have HS := Lib.hid (Fr.step HF1.out HBL1.out HRW1.out hws1 hPl hn1 hn2 hn3 hn4 hown' hgrow)
                    have hv1 := (HBL1.out.appended (by decide) HRW1.out hws1 hPl hown' hgrow).1
                    have hc1 := hv1.cell
                    have hf1 := hv1.frozen
                    refine hK _ _ ?_
                    clear hK K hown' hgrow hv1 HF1 HBL1 HRW1
                    refine wpAnyIn_ready (rs := [5]) (by kernel_rfl) (by simp) ?_
                    refine AllReadyIn.cons rfl (fun K hK => ?_) ?_
                    · go_simp
                      refine hK _ _ ?_
                      clear hK K hc1 hf1
                      refine wpAnyIn_done (by kernel_rfl) ?_ _
                      gi_wp2
                      refine ⟨HS.out.2.2.oth.from _, ⟨HS.out.2.2.bel, HS.out.2.2.fn⟩, ⟨⟨_, HS.out.1, ?_, trivial⟩, HS.out.2.2.bm, HS.out.2.2.map⟩, hB.trans HS.out.2.2.bel⟩
                      rw [HLP.out, HST.out, HMF.out, List.length_append, List.length_singleton, flat_snoc]
                      exact HS.out.2.1
                    exact AllReadyIn.nil
                  exact AllReadyIn.nil
                exact AllReadyIn.nil
              exact AllReadyIn.nil
            exact AllReadyIn.nil
          refine AllReadyIn.cons rfl (fun K hK => ?_) ?_
          · obtain ⟨e0, e1, e2, e3, e4, e5, e6, e7, e8⟩ := HF0.out.cb.cells
            go_simp
            refine hK _ _ ?_
            clear hK K e0 e1 e2 e3 e4 e5 e6 e7 e8
            refine wpAnyIn_ready (rs := [0, 2]) (by kernel_rfl) (by simp) ?_
            refine AllReadyIn.cons rfl (fun K hK => ?_) ?_
            · have hc0 := (HBL0.out).cell
              go_simp
              refine hK _ _ ?_
              clear hK K hc0
              refine wpAnyIn_ready (rs := [2]) (by kernel_rfl) (by simp) ?_
              refine AllReadyIn.cons rfl (fun K hK => ?_) ?_
              · go_simp
                refine ⟨trivial, (CallsIn.inRound l (callsIn_wide.2 (HRV.out _))).mono ?_⟩
                rintro e w3 ⟨rfl, hb3⟩
                have HBL1 : Hid (Boxed w3 w2.heap.size 27 (.slice uA M.length ucap)) := (hb3.block _ HBL0.out.lt).trans HBL0.out
                have HRW1 := Lib.hid (own_below HRW0.out hb3)
                have HF1 := Lib.hid (HF0.out.below hws0 hb3)
                have hws1 := Nat.le_trans hws0 hb3.size
                refine hK _ _ ?_
                clear hK K hb3 HBL0 HRW0 HF0
                refine wpAnyIn_ready (rs := [3]) (by kernel_rfl) (by simp) ?_
                refine AllReadyIn.cons rfl (fun K hK => ?_) ?_
                · go_simp
                  refine hK _ _ ?_
                  clear hK K
                  refine wpAnyIn_ready (rs := [4]) (by kernel_rfl) (by simp) ?_
                  refine AllReadyIn.cons rfl (fun K hK => ?_) ?_
                  · refine stepIn_append_own _ (by rfl) (.tmp 51) (.tmp 54) 27 (by rfl) w.heap.size 53 i0 (.agg #[.int .i64 0, .string ByteArray.empty, .string ByteArray.empty, .int .i64 0, .bool false]) 5 56 Tryz.underlying27 hi hI0 hI1 hI2 rfl (by decide) (.slice uA M.length ucap) M.length (flat M) (by simp [Act.eval]) (HRW1.out.alloc (.cells #[.int .i64 af.k, .string af.p, .string af.b, .int .i64 af.m, .bool af.o] 53)) ⟨w3.heap.size, 0, none⟩ 1 1 (R.cs af) (by simp [Act.eval]) rfl (rec_cells_new _ af _) (rec_one af) (by unfold maxLen; omega) (by omega) (by simp; omega) ?_
                    intro v' w9 hown' hgrow
                    obtain ⟨g', cap', rfl⟩ := ownsRow_succ hown'
                    have HS := Lib.hid (Fr.step HF1.out HBL1.out HRW1.out hws1 hPl hn1 hn2 hn3 hn4 hown' hgrow)
                    have hv1 := (HBL1.out.appended (by decide) HRW1.out hws1 hPl hown' hgrow).1
                    have hc1 := hv1.cell
                    have hf1 := hv1.frozen
                    refine hK _ _ ?_
                    clear hK K hown' hgrow hv1 HF1 HBL1 HRW1
                    refine wpAnyIn_ready (rs := [5]) (by kernel_rfl) (by simp) ?_
                    refine AllReadyIn.cons rfl (fun K hK => ?_) ?_
                    · go_simp
                      refine hK _ _ ?_
                      clear hK K hc1 hf1
                      refine wpAnyIn_done (by kernel_rfl) ?_ _
                      gi_wp2
                      refine ⟨HS.out.2.2.oth.from _, ⟨HS.out.2.2.bel, HS.out.2.2.fn⟩, ⟨⟨_, HS.out.1, ?_, trivial⟩, HS.out.2.2.bm, HS.out.2.2.map⟩, hB.trans HS.out.2.2.bel⟩
                      rw [HLP.out, HST.out, HMF.out, List.length_append, List.length_singleton, flat_snoc]
                      exact HS.out.2.1
                    exact AllReadyIn.nil
                  exact AllReadyIn.nil
                exact AllReadyIn.nil
              exact AllReadyIn.nil
            refine AllReadyIn.cons rfl (fun K hK => ?_) ?_
            · go_simp
              refine ⟨trivial, (CallsIn.inRound l (callsIn_wide.2 (HRV.out _))).mono ?_⟩
              rintro e w3 ⟨rfl, hb3⟩
              have HBL1 : Hid (Boxed w3 w2.heap.size 27 (.slice uA M.length ucap)) := (hb3.block _ HBL0.out.lt).trans HBL0.out
              have HRW1 := Lib.hid (own_below HRW0.out hb3)
              have HF1 := Lib.hid (HF0.out.below hws0 hb3)
              have hws1 := Nat.le_trans hws0 hb3.size
              refine hK _ _ ?_
              clear hK K hb3 HBL0 HRW0 HF0
              refine wpAnyIn_ready (rs := [0, 3]) (by kernel_rfl) (by simp) ?_
              refine AllReadyIn.cons rfl (fun K hK => ?_) ?_
              · have hc0 := (HBL1.out).cell
                go_simp
                refine hK _ _ ?_
                clear hK K hc0
                refine wpAnyIn_ready (rs := [3]) (by kernel_rfl) (by simp) ?_
                refine AllReadyIn.cons rfl (fun K hK => ?_) ?_
                · go_simp
                  refine hK _ _ ?_
                  clear hK K
                  refine wpAnyIn_ready (rs := [4]) (by kernel_rfl) (by simp) ?_
                  refine AllReadyIn.cons rfl (fun K hK => ?_) ?_
                  · refine stepIn_append_own _ (by rfl) (.tmp 51) (.tmp 54) 27 (by rfl) w.heap.size 53 i0 (.agg #[.int .i64 0, .string ByteArray.empty, .string ByteArray.empty, .int .i64 0, .bool false]) 5 56 Tryz.underlying27 hi hI0 hI1 hI2 rfl (by decide) (.slice uA M.length ucap) M.length (flat M) (by simp [Act.eval]) (HRW1.out.alloc (.cells #[.int .i64 af.k, .string af.p, .string af.b, .int .i64 af.m, .bool af.o] 53)) ⟨w3.heap.size, 0, none⟩ 1 1 (R.cs af) (by simp [Act.eval]) rfl (rec_cells_new _ af _) (rec_one af) (by unfold maxLen; omega) (by omega) (by simp; omega) ?_
                    intro v' w9 hown' hgrow
                    obtain ⟨g', cap', rfl⟩ := ownsRow_succ hown'
                    have HS := Lib.hid (Fr.step HF1.out HBL1.out HRW1.out hws1 hPl hn1 hn2 hn3 hn4 hown' hgrow)
                    have hv1 := (HBL1.out.appended (by decide) HRW1.out hws1 hPl hown' hgrow).1
                    have hc1 := hv1.cell
                    have hf1 := hv1.frozen
                    refine hK _ _ ?_
                    clear hK K hown' hgrow hv1 HF1 HBL1 HRW1
                    refine wpAnyIn_ready (rs := [5]) (by kernel_rfl) (by simp) ?_
                    refine AllReadyIn.cons rfl (fun K hK => ?_) ?_
                    · go_simp
                      refine hK _ _ ?_
                      clear hK K hc1 hf1
                      refine wpAnyIn_done (by kernel_rfl) ?_ _
                      gi_wp2
                      refine ⟨HS.out.2.2.oth.from _, ⟨HS.out.2.2.bel, HS.out.2.2.fn⟩, ⟨⟨_, HS.out.1, ?_, trivial⟩, HS.out.2.2.bm, HS.out.2.2.map⟩, hB.trans HS.out.2.2.bel⟩
                      rw [HLP.out, HST.out, HMF.out, List.length_append, List.length_singleton, flat_snoc]
                      exact HS.out.2.1
                    exact AllReadyIn.nil
                  exact AllReadyIn.nil
                exact AllReadyIn.nil
              refine AllReadyIn.cons rfl (fun K hK => ?_) ?_
              · go_simp
                refine hK _ _ ?_
                clear hK K
                refine wpAnyIn_ready (rs := [0]) (by kernel_rfl) (by simp) ?_
                refine AllReadyIn.cons rfl (fun K hK => ?_) ?_
                · have hc0 := ((HBL1.out.alloc (.cells #[.int .i64 af.k, .string af.p, .string af.b, .int .i64 af.m, .bool af.o] 53))).cell
                  go_simp
                  refine hK _ _ ?_
                  clear hK K hc0
                  refine wpAnyIn_ready (rs := [4]) (by kernel_rfl) (by simp) ?_
                  refine AllReadyIn.cons rfl (fun K hK => ?_) ?_
                  · refine stepIn_append_own _ (by rfl) (.tmp 51) (.tmp 54) 27 (by rfl) w.heap.size 53 i0 (.agg #[.int .i64 0, .string ByteArray.empty, .string ByteArray.empty, .int .i64 0, .bool false]) 5 56 Tryz.underlying27 hi hI0 hI1 hI2 rfl (by decide) (.slice uA M.length ucap) M.length (flat M) (by simp [Act.eval]) (HRW1.out.alloc (.cells #[.int .i64 af.k, .string af.p, .string af.b, .int .i64 af.m, .bool af.o] 53)) ⟨w3.heap.size, 0, none⟩ 1 1 (R.cs af) (by simp [Act.eval]) rfl (rec_cells_new _ af _) (rec_one af) (by unfold maxLen; omega) (by omega) (by simp; omega) ?_
                    intro v' w9 hown' hgrow
                    obtain ⟨g', cap', rfl⟩ := ownsRow_succ hown'
                    have HS := Lib.hid (Fr.step HF1.out HBL1.out HRW1.out hws1 hPl hn1 hn2 hn3 hn4 hown' hgrow)
                    have hv1 := (HBL1.out.appended (by decide) HRW1.out hws1 hPl hown' hgrow).1
                    have hc1 := hv1.cell
                    have hf1 := hv1.frozen
                    refine hK _ _ ?_
                    clear hK K hown' hgrow hv1 HF1 HBL1 HRW1
                    refine wpAnyIn_ready (rs := [5]) (by kernel_rfl) (by simp) ?_
                    refine AllReadyIn.cons rfl (fun K hK => ?_) ?_
                    · go_simp
                      refine hK _ _ ?_
                      clear hK K hc1 hf1
                      refine wpAnyIn_done (by kernel_rfl) ?_ _
                      gi_wp2
                      refine ⟨HS.out.2.2.oth.from _, ⟨HS.out.2.2.bel, HS.out.2.2.fn⟩, ⟨⟨_, HS.out.1, ?_, trivial⟩, HS.out.2.2.bm, HS.out.2.2.map⟩, hB.trans HS.out.2.2.bel⟩
                      rw [HLP.out, HST.out, HMF.out, List.length_append, List.length_singleton, flat_snoc]
                      exact HS.out.2.1
                    exact AllReadyIn.nil
                  exact AllReadyIn.nil
                exact AllReadyIn.nil
              exact AllReadyIn.nil
            exact AllReadyIn.nil
          exact AllReadyIn.nil
    · have hd : (rp.k != 3) = true := by simp [hk]
      have HHT : Hid (homed B c.1 = false) := HH.out.trans (decide_eq_false hk)
      have HF1 := Lib.hid hF1
      have HST : Hid (stepB B LP c = LP) := by show _ = _; unfold stepB; rw [HHT.out]; rfl
      clear hk HH hF1
      gi_wp2
      refine field_at (v' := .int .i64 rp.k) rfl ?_
      gi_wp2
      refine ⟨HF1.out.oth.from _, ⟨HF1.out.bel, HF1.out.fn⟩, ⟨⟨v, bl1, ?_, trivial⟩, HF1.out.bm, HF1.out.map⟩, hB.trans HF1.out.bel⟩
      rw [HLP.out, HST.out]
      exact hrow1
  case done =>
    rintro D xs W hD hS ⟨⟨⟨v, bv, hrow, -⟩, bm, hmp⟩, hB⟩ hK
    have cS := bv.cell
    have HXS : Hid (lbL B (xs.map ItC.c) = betP A B) := by show _ = _; rw [hS]; rfl
    obtain ⟨vA, vcap, rfl⟩ := own_form hrow
    have HRW := Lib.hid hrow
    clear hS hrow
    gi_wp2
    refine ⟨by simp, .inl ⟨_, _, rfl, run_takeDeferred hK, ?_⟩⟩
    exact ⟨_, results_tmp rfl _ _ _, _, rfl, hB.trans (belowK_b (w := w) (Nat.le_refl _) W D _ _ (by omega) hK rfl rfl), rfl, by rw [← HXS.out]; exact ownsRow_putObj HRW.out _ hK rfl⟩
  case stop =>
    rintro D c pre W _ _ h _
    exact h.elim
end Go.Proofs.YtibekkfbpmloiabGreatDoor.Recs
