/- Parts of several texts of mine in one file (each begins with its own remark). -/
import Derived.Test.YtibekkfbpmloiabGreatDoorHA1
import Derived.Test.YtibekkfbpmloiabGreatDoorHA12
import Derived.Test.YtibekkfbpmloiabGreatDoorHA14
import Derived.Test.YtibekkfbpmloiabGreatDoorHA15
import Derived.Test.YtibekkfbpmloiabGreatDoorHA16
import Derived.Test.YtibekkfbpmloiabGreatDoorHA17
import Derived.Test.YtibekkfbpmloiabGreatDoorHA18
import Derived.Test.YtibekkfbpmloiabGreatDoorHA19
import Derived.Test.YtibekkfbpmloiabGreatDoorHA2
import Derived.Test.YtibekkfbpmloiabGreatDoorHA20
import Derived.Test.YtibekkfbpmloiabGreatDoorHA23
import Derived.Test.YtibekkfbpmloiabGreatDoorHA3
import Derived.Test.YtibekkfbpmloiabGreatDoorHA4
import Derived.Test.YtibekkfbpmloiabGreatDoorHA5
import Derived.Test.YtibekkfbpmloiabGreatDoorHA6
import Derived.Test.YtibekkfbpmloiabGreatDoorHA7
import Derived.Test.YtibekkfbpmloiabGreatDoorHA8
import Derived.Test.YtibekkfbpmloiabGreatDoorChecked
import Derived.Test.YtibekkfbpmloiabGreatDoorShelf
import Derived.Test.YtibekkfbpmloiabGreatDoorProg
import Derived.Test.YtibekkfbpmloiabGreatDoorRows
import Derived.Deep.AppendLies
import Derived.Laws.IdiomCopy
import Derived.BigRegion
import Derived.StillTailTactics
import Derived.Deep.Slices
import Derived.OpenShut
import Derived.ShutString
import Derived.ChangeArms
import Derived.WideShapes
import Derived.Lib.LaidTab
import Derived.BigQuiet
import Derived.Deep.QuietTactic
import Derived.Deep.RegionHeld3
import Derived.Deep.Draws
import Derived.Deep.LoopGhost
import Derived.WalkKit
import Derived.WalkSpells
import Derived.WalkSmall
import Derived.Lib.OthersKept
import Derived.Lib.Hide
import Derived.Lib.Strings
import Derived.Lib.Join
import Derived.Laws.OwnMore
import Derived.Laws.BytesArg
import Derived.Stop.LaidErr
import Derived.WalkLawsBesides
import Derived.LaidEql
import Derived.Stop.Asserts
import Derived.Below
import Derived.Stop.LaidTwo
import Derived.ChangeVars
import Derived.Deep.DeepHandedRow
import Derived.Deep.RegionWith
import Derived.OneCell
import Derived.Lib.SliceRun
import Derived.Lib.Overlaps
import Derived.Lib.AppendZerosOnto
import Derived.Laws.NewBlocks
import Derived.Deep.RegionLaw
import Derived.RangeFuncNested
import Derived.RangeFuncBound
import Derived.RangeFuncCalls
import Derived.RangeFuncLeaves
import Derived.RangeFuncBox
import Derived.Shelf.Abstract
import Derived.Shelf.RegionOpen
import Derived.OwnWalkIn
import Derived.TacticsInMore
import Derived.LoopNIn
import Derived.LoopIn
/- The groups of records of all paths, of the program: all layers passed through at once. -/
namespace Go.Proofs.YtibekkfbpmloiabGreatDoor.Recs
set_option maxRecDepth 100000
open Go.RowKit Paths Heap

theorem cursN_mem : ∀ (s : List (List R)) (n m : Nat) (l : List R), (m, l) ∈ cursN s n ↔ n < m ∧ s[m - n - 1]? = some l ∧ l ≠ []
  | [], n, m, l => by simp [cursN]
  | a :: s, n, m, l => by
    have ih := cursN_mem s (n + 1) m l
    have tl : (n + 1 < m ∧ s[m - (n + 1) - 1]? = some l ∧ l ≠ []) ↔ (n + 1 < m ∧ (a :: s)[m - n - 1]? = some l ∧ l ≠ []) := by
      constructor
      · rintro ⟨h1, h2, h3⟩
        rw [show m - n - 1 = m - (n + 1) - 1 + 1 by omega, List.getElem?_cons_succ]
        exact ⟨h1, h2, h3⟩
      · rintro ⟨h1, h2, h3⟩
        rw [show m - n - 1 = m - (n + 1) - 1 + 1 by omega, List.getElem?_cons_succ] at h2
        exact ⟨h1, h2, h3⟩
    have hd : m = n + 1 → (a :: s)[m - n - 1]? = some a := fun e => by rw [show m - n - 1 = 0 by omega]; rfl
    cases a with
    | nil =>
      rw [cursN, ih, tl]
      constructor
      · rintro ⟨h1, h2, h3⟩
        exact ⟨by omega, h2, h3⟩
      · rintro ⟨h1, h2, h3⟩
        rcases Nat.lt_or_ge (n + 1) m with h4 | h4
        · exact ⟨h4, h2, h3⟩
        · rw [hd (by omega)] at h2
          cases h2
          exact absurd rfl h3
    | cons x t =>
      rw [cursN, List.mem_cons, ih, tl]
      constructor
      · rintro (h | ⟨h1, h2, h3⟩)
        · have e1 : m = n + 1 := congrArg Prod.fst h
          have e2 : l = x :: t := congrArg Prod.snd h
          rw [hd e1, e2]
          exact ⟨by omega, rfl, by simp⟩
        · exact ⟨by omega, h2, h3⟩
      · rintro ⟨h1, h2, h3⟩
        rcases Nat.lt_or_ge (n + 1) m with h4 | h4
        · exact .inr ⟨h4, h2, h3⟩
        · have e1 : m = n + 1 := by omega
          rw [hd e1] at h2
          cases h2
          exact .inl (by rw [e1])
theorem cursN_up : ∀ (s : List (List R)) (n : Nat), (cursN s n).Pairwise fun a b => a.1 < b.1
  | [], _ => List.Pairwise.nil
  | [] :: s, n => cursN_up s (n + 1)
  | (x :: l) :: s, n => by
    rw [cursN]
    refine List.pairwise_cons.2 ⟨fun b hb => ?_, cursN_up s (n + 1)⟩
    have := ((cursN_mem s (n + 1) b.1 b.2).1 hb).1
    dsimp only
    omega
def remT (cs : List (Nat × List R)) : Nat := (cs.map fun c => c.2.length).sum
theorem remT_perm {a b : List (Nat × List R)} (h : a.Perm b) : remT a = remT b := (h.map _).sum_nat
theorem remT_cons (c : Nat × List R) (cs : List (Nat × List R)) : remT (c :: cs) = c.2.length + remT cs := by unfold remT; simp
theorem cursN_rem : ∀ (s : List (List R)) (n : Nat), remT (cursN s n) = s.flatten.length
  | [], _ => rfl
  | [] :: s, n => by rw [cursN, cursN_rem s (n + 1)]; simp
  | (x :: l) :: s, n => by rw [cursN, remT_cons, cursN_rem s (n + 1)]; simp; omega
theorem hinv_start {LL : List (List R)} {hs : List (Nat × List R)} (hsr : ∀ l ∈ LL, Sorted l) (hh : Heap befC 0 hs) (hp : hs.Perm (cursL LL)) : HInv LL hs [] := by
  have hm : ∀ n l, (n, l) ∈ hs ↔ 0 < n ∧ LL[n - 1]? = some l ∧ l ≠ [] := fun n l => by
    rw [hp.mem_iff]
    exact cursN_mem LL 0 n l
  refine ⟨hh, fun c hc => ((hm c.1 c.2).1 hc).2.2, fun c hc => hsr _ (List.mem_of_getElem? ((hm c.1 c.2).1 hc).2.1), ?_, List.Pairwise.nil, (fun p h => by cases h), fun p => ?_⟩
  · rw [(hp.map Prod.fst).nodup_iff]
    have := cursN_up LL 0
    exact (List.pairwise_map.2 (this.imp fun h e => by omega))
  · constructor
    · rintro ⟨l, h1, h2, h3⟩
      exact .inr ⟨l, (hm p.2 l).2 ⟨h1, h2, fun e => by rw [e] at h3; cases h3⟩, h3⟩
    · rintro (h | ⟨l, h1, h2⟩)
      · cases h
      · obtain ⟨h3, h4, _⟩ := (hm p.2 l).1 h1
        exact ⟨l, h3, h4, h2⟩
theorem flatten_bound {α : Type} : ∀ {G : List (List α)}, (∀ g ∈ G, g ≠ []) → G.length ≤ G.flatten.length
  | [], _ => Nat.le_refl _
  | g :: t, h => by
    have ih := flatten_bound (G := t) (fun x hx => h x (List.mem_cons_of_mem _ hx))
    have hg := h g (List.mem_cons_self ..)
    cases g with
    | nil => exact absurd rfl hg
    | cons a u => simp only [List.length_cons, List.flatten_cons, List.length_append]; omega
/-- What the cursors in memory have left. -/
def curM (cv : Value) (w : World) : Nat := match cv with
  | .slice (some a) n _ => ((List.range n).map fun i => match w.cell? ⟨a.block, i * 2 + 1, none⟩ with | some (.slice _ m _) => m | _ => 0).sum
  | _ => 0
theorem curM_eq {w0 w : World} {b g n cap : Nat} {M : List (Nat × Value)} {cs : List (Nat × List R)} (h : RowU w b (.slice (some ⟨g, 0, none⟩) n cap) n M) (hok : CurOk w0 M cs) : curM (.slice (some ⟨g, 0, none⟩) n cap) w = remT cs := by
  unfold curM remT
  dsimp only
  congr 1
  apply List.ext_getElem
  · simp [← hok.len, h.1]
  · intro i h1 h2
    simp only [List.getElem_map, List.getElem_range]
    have hi : i < M.length := by rw [h.1]; simpa using h1
    have hc := RowG.cell csU_len h (c := 1) hi (by omega)
    obtain ⟨x, l, _, h4, _, _, A, c, h5⟩ := hok.get hi
    simp only [csU, List.getElem?_cons_zero, List.getElem?_cons_succ] at hc
    rw [hc, h5]
    have := (List.getElem?_eq_some_iff.1 h4).2
    rw [this]
theorem RowU.keepC {w w' : World} {b n : Nat} {v : Value} {M : List (Nat × Value)} (h : RowU w b v n M) (k : KeepC w w') : RowU w' b v n M := by
  refine ⟨h.1, h.2.1, ?_⟩
  rcases h.2.2 with h2 | ⟨g, cap, cur, e, h3, h4, h5⟩
  · exact .inl h2
  · exact .inr ⟨g, cap, cur, e, h3, k g cur _ h4, h5⟩
theorem GrpOwn.keptC {w w' : World} {b B : Nat} {v : Value} {us : List Value} {Gs : List (List (R × Nat))} {cur : Array Value} {fz : Nat × Nat} (h : GrpOwn w b v us Gs) (hg : w.grownBy w' (some B)) (hB : w.heap[B]? = some (.cells cur 171 fz)) : GrpOwn w' b v us Gs :=
  ⟨h.len, h.own.kept hg (.inr (own_not h.own (by decide) hB)), fun i u g hi hq => RowG.kept (h.rows i u g hi hq) hg (.inr (own_not (h.rows i u g hi hq).2 (by decide) hB)), h.apart⟩
/-- The cursor that is looked at. -/
def Abox (w : World) (B n : Nat) (u : Value) : Prop := w.heap[B]? = some (.cells #[.int .i64 (n : Int), u] 171 (0, 0))
theorem Abox.lt {w : World} {B n : Nat} {u : Value} (h : Abox w B n u) : B < w.heap.size := (Array.getElem?_eq_some_iff.1 h).1
theorem Abox.facts {w : World} {B n : Nat} {u : Value} (h : Abox w B n u) : w.cell? ⟨B, 0, none⟩ = some (.int .i64 (n : Int)) ∧ w.cell? ⟨B, 1, none⟩ = some u ∧ w.frozen? ⟨B, 0, none⟩ = false ∧ w.frozen? ⟨B, 1, none⟩ = false := by
  refine ⟨?_, ?_, ?_, ?_⟩ <;> simp [World.cell?, World.frozen?, show w.heap[B]? = _ from h]
theorem Abox.set {w : World} {B n : Nat} {u : Value} (h : Abox w B n u) (u' : Value) : Abox (w.setCell ⟨B, 1, none⟩ u') B n u' := by
  have h5 := setCell_heap (j := 1) (u := u') h
  unfold Abox
  rw [h5]
  rfl

theorem grownBy_setCell_own (W : World) (b j : Nat) (v : Value) : W.grownBy (W.setCell ⟨b, j, none⟩ v) (some b) :=
  ⟨rfl, rfl, rfl, by simp, fun k hk hne => Below.heap_setCell _ _ _ _ (fun e => hne (by rw [e]))⟩

set_option maxHeartbeats 6400000 in
theorem groupsOf_any (v : Value) (LL : List (List R)) (w : World) (h : StkSl w v LL) (hl : LL.length ≤ 5) (hok : ∀ l ∈ LL, layerOK l = true) :
    Calls Tryz.prog 92 #[v] w fun e w' => ∃ x us, e = .returned x ∧ Below w.heap.size w w' ∧ GrpOwn w' w.heap.size x us ((pathsL LL).map (grp LL)) := by
  have HCO := cursorsOf_any v LL w h hl (fun l hm r hr => (fault_path (layer_rec (hok l hm) hr)).1)
  have HSR : Hid (∀ l ∈ LL, Sorted l) := fun l hm => layer_sorted (hok l hm)
  have hfl : LL.flatten.length ≤ 80 := by
    have := flat_16 (LL := LL) (fun l hm => layer_len (hok l hm))
    omega
  obtain ⟨vA, vcap, rfl⟩ := h.form
  clear h hok
  go_enter Tryz.func92, Tryz.ntmps92
  go_wp2_with fail
  refine HCO.mono ?_
  rintro e w1 ⟨cv, M, rfl, hb1, hr1, ho1⟩
  obtain ⟨cA, ccap, rfl⟩ := hr1.form
  have hM5 : M.length ≤ 5 := by
    have h1 := ho1.len
    have h2 := cursN_len LL 0
    unfold cursL at h1
    omega
  have HHO := heapOf_any w _ _ M _ w1 hb1 hr1 ho1 hM5
  clear hr1 ho1
  generalize hml : M.length = cap at *
  clear hml
  go_wp2_with fail
  refine HHO.mono ?_
  rintro e w2 ⟨g, N, hs, rfl, hb2, hr2, ho2, hh2, hp2⟩
  have c2 := hb1.trans (hb2.mono hb1.size)
  have hw1 : w.heap.size ≤ w1.heap.size := hb1.size
  have HI0 : Hid (RowU w2 w1.heap.size (.slice (some ⟨g, 0, none⟩) cap cap) cap N ∧ CurOk w N hs) := ⟨hr2, ho2⟩
  have HH0 := Lib.hid (hinv_start HSR.out hh2 hp2)
  have HT0 : Hid (([] : List (R × Nat)).length + remT hs ≤ 80) := by
    show _ ≤ _
    rw [remT_perm hp2]
    unfold cursL
    rw [cursN_rem]
    simpa using hfl
  clear hr2 ho2 hh2 hp2 hb1 hb2 HCO HHO hfl
  go_wp2
  go_loopw [3, 4] (fun gv cv wr => ∃ (n : Nat) (N : List (Nat × Value)) (cs : List (Nat × List R)) (S : List (R × Nat)) (Gs : List (List (R × Nat))) (us : List Value), n ≤ cap ∧ cv = .slice (some ⟨g, 0, none⟩) n cap ∧ Hid (RowU wr w1.heap.size (.slice (some ⟨g, 0, none⟩) n cap) n N ∧ CurOk w N cs) ∧ Hid (HInv LL cs S) ∧ Hid (Grouped Gs S) ∧ Hid (S.length + remT cs ≤ 80) ∧ Hid (GrpOwn wr w.heap.size gv us Gs) ∧ Hid (Below w.heap.size w wr)) (fun _ cv wr => curM cv wr)
  case atStart => exact ⟨cap, N, hs, [], [], [], Nat.le_refl _, rfl, HI0, HH0, grouped_nil, HT0, GrpOwn.nil _ _, c2⟩
  case round =>
    obtain ⟨n, N, cs, S, Gs, us, hn, rfl, HRN, HHI, HGR, HTT, HGO, HB⟩ := hrel
    obtain ⟨gA, gcap, hgv⟩ := own_form HGO.out.own
    subst hgv
    rcases Nat.eq_zero_or_pos n with h0 | hpos
    · subst h0
      have HE : Hid (Gs = (pathsL LL).map (grp LL)) := by
        have hcs : cs = [] := List.eq_nil_of_length_eq_zero (by rw [← HRN.out.2.len]; exact HRN.out.1.1)
        refine groups_all HSR.out HGR.out HHI.out.done fun p => ?_
        rw [HHI.out.all p, hcs]
        simp
      have HG2 : Hid (GrpOwn wr w.heap.size (.slice gA Gs.length gcap) us ((pathsL LL).map (grp LL))) := by
        have := HGO.out
        show GrpOwn _ _ _ _ _
        rw [← HE.out]
        exact this
      go_wp2
      go_ret
      exact ⟨_, us, rfl, HB.out, HG2.out⟩
    · obtain ⟨n, rfl⟩ : ∃ k, n = k + 1 := ⟨n - 1, by omega⟩
      have hN0 : 0 < N.length := by rw [HRN.out.1.1]; omega
      obtain ⟨x, left, hN1, hc1, hsl0, hxp, uA, uc, hue⟩ := HRN.out.2.get hN0
      have hpaths := (HRN.out.2.at_ 0 _ _ hN1)
      have r0 := RowG.cell csU_len HRN.out.1 (i := 0) (c := 0) hN0 (by omega)
      have r1 := RowG.cell csU_len HRN.out.1 (i := 0) (c := 1) hN0 (by omega)
      simp only [csU, List.getElem?_cons_zero, List.getElem?_cons_succ, Nat.add_zero, Nat.zero_mul, Nat.zero_add] at r0 r1
      generalize N[0] = X at *
      obtain ⟨n0, u⟩ := X
      dsimp only at hc1 hsl0 hue hpaths r0 r1
      subst hue
      obtain ⟨tl, hcs⟩ : ∃ tl, cs = (n0, x :: left) :: tl := by
        cases cs with
        | nil => cases hc1
        | cons a t => exact ⟨t, by rw [show a = (n0, x :: left) from Option.some.inj hc1]⟩
      subst hcs
      have HPA : Hid (∀ r ∈ x :: left, pathB r.p.data.toList = true) := by
        obtain ⟨x', l', h1, _, h3⟩ := hpaths
        have e : (n0, x :: left) = (n0, x' :: l') := Option.some.inj h1
        rw [show x :: left = x' :: l' from congrArg Prod.snd e]
        exact h3
      have HSL := Lib.hid hsl0
      obtain ⟨A', c', e', hcc, hread⟩ := hsl0
      cases e'
      obtain ⟨b, off, rfl, hbl, hcell⟩ := hread (by simp)
      have hbw := HB.out
      have HQC := Lib.hid ((hcell 0 x rfl).below hbw hbl)
      have HSD : Hid (∀ a ∈ S, klt (kR a) (kR (x, n0)) = true) := fun a ha => HHI.out.ahead a ha _ (List.mem_cons_self ..) x (List.mem_cons_self ..)
      have HGR2 := Lib.hid (grouped_step HGR.out HSD.out)
      have eA : Below wr.heap.size wr (wr.alloc (.cells #[.int .i64 (n0 : Int), .slice (some ⟨b, off, none⟩) (x :: left).length uc] 171)) := (Below.refl _ _).alloc (Nat.le_refl _) _
      have HAB : Hid (Abox (wr.alloc (.cells #[.int .i64 (n0 : Int), .slice (some ⟨b, off, none⟩) (x :: left).length uc] 171)) wr.heap.size n0 (.slice (some ⟨b, off, none⟩) (x :: left).length uc)) := alloc_here _ _
      have hi1 : (0 : Int) < ((n : Int) + 1) := by omega
      have hl1 : (0 : Int) < ((left.length : Int) + 1) := by omega
      have hgl : Gs.length ≤ 1000 ∧ ∀ gq ∈ Gs, gq.length ≤ 1000 := by
        have h1 := flatten_bound HGR.out.ne
        rw [HGR.out.flat] at h1
        have h2 := HTT.out
        refine ⟨by omega, fun gq hq => ?_⟩
        have h3 := (List.sublist_flatten_of_mem hq).length_le
        rw [HGR.out.flat] at h3
        omega
      clear hc1 hN1 hN0 hpaths hcell hread
      have hblr : b < wr.heap.size := by have := HB.out.size; omega
      have hgr : g < wr.heap.size := (HRN.out.1.2.lt g rfl).2
      go_wp2_with fail
      generalize hWW : wr.alloc (.cells #[.int .i64 (n0 : Int), .slice (some ⟨b, off, none⟩) (x :: left).length uc] 171) = W at *
      obtain ⟨a0, a1, a2, a3⟩ := HAB.out.facts
      obtain ⟨q0, q1, q2, q3, q4⟩ := HQC.out.below eA hblr
      simp only [Nat.zero_mul, Nat.add_zero] at q0 q1 q2 q3 q4
      have hBs : wr.heap.size < W.heap.size := HAB.out.lt
      go_still_tail 8, (by kernel_rfl)
      change wpList _ _ _ _ _ W.drew
      have eD : Below wr.heap.size wr W.drew := eA.drew
      have HAD : Hid (Abox W.drew wr.heap.size n0 (.slice (some ⟨b, off, none⟩) (x :: left).length uc)) := HAB.out
      clear eA a0 a1 a2 a3 q0 q1 q2 q3 q4 HAB hBs hWW
      generalize W.drew = W2 at *
      have HBW2 : Hid (Below w.heap.size w W2) := HB.out.trans (eD.mono HB.out.size)
      have HAG := addToGroups_any w.heap.size _ us Gs (x, n0) W2 HBW2.out.size (HGO.out.below eD) HGR.out.ne hgl.1 hgl.2
      have HRW2 := Lib.hid (RowG.below HRN.out.1 eD)
      unfold pv at HAG
      clear hgl eD
      go_wp2_with fail
      refine HAG.mono ?_
      rintro e w3 ⟨v3, us3, rfl, hb3, hk3, hg3⟩
      have HB3 : Hid (Below w.heap.size w w3) := HBW2.out.trans hb3
      have HA3 : Hid (Abox w3 wr.heap.size n0 (.slice (some ⟨b, off, none⟩) (x :: left).length uc)) := hk3 _ _ _ HAD.out
      have HR3 := Lib.hid (RowU.keepC HRW2.out hk3)
      have HG3 := Lib.hid hg3
      obtain ⟨v3A, v3c, hv3⟩ := own_form hg3.own
      clear hb3 hk3 hg3 HAG HAD HRW2 HBW2
      obtain ⟨a0, a1, a2, a3⟩ := HA3.out.facts
      have hcc1 : left.length + 1 ≤ uc := hcc
      have hic : (1 : Int) ≤ (uc : Int) := by omega
      have hil : (1 : Int) ≤ (left.length : Int) + 1 := by omega
      have hic2 : ((left.length : Int) + 1) ≤ (uc : Int) := by omega
      by_cases huc : uc = 1
      · have hl0 : left = [] := List.eq_nil_of_length_eq_zero (by omega)
        subst huc
        subst hl0
        subst hv3
        have HA5 := Lib.hid (HA3.out.set (.slice (some ⟨b, off, none⟩) 0 0))
        have hgB5 : w3.grownBy (w3.setCell ⟨wr.heap.size, 1, none⟩ (.slice (some ⟨b, off, none⟩) 0 0)) (some wr.heap.size) := grownBy_setCell_own _ _ _ _
        have HR5 : Hid (RowU (w3.setCell ⟨wr.heap.size, 1, none⟩ (.slice (some ⟨b, off, none⟩) 0 0)) w1.heap.size (.slice (some ⟨g, 0, none⟩) (n + 1) cap) (n + 1) N) := RowG.kept HR3.out hgB5 (.inr (fun e => by have e' : g = wr.heap.size := Option.some.inj e; omega))
        have HG5 : Hid (GrpOwn (w3.setCell ⟨wr.heap.size, 1, none⟩ (.slice (some ⟨b, off, none⟩) 0 0)) w.heap.size (.slice v3A (addG Gs (x, n0)).length v3c) us3 (addG Gs (x, n0))) := GrpOwn.keptC HG3.out hgB5 HA3.out
        have HB5 : Hid (Below w.heap.size w (w3.setCell ⟨wr.heap.size, 1, none⟩ (.slice (some ⟨b, off, none⟩) 0 0))) := HB3.out.grown hgB5 HB3.out.size (fun k e => by cases e; exact HB.out.size)
        clear hgB5
        have HWF := withoutFirst_any w w1.heap.size g n cap N _ _ HB5.out HR5.out hw1 HRN.out.2 (by omega) (by omega)
        have HC6 : Hid (Heap befC 0 (dropFirst ((n0, [x]) :: tl)) ∧ (dropFirst ((n0, [x]) :: tl)).Perm (tl)) := dropFirst_spec HHI.out.heap
        have HH6 := Lib.hid (hinv_step HHI.out HC6.out.1 (by simpa using HC6.out.2))
        have hrm := remT_perm HC6.out.2
        have HT6 : Hid ((S ++ [(x, n0)]).length + remT (dropFirst ((n0, [x]) :: tl)) ≤ 80 ∧ remT (dropFirst ((n0, [x]) :: tl)) < remT ((n0, x :: []) :: tl)) := by
          have h1 := HTT.out
          rw [remT_cons] at h1
          show _ ∧ _
          rw [hrm, remT_cons]
          simp only [List.length_append, List.length_cons, List.length_nil] at h1 ⊢
          omega
        clear hrm
        go_wp2_with fail
        generalize w3.setCell ⟨wr.heap.size, 1, none⟩ (.slice (some ⟨b, off, none⟩) 0 0) = W5 at *
        refine HWF.mono ?_
        rintro e w6 ⟨rfl, hg6, N6, hr6, ho6⟩
        have HR6 := Lib.hid (And.intro hr6 ho6)
        obtain ⟨g', cap', cur, e9, _, hgc, _⟩ : ∃ g' cap' cur, (Value.slice (some ⟨g, 0, none⟩) (n + 1) cap) = .slice (some ⟨g', 0, none⟩) (n + 1) cap' ∧ w1.heap.size ≤ g' ∧ W5.heap[g']? = some (.cells cur 171 (0, 0)) ∧ True := by
          rcases HR5.out.2.2 with ⟨e, _⟩ | ⟨g', cap', cur, e, h1, h2, _⟩
          · cases e
          · exact ⟨g', cap', cur, e, h1, h2, trivial⟩
        cases e9
        have HG6 := Lib.hid (GrpOwn.keptC HG5.out hg6 hgc)
        have HB6 : Hid (Below w.heap.size w w6) := HB5.out.grown hg6 HB5.out.size (fun k e => by cases e; have := (HR5.out.2.lt g rfl).1; omega)
        clear hr6 ho6 hg6 hgc
        go_wp2_with fail
        exact ⟨⟨n, N6, _, S ++ [(x, n0)], addG Gs (x, n0), us3, by omega, rfl, HR6.out, HH6.out, HGR2.out, HT6.out.1, HG6.out, HB6.out⟩, by rw [curM_eq HR6.out.1 HR6.out.2, curM_eq HRN.out.1 HRN.out.2]; exact HT6.out.2⟩
      · cases hleft : left with
        | nil =>
          subst hleft
          subst hv3
          have HA5 := Lib.hid (HA3.out.set (.slice (some ⟨b, off + 5, none⟩) 0 (uc - 1)))
          have hgB5 : w3.grownBy (w3.setCell ⟨wr.heap.size, 1, none⟩ (.slice (some ⟨b, off + 5, none⟩) 0 (uc - 1))) (some wr.heap.size) := grownBy_setCell_own _ _ _ _
          have HR5 : Hid (RowU (w3.setCell ⟨wr.heap.size, 1, none⟩ (.slice (some ⟨b, off + 5, none⟩) 0 (uc - 1))) w1.heap.size (.slice (some ⟨g, 0, none⟩) (n + 1) cap) (n + 1) N) := RowG.kept HR3.out hgB5 (.inr (fun e => by have e' : g = wr.heap.size := Option.some.inj e; omega))
          have HG5 : Hid (GrpOwn (w3.setCell ⟨wr.heap.size, 1, none⟩ (.slice (some ⟨b, off + 5, none⟩) 0 (uc - 1))) w.heap.size (.slice v3A (addG Gs (x, n0)).length v3c) us3 (addG Gs (x, n0))) := GrpOwn.keptC HG3.out hgB5 HA3.out
          have HB5 : Hid (Below w.heap.size w (w3.setCell ⟨wr.heap.size, 1, none⟩ (.slice (some ⟨b, off + 5, none⟩) 0 (uc - 1)))) := HB3.out.grown hgB5 HB3.out.size (fun k e => by cases e; exact HB.out.size)
          clear hgB5
          have HWF := withoutFirst_any w w1.heap.size g n cap N _ _ HB5.out HR5.out hw1 HRN.out.2 (by omega) (by omega)
          have HC6 : Hid (Heap befC 0 (dropFirst ((n0, [x]) :: tl)) ∧ (dropFirst ((n0, [x]) :: tl)).Perm (tl)) := dropFirst_spec HHI.out.heap
          have HH6 := Lib.hid (hinv_step HHI.out HC6.out.1 (by simpa using HC6.out.2))
          have hrm := remT_perm HC6.out.2
          have HT6 : Hid ((S ++ [(x, n0)]).length + remT (dropFirst ((n0, [x]) :: tl)) ≤ 80 ∧ remT (dropFirst ((n0, [x]) :: tl)) < remT ((n0, x :: []) :: tl)) := by
            have h1 := HTT.out
            rw [remT_cons] at h1
            show _ ∧ _
            rw [hrm, remT_cons]
            simp only [List.length_append, List.length_cons, List.length_nil] at h1 ⊢
            omega
          clear hrm
          go_wp2_with fail
          generalize w3.setCell ⟨wr.heap.size, 1, none⟩ (.slice (some ⟨b, off + 5, none⟩) 0 (uc - 1)) = W5 at *
          refine HWF.mono ?_
          rintro e w6 ⟨rfl, hg6, N6, hr6, ho6⟩
          have HR6 := Lib.hid (And.intro hr6 ho6)
          obtain ⟨g', cap', cur, e9, _, hgc, _⟩ : ∃ g' cap' cur, (Value.slice (some ⟨g, 0, none⟩) (n + 1) cap) = .slice (some ⟨g', 0, none⟩) (n + 1) cap' ∧ w1.heap.size ≤ g' ∧ W5.heap[g']? = some (.cells cur 171 (0, 0)) ∧ True := by
            rcases HR5.out.2.2 with ⟨e, _⟩ | ⟨g', cap', cur, e, h1, h2, _⟩
            · cases e
            · exact ⟨g', cap', cur, e, h1, h2, trivial⟩
          cases e9
          have HG6 := Lib.hid (GrpOwn.keptC HG5.out hg6 hgc)
          have HB6 : Hid (Below w.heap.size w w6) := HB5.out.grown hg6 HB5.out.size (fun k e => by cases e; have := (HR5.out.2.lt g rfl).1; omega)
          clear hr6 ho6 hg6 hgc
          go_wp2_with fail
          exact ⟨⟨n, N6, _, S ++ [(x, n0)], addG Gs (x, n0), us3, by omega, rfl, HR6.out, HH6.out, HGR2.out, HT6.out.1, HG6.out, HB6.out⟩, by rw [curM_eq HR6.out.1 HR6.out.2, curM_eq HRN.out.1 HRN.out.2]; exact HT6.out.2⟩
        | cons y l2 =>
          subst hleft
          subst hv3
          have HA5 := Lib.hid (HA3.out.set (.slice (some ⟨b, off + 5, none⟩) (l2.length + 1) (uc - 1)))
          have hgB5 : w3.grownBy (w3.setCell ⟨wr.heap.size, 1, none⟩ (.slice (some ⟨b, off + 5, none⟩) (l2.length + 1) (uc - 1))) (some wr.heap.size) := grownBy_setCell_own _ _ _ _
          have HR5 : Hid (RowU (w3.setCell ⟨wr.heap.size, 1, none⟩ (.slice (some ⟨b, off + 5, none⟩) (l2.length + 1) (uc - 1))) w1.heap.size (.slice (some ⟨g, 0, none⟩) (n + 1) cap) (n + 1) N) := RowG.kept HR3.out hgB5 (.inr (fun e => by have e' : g = wr.heap.size := Option.some.inj e; omega))
          have HG5 : Hid (GrpOwn (w3.setCell ⟨wr.heap.size, 1, none⟩ (.slice (some ⟨b, off + 5, none⟩) (l2.length + 1) (uc - 1))) w.heap.size (.slice v3A (addG Gs (x, n0)).length v3c) us3 (addG Gs (x, n0))) := GrpOwn.keptC HG3.out hgB5 HA3.out
          have HB5 : Hid (Below w.heap.size w (w3.setCell ⟨wr.heap.size, 1, none⟩ (.slice (some ⟨b, off + 5, none⟩) (l2.length + 1) (uc - 1)))) := HB3.out.grown hgB5 HB3.out.size (fun k e => by cases e; exact HB.out.size)
          clear hgB5
          have HRF := replaceFirst_any w w1.heap.size g (n + 1) cap n0 (.slice (some ⟨b, off + 5, none⟩) (l2.length + 1) (uc - 1)) y l2 N _ _ HB5.out HR5.out hw1 HRN.out.2 (by omega) (by omega) (tail_more HSL.out) (fun r hr => HPA.out r (List.mem_cons_of_mem _ hr))
          have HC6 : Hid (Heap befC 0 (sinkL befC ((n0, y :: l2) :: tl) 0) ∧ (sinkL befC ((n0, y :: l2) :: tl) 0).Perm ((n0, y :: l2) :: tl)) := sinkL_spec befC befC_asymm befC_neg (heap_set befC HHI.out.heap (n0, y :: l2))
          have HH6 := Lib.hid (hinv_step HHI.out HC6.out.1 (by simpa using HC6.out.2))
          have hrm := remT_perm HC6.out.2
          have HT6 : Hid ((S ++ [(x, n0)]).length + remT (sinkL befC ((n0, y :: l2) :: tl) 0) ≤ 80 ∧ remT (sinkL befC ((n0, y :: l2) :: tl) 0) < remT ((n0, x :: y :: l2) :: tl)) := by
            have h1 := HTT.out
            rw [remT_cons] at h1
            show _ ∧ _
            rw [hrm, remT_cons]
            simp only [List.length_append, List.length_cons, List.length_nil, remT_cons] at h1 ⊢
            omega
          clear hrm
          go_wp2_with fail
          generalize w3.setCell ⟨wr.heap.size, 1, none⟩ (.slice (some ⟨b, off + 5, none⟩) (l2.length + 1) (uc - 1)) = W5 at *
          refine HRF.mono ?_
          rintro e w6 ⟨⟨rv, rfl⟩, hg6, N6, hr6, ho6⟩
          have HR6 := Lib.hid (And.intro hr6 ho6)
          obtain ⟨g', cap', cur, e9, _, hgc, _⟩ : ∃ g' cap' cur, (Value.slice (some ⟨g, 0, none⟩) (n + 1) cap) = .slice (some ⟨g', 0, none⟩) (n + 1) cap' ∧ w1.heap.size ≤ g' ∧ W5.heap[g']? = some (.cells cur 171 (0, 0)) ∧ True := by
            rcases HR5.out.2.2 with ⟨e, _⟩ | ⟨g', cap', cur, e, h1, h2, _⟩
            · cases e
            · exact ⟨g', cap', cur, e, h1, h2, trivial⟩
          cases e9
          have HG6 := Lib.hid (GrpOwn.keptC HG5.out hg6 hgc)
          have HB6 : Hid (Below w.heap.size w w6) := HB5.out.grown hg6 HB5.out.size (fun k e => by cases e; have := (HR5.out.2.lt g rfl).1; omega)
          clear hr6 ho6 hg6 hgc
          go_wp2_with fail
          exact ⟨⟨n + 1, N6, _, S ++ [(x, n0)], addG Gs (x, n0), us3, by omega, rfl, HR6.out, HH6.out, HGR2.out, HT6.out.1, HG6.out, HB6.out⟩, by rw [curM_eq HR6.out.1 HR6.out.2, curM_eq HRN.out.1 HRN.out.2]; exact HT6.out.2⟩
end Go.Proofs.YtibekkfbpmloiabGreatDoor.Recs

/- Hidden, of the program and of its model. Conditions (of the program's): the table of kinds, the two sentinels. -/
namespace Go.Proofs.YtibekkfbpmloiabGreatDoor.Recs
set_option maxRecDepth 100000
open Go.RowKit Paths Errs

theorem str_snoc {w : World} {base : Nat} {v : Value} {M : List (List UInt8)} {p : ByteArray} (h : w.ownsRow base 9 1 v (M.length + 1) (M.map strV ++ [.string p])) : w.ownsRow base 9 1 v (M ++ [p.data.toList]).length ((M ++ [p.data.toList]).map strV) := by
  rw [List.length_append, List.map_append]
  exact h
end Go.Proofs.YtibekkfbpmloiabGreatDoor.Recs
