/- Several texts of mine in one file (each begins with its own remark). -/
import Derived.Test.YtjiljnfiofmpaaaGreatDoorBun15
import Derived.Test.YtjiljnfiofmpaaaGreatDoorBun9
import Derived.Test.YtjiljnfiofmpaaaGreatDoorBun2
import Derived.Test.YtjiljnfiofmpaaaGreatDoorBun13
import Derived.Test.YtjiljnfiofmpaaaGreatDoorBun5
import Derived.Deep.RegionHeld3
import Derived.Lib.SliceRun
/- Rows of nodes: parts of a row as the source of an append; a copy of a list of nodes that is never nil. -/

namespace Go.Proofs.YtjiljnfiofmpaaaGreatDoor.Recs
set_option maxRecDepth 100000
open Go.RowKit Paths

theorem flatN_append (a b : List R) : flatN (a ++ b) = flatN a ++ flatN b := by simp [flatN]
theorem flatN_take (l : List R) (k : Nat) : flatN (l.take k) = (flatN l).take (k * 4) := by
  by_cases hk : k ≤ l.length
  · conv => rhs; rw [← List.take_append_drop k l, flatN_append]
    rw [List.take_left' (by rw [flatN_len, List.length_take]; omega)]
  · rw [List.take_of_length_le (by omega), List.take_of_length_le (by rw [flatN_len]; omega)]
theorem flatN_drop (l : List R) (k : Nat) : flatN (l.drop k) = (flatN l).drop (k * 4) := by
  by_cases hk : k ≤ l.length
  · conv => rhs; rw [← List.take_append_drop k l, flatN_append]
    rw [List.drop_left' (by rw [flatN_len, List.length_take]; omega)]
  · rw [List.drop_eq_nil_of_le (by omega), List.drop_eq_nil_of_le (by rw [flatN_len]; omega)]
    rfl
theorem flatN_one (l : List R) : ∀ u ∈ flatN l, u.oneCell' = true := by
  intro u hu
  unfold flatN at hu
  rw [List.mem_flatMap] at hu
  obtain ⟨r, _, hr⟩ := hu
  exact nodR_one r u hr
/-- The cells of a part of a row. -/
theorem src_cells {w : World} {base g cap n : Nat} {l : List R} (h : RowN w base (.slice (some ⟨g, 0, none⟩) n cap) n l) (i : Nat) (m : List R) (hm : m = l.drop i ∨ (i = 0 ∧ ∃ k, m = l.take k)) :
    ∀ j u, (flatN m)[j]? = some u → w.cell? ((⟨g, i * 4, none⟩ : Addr).add j) = some u := by
  intro j u hj
  rw [Addr.add_lit]
  have key : (flatN l)[i * 4 + j]? = some u := by
    rcases hm with rfl | ⟨rfl, k, rfl⟩
    · rw [flatN_drop, List.getElem?_drop] at hj
      exact hj
    · rw [flatN_take, List.getElem?_take] at hj
      split at hj
      · rw [Nat.zero_mul, Nat.zero_add]; exact hj
      · cases hj
  have hlt : i * 4 + j < n * 4 := by
    have := (List.getElem?_eq_some_iff.1 key).1
    rw [flatN_len, h.1] at this
    exact this
  rw [h.2.1.cellAt (i * 4 + j) hlt]
  exact key
theorem rowN_of {w : World} {base : Nat} {v : Value} {n : Nat} {M : List R} (h : w.ownsRow base 29 4 v n (flatN M)) (hn : M.length = n) (hM : ∀ x ∈ M, x.o = false) : RowN w base v n M := ⟨hn, h, hM⟩
theorem notnil {w : World} {base : Nat} {v : Value} {n : Nat} {M : List R} (h : RowN w base v n M) (hv : v ≠ .slice none 0 0) : ∃ g cap, v = .slice (some ⟨g, 0, none⟩) n cap ∧ n ≤ cap ∧ cap ≤ maxLen ∧ base ≤ g ∧ g < w.heap.size := by
  rcases h.2.1.2 with ⟨rfl, _⟩ | ⟨g, cap, cur, rfl, hb, hg, hc, hm, _⟩
  · exact absurd rfl hv
  · exact ⟨g, cap, rfl, hc, hm, hb, (Array.getElem?_eq_some_iff.1 hg).1⟩

set_option maxHeartbeats 800000 in
theorem toNodeS_some (v : Value) (l : List R) (w : World) (h : NodSl w v l) (hl : l.length ≤ 1048576) :
    Calls Tryz.prog 39 #[v] w fun e w' => ∃ x, e = .returned x ∧ Below w.heap.size w w' ∧ RowN w' w.heap.size x l.length l ∧ x ≠ .slice none 0 0 := by
  obtain ⟨i0, hi, hz0, hz1, hz2⟩ := info_parts nodInfo
  obtain ⟨ho, A, cap, rfl, hcap, h⟩ := h
  have H := Lib.hid h
  clear h
  obtain ⟨w0, hr, hown, hg⟩ := run_make_full (P := Tryz.prog) w w.heap.size 23 29 i0 _ 4 Tryz.underlying23 hi hz0 hz1 .i64 .i64 l.length (by rw [hz2]; omega) (by unfold maxLen; omega) (Nat.le_refl _)
  rw [madeN_flat] at hown
  have hrow : RowN w0 w.heap.size (.slice (some ⟨w.heap.size, 0, none⟩) l.length l.length) l.length (List.replicate l.length zR) := ⟨by simp, hown, fun r hm => by rw [(List.mem_replicate.1 hm).2]; rfl⟩
  have hb0 : Below w.heap.size w w0 := (Below.refl _ _).grown hg (Nat.le_refl _) (fun k hk => by cases hk)
  clear hown hg
  go_enter Tryz.func39, Tryz.ntmps39
  go_wp2
  go_loopw [4] (fun i wr => ∃ (j : Nat) (M : List R), j ≤ l.length ∧ i = .int .i64 j ∧ RowN wr w.heap.size (.slice (some ⟨w.heap.size, 0, none⟩) l.length l.length) l.length M ∧ Hid (M.take j = l.take j) ∧ Below w.heap.size w wr) (fun i _ => l.length - (intOf i).toNat)
  case atStart => exact ⟨0, _, by omega, rfl, hrow, rfl, hb0⟩
  case round =>
    obtain ⟨j, M, hj, rfl, hrj, HM, hbw⟩ := hrel
    by_cases hlt : j < l.length
    · obtain ⟨b, off, rfl, hb, hcell⟩ := H.out (by omega)
      obtain ⟨c0, c1, c2, c3⟩ := (hcell j l[j] (by simp [hlt])).below hbw hb
      clear hcell
      have hi1 : (j : Int) < (l.length : Int) := by omega
      have hi0 : (0 : Int) ≤ (j : Int) := by omega
      go_wp2_with fail
      refine (toNode_any _ _ _ _ _).mono ?_
      rintro e w1 ⟨rfl, hb1⟩
      have hr1 := hrj.below hb1
      have hm : j < M.length := by rw [hrj.1]; exact hlt
      obtain ⟨d0, d1, d2, d3⟩ := hr1.cells hm
      have hf := hr1.frozen
      have HS := Lib.hid (hr1.store l[j] hm (ho l[j] (List.getElem_mem hlt)))
      have HT := Lib.hid (set_take hm hlt HM.out)
      have hbw1 := hbw.trans (hb1.mono hbw.size)
      clear hr1 c0 c1 c2 c3
      go_wp2
      go_roundw
      case rel => exact ⟨j + 1, _, by omega, by go_num, HS.out.1, HT, hbw1.grown HS.out.2 hbw1.size (fun k hk => by cases hk; exact Nat.le_refl _)⟩
      case measure => simp [intOf]; omega
    · obtain rfl : j = l.length := by omega
      go_wp2
      go_ret
      refine ⟨_, rfl, hbw, ?_, by simp⟩
      have := HM.out
      rw [List.take_of_length_le (by rw [hrj.1]; exact Nat.le_refl _), List.take_of_length_le (Nat.le_refl _)] at this
      subst this
      exact hrj

theorem own_down {w : World} {base base' : Nat} {e : TypeId} {size : Nat} {v : Value} {n : Nat} {xs : List Value} (h : w.ownsRow base e size v n xs) (hb : base' ≤ base) : w.ownsRow base' e size v n xs := by
  obtain ⟨h1, h2⟩ := h
  refine ⟨h1, ?_⟩
  rcases h2 with h2 | ⟨g, cap', cur, a, b, c⟩
  · exact .inl h2
  · exact .inr ⟨g, cap', cur, a, Nat.le_trans hb b, c⟩
end Go.Proofs.YtjiljnfiofmpaaaGreatDoor.Recs

/- Trees: a node put into its place, of the model. -/

namespace Go.Proofs.YtjiljnfiofmpaaaGreatDoor.Recs
set_option maxRecDepth 100000
open Go.RowKit Paths

theorem step_append_own {P : Program} (w : World) {ops : Array Oper} {o : Oper} {a : Act} {K : Act → World → Prop} {Q : Exit → Act → World → Prop} {E : Prop} (hgd : o.guard = none) (s x : Operand) (t : TypeId)
    (ho : o.op = .call { callee := .builtin .append, args := #[s, x], argTypes := #[t, t] })
    (base : Nat) (e : TypeId) (i : TypeInfo) (z : Value) (size bytes : Nat) (ht : P.underlying t = some (.slice e)) (hi : P.info? e = some i) (hz : i.zero = some z)
    (hsize : i.size = size) (hby : i.bytes = bytes) (hzs : z.cells.size = size) (hsz : 0 < size)
    (v : Value) (n : Nat) (xs : List Value) (hs : a.eval s = v) (hown : w.ownsRow base e size v n xs)
    (ad : Addr) (m c : Nat) (news : List Value) (hx : a.eval x = .slice (some ad) m c) (hl : news.length = m * size) (hnews : ∀ j u, news[j]? = some u → w.cell? (ad.add j) = some u) (h1 : ∀ u ∈ news, u.oneCell' = true)
    (h63 : n + m ≤ maxLen) (hbytes : (n + m) * bytes ≤ 140737488355328) (hbase : base ≤ w.heap.size)
    (h : ∀ v' w', w'.ownsRow base e size v' (n + m) (xs ++ news) → w.grownBy w' v.ownBlock → (v' = .slice none 0 0 ↔ v = .slice none 0 0 ∧ m = 0) → K (a.put o.dst v') w') :
    if Region.wanted o (yielded ops a.tmps) = true then Oper.wp P o a w K Q else E := by
  have hw : Region.wanted o (yielded ops a.tmps) = true := by simp [Region.wanted, hgd]
  rw [if_pos hw]
  exact wp_append_own w s x t ho base e i z size bytes ht hi hz hsize hby hzs hsz v n xs hs hown ad m c news hx hl hnews h1 h63 hbytes hbase h

/-- A block that holds one node. -/
def Item (w : World) (g : Nat) (n : R) : Prop := w.heap[g]? = some (.cells #[.int .i64 n.k, .string n.p, .string n.b, .int .i64 n.m] 29 (0, 0))
theorem Item.new (w : World) (n : R) : Item (w.alloc (.cells #[.int .i64 n.k, .string n.p, .string n.b, .int .i64 n.m] 29)) w.heap.size n := alloc_at w _
theorem Item.lt {w : World} {g : Nat} {n : R} (h : Item w g n) : g < w.heap.size := (Array.getElem?_eq_some_iff.1 h).1
theorem Item.below {w w' : World} {g : Nat} {n : R} (h : Item w g n) (hb : Below w.heap.size w w') : Item w' g n := (hb.block _ h.lt).trans h
theorem Item.grown {w w' : World} {g : Nat} {n : R} {row : Option Nat} (h : Item w g n) (hg : w.grownBy w' row) (hne : row ≠ some g) : Item w' g n := (hg.block g h.lt (fun e => hne e.symm)).trans h
theorem Item.cells {w : World} {g : Nat} {n : R} (h : Item w g n) : ∀ j u, n.ns[j]? = some u → w.cell? ((⟨g, 0, none⟩ : Addr).add j) = some u := by
  intro j u hj
  rw [Addr.add_lit, Nat.zero_add]
  unfold World.cell?
  unfold Item at h
  simp only [h]
  match j, hj with
  | 0, hj => cases hj; rfl
  | 1, hj => cases hj; rfl
  | 2, hj => cases hj; rfl
  | 3, hj => cases hj; rfl
  | j + 4, hj => simp [R.ns] at hj
theorem Item.nod {w : World} {g : Nat} {n : R} (h : Item w g n) : NodCells w g 0 n := ⟨h.cells 0 _ rfl, h.cells 1 _ rfl, h.cells 2 _ rfl, h.cells 3 _ rfl⟩
/-- What lies behind the place. -/
def restAt (l : List R) (n : R) : Nat := if (l[placeOf l n]?).any (fun x => decide (x.p = n.p)) then placeOf l n + 1 else placeOf l n
theorem put_rest {l : List R} (h : Sorted l) (n : R) : putL l n = l.take (placeOf l n) ++ [n] ++ l.drop (restAt l n) := by
  rw [put_is h]
  unfold restAt
  split <;> simp
theorem rest_le (l : List R) (n : R) : restAt l n ≤ l.length := by
  unfold restAt
  split
  · rename_i h
    cases hg : l[placeOf l n]? with
    | none => rw [hg] at h; cases h
    | some x => exact (List.getElem?_eq_some_iff.1 hg).1
  · exact place_le l n
theorem flat_put {w : World} {base : Nat} {v : Value} {l : List R} {n : R} {m : Nat} (h : w.ownsRow base 29 4 v m (flatN (l.take (placeOf l n)) ++ n.ns ++ flatN (l.drop (restAt l n)))) (hs : Sorted l) (hm : m = (putL l n).length) (hl : ∀ r ∈ l, r.o = false) (hn : n.o = false) :
    RowN w base v (putL l n).length (putL l n) := by
  subst hm
  refine ⟨rfl, ?_, fun x hx => ?_⟩
  · have e : flatN (putL l n) = flatN (l.take (placeOf l n)) ++ n.ns ++ flatN (l.drop (restAt l n)) := by
      rw [put_rest hs, flatN_append, flatN_snoc]
    rw [e]
    exact h
  · rcases mem_put.1 hx with rfl | ⟨h1, _⟩
    · exact hn
    · exact hl x h1
theorem put_count {l : List R} (h : Sorted l) (n : R) : (putL l n).length = placeOf l n + 1 + (l.length - restAt l n) := by
  have := place_le l n
  rw [put_rest h, List.length_append, List.length_append, List.length_take, List.length_drop]
  simp
  omega

set_option maxHeartbeats 6400000 in
theorem l04Put_any (v : Value) (l : List R) (n : R) (base : Nat) (w : World) (h : RowN w base v l.length l) (hv : v ≠ .slice none 0 0) (hs : Sorted l) (hp : ∀ r ∈ l, r.p.size ≤ 35) (hn : n.p.size ≤ 35) (hno : n.o = false) (hl : l.length ≤ 1000) :
    Calls Tryz.prog 72 #[v, n.nod] w fun e w' => ∃ x, e = .returned x ∧ Below w.heap.size w w' ∧ RowN w' w.heap.size x (putL l n).length (putL l n) ∧ x ≠ .slice none 0 0 := by
  obtain ⟨i0, hi, hI0, hI1, hI2⟩ := info_parts nodInfo
  obtain ⟨g, cap, rfl, hcap, hcm, hgb, hgl⟩ := notnil h hv
  have hbW : Below w.heap.size w (w.alloc (.cells #[.int .i64 n.k, .string n.p, .string n.b, .int .i64 n.m] 29)) := (Below.refl _ _).alloc (Nat.le_refl _) _
  have hIt : Item (w.alloc (.cells #[.int .i64 n.k, .string n.p, .string n.b, .int .i64 n.m] 29)) w.heap.size n := Item.new w n
  have hrW := h.below hbW
  have HRET : Hid (∀ x w', Below (w.alloc (.cells #[.int .i64 n.k, .string n.p, .string n.b, .int .i64 n.m] 29)).heap.size (w.alloc (.cells #[.int .i64 n.k, .string n.p, .string n.b, .int .i64 n.m] 29)) w' → w'.ownsRow (w.alloc (.cells #[.int .i64 n.k, .string n.p, .string n.b, .int .i64 n.m] 29)).heap.size 29 4 x (placeOf l n + 1 + (l.length - restAt l n)) (flatN (l.take (placeOf l n)) ++ n.ns ++ flatN (l.drop (restAt l n))) → x ≠ .slice none 0 0 →
      ∃ x', Ending.returned x = .returned x' ∧ Below w.heap.size w w' ∧ RowN w' w.heap.size x' (putL l n).length (putL l n) ∧ x' ≠ .slice none 0 0) := fun x w' hb ho hx =>
    ⟨x, rfl, hbW.trans (hb.mono hbW.size), (fun hr : RowN w' _ x _ (putL l n) => ⟨hr.1, own_down hr.2.1 hbW.size, hr.2.2⟩) (flat_put ho hs (put_count hs n).symm h.2.2 hno), hx⟩
  have hpl := place_le l n
  have hrl := rest_le l n
  have HPL : Hid (∀ k, k < placeOf l n → ∃ h : k < l.length, lessR l[k] n = true) := fun k hk => place_less hk
  have HPS : Hid (∀ h : placeOf l n < l.length, lessR l[placeOf l n] n = false) := fun h => place_stop h
  have HRE : Hid (restAt l n = if (l[placeOf l n]?).any (fun x => decide (x.p = n.p)) then placeOf l n + 1 else placeOf l n) := rfl
  have HL1 : Hid ((flatN (l.take (placeOf l n))).length = placeOf l n * 4) := by show _ = _; rw [flatN_len, List.length_take]; congr 1; omega
  have HL2 : Hid ((flatN (l.drop (restAt l n))).length = (l.length - restAt l n) * 4) := by show _ = _; rw [flatN_len, List.length_drop]
  have HP := Lib.hid hp
  have hgw : g ≠ w.heap.size := by omega
  have hzW : (w.alloc (.cells #[.int .i64 n.k, .string n.p, .string n.b, .int .i64 n.m] 29)).heap.size = w.heap.size + 1 := by simp
  have hgW : g < (w.alloc (.cells #[.int .i64 n.k, .string n.p, .string n.b, .int .i64 n.m] 29)).heap.size := by omega
  have hwW : w.heap.size < (w.alloc (.cells #[.int .i64 n.k, .string n.p, .string n.b, .int .i64 n.m] 29)).heap.size := by omega
  have HRW := Lib.hid hrW
  have HIT := Lib.hid hIt
  unfold R.nod
  unfold maxLen at hcm
  clear h hv hrW hIt hbW hs hp
  go_enter Tryz.func72, Tryz.ntmps72
  go_wp2_with fail
  generalize hWW : w.alloc (.cells #[.int .i64 n.k, .string n.p, .string n.b, .int .i64 n.m] 29) = W at *
  generalize hQ : placeOf l n = Q at *
  clear hWW hzW
  go_loopw [5] (fun i wr => ∃ k : Nat, k ≤ Q ∧ i = .int .i64 k ∧ Below W.heap.size W wr) (fun i _ => Q - (intOf i).toNat)
  case atStart => exact ⟨0, by omega, rfl, Below.refl _ _⟩
  case round =>
    obtain ⟨k, hk, rfl, hbw⟩ := hrel
    have hgr : g < wr.heap.size := Nat.lt_of_lt_of_le hgW hbw.size
    have hwr : w.heap.size < wr.heap.size := Nat.lt_of_lt_of_le hwW hbw.size
    have hrowr := HRW.out.below hbw
    obtain ⟨m0, m1, m2, m3⟩ := (HIT.out.below hbw).nod
    have hi0 : (0 : Int) ≤ (k : Int) := by omega
    by_cases hlt : k < Q
    · obtain ⟨hkl, hless⟩ := HPL.out k hlt
      obtain ⟨_, p1, _, _⟩ := hrowr.cells hkl
      have hs1 := HP.out _ (List.getElem_mem hkl)
      have HLE := fun w' => l01Less_any l[k].p n.p w' (by omega) (by omega)
      have hls : lessP (cutAt 47 l[k].p.data.toList) (cutAt 47 n.p.data.toList) = true := hless
      rw [hls] at HLE
      have hi1 : (k : Int) < (l.length : Int) := by omega
      clear hless hls
      go_wp2
      go_region_held3 (fun w' => w'.cell? ⟨g, k * 4 + 1, none⟩ = some (.string l[k].p) ∧ w'.cell? ⟨w.heap.size, 1, none⟩ = some (.string n.p)) (first | exact ⟨p1, m1⟩ | exact ⟨(hb1.cell (p := ⟨g, k * 4 + 1, none⟩) hgr).trans p1, (hb1.cell (p := ⟨w.heap.size, 1, none⟩) hwr).trans m1⟩ | go_keep) (first | (go_at_call 131; refine (HLE _).mono ?_; rintro e w1 ⟨rfl, hb1⟩))
      go_wp2_with fail
      exact ⟨⟨k + 1, by omega, by go_num, hbw.drew.trans (hb1.mono hbw.size)⟩, by simp [intOf]; omega⟩
    · obtain rfl : k = Q := by omega
      by_cases hkl : k < l.length
      · have hless := HPS.out hkl
        obtain ⟨_, p1, _, _⟩ := hrowr.cells hkl
        have hs1 := HP.out _ (List.getElem_mem hkl)
        have HLE := fun w' => l01Less_any l[k].p n.p w' (by omega) (by omega)
        have hls : lessP (cutAt 47 l[k].p.data.toList) (cutAt 47 n.p.data.toList) = false := hless
        rw [hls] at HLE
        have hi1 : (k : Int) < (l.length : Int) := by omega
        have hic : (k : Int) ≤ (cap : Int) := by omega
        have HGE : Hid (l[k]? = some l[k]) := List.getElem?_eq_getElem hkl
        clear hless hls
        go_wp2
        go_region_held3 (fun w' => w'.cell? ⟨g, k * 4 + 1, none⟩ = some (.string l[k].p) ∧ w'.cell? ⟨w.heap.size, 1, none⟩ = some (.string n.p)) (first | exact ⟨p1, m1⟩ | exact ⟨(hb1.cell (p := ⟨g, k * 4 + 1, none⟩) hgr).trans p1, (hb1.cell (p := ⟨w.heap.size, 1, none⟩) hwr).trans m1⟩ | go_keep) (first | (go_at_call 131; refine (HLE _).mono ?_; rintro e w1 ⟨rfl, hb1⟩))
        have hbw1 : Below W.heap.size W w1 := hbw.drew.trans (hb1.mono hbw.size)
        have hrow1 := HRW.out.below hbw1
        clear p1 m0 m1 m2 m3 hrowr
        obtain ⟨_, p1, _, _⟩ := hrow1.cells hkl
        obtain ⟨m0, m1, m2, m3⟩ := (HIT.out.below hbw1).nod
        by_cases heq : l[k].p = n.p
        · have HR : Hid (restAt l n = k + 1) := by show _ = _; rw [HRE.out, HGE.out]; simp [heq]
          have hd : (l[k].p.toList == n.p.toList) = true := by rw [heq]; simp
          have hi2 : (k : Int) + 1 ≤ (l.length : Int) := by omega
          have hi3 : (0 : Int) ≤ (k : Int) + 1 := by omega
          have hi4 : (k : Int) + 1 ≤ (cap : Int) := by omega
          have hck : ¬ cap = k := by omega
          clear heq
          go_wp2
          go_quiet (fail)
          have hbw2 : Below W.heap.size W (w1.drewN nq) := below_drewN hbw1 nq
          generalize w1.drewN nq = w2 at *
          by_cases hcc : cap = k + 1
          · have hll : l.length = k + 1 := by omega
            subst hcc
            have hkk : (k : Int) ≤ (k : Int) + 1 := by omega
            go_wp2
            have HKS : Hid (∀ w', Below W.heap.size W w' → NodCells w' w.heap.size 0 n) := fun w' hb => (HIT.out.below hb).nod
            have HZ : Hid (Below W.heap.size W w2.drew) := hbw2.drew
            refine wp_region_held_drew (S := fun w' => NodCells w' w.heap.size 0 n) (by kernel_rfl) (HKS.out _ HZ.out) (fun hHeld => ?_)
            refine wpAnyH_take (i := 1) (oi := { dst := some 45, op := Go.Op.move (Go.Operand.tmp 0), type := 23, pos := "l04_trees.go:135", after := #[], guard := none }) (v := ?vd1) rfl (by kernel_rfl) (by kernel_rfl) (by kernel_rfl) (fun _ _ _ h => h) (Or.inl ⟨by rfl, ?yd1⟩) hHeld ?zd1
            case yd1 =>
              intro w hSw
              (try dsimp only at hSw)
              go_simp
              try with_reducible rfl
            simp only [Act.put, List.setIfInBounds_toArray, List.set_cons_zero, List.set_cons_succ]
            refine wpAnyH_take (i := 2) (oi := { dst := some 46, op := Go.Op.move (Go.Operand.tmp 5), type := 3, pos := "l04_trees.go:135", after := #[], guard := none }) (v := ?vd2) rfl (by kernel_rfl) (by kernel_rfl) (by kernel_rfl) (fun _ _ _ h => h) (Or.inl ⟨by rfl, ?yd2⟩) hHeld ?zd2
            case yd2 =>
              intro w hSw
              (try dsimp only at hSw)
              go_simp
              try with_reducible rfl
            simp only [Act.put, List.setIfInBounds_toArray, List.set_cons_zero, List.set_cons_succ]
            refine wpAnyH_take (i := 3) (oi := { dst := some 47, op := Go.Op.slice 23 (Go.Operand.tmp 45) none (some (Go.Operand.tmp 46)) none, type := 23, pos := "l04_trees.go:135", after := #[{ on := 1, ground := Go.Ground.data }, { on := 2, ground := Go.Ground.data }], guard := none }) (v := ?vd3) rfl (by kernel_rfl) (by kernel_rfl) (by kernel_rfl) (fun _ _ _ h => h) (Or.inl ⟨by rfl, ?yd3⟩) hHeld ?zd3
            case yd3 =>
              intro w hSw
              (try dsimp only at hSw)
              go_simp
              try with_reducible rfl
            simp only [Act.put, List.setIfInBounds_toArray, List.set_cons_zero, List.set_cons_succ]
            refine wpAnyH_take (i := 5) (oi := { dst := some 49, op := Go.Op.load 29 (Go.Operand.tmp 3), type := 29, pos := "l04_trees.go:135", after := #[], guard := none }) (v := ?vd5) rfl (by kernel_rfl) (by kernel_rfl) (by kernel_rfl) (fun _ _ _ h => h) (Or.inl ⟨by rfl, ?yd5⟩) hHeld ?zd5
            case yd5 =>
              intro w hSw
              obtain ⟨q0, q1, q2, q3⟩ := hSw
              go_simp
              try with_reducible rfl
            simp only [Act.put, List.setIfInBounds_toArray, List.set_cons_zero, List.set_cons_succ]
            refine wpAnyH_take (i := 8) (oi := { dst := some 52, op := Go.Op.move (Go.Operand.tmp 6), type := 23, pos := "l04_trees.go:135", after := #[], guard := none }) (v := ?vd8) rfl (by kernel_rfl) (by kernel_rfl) (by kernel_rfl) (fun _ _ _ h => h) (Or.inl ⟨by rfl, ?yd8⟩) hHeld ?zd8
            case yd8 =>
              intro w hSw
              (try dsimp only at hSw)
              go_simp
              try with_reducible rfl
            simp only [Act.put, List.setIfInBounds_toArray, List.set_cons_zero, List.set_cons_succ]
            generalize w2.drew = u0 at *
            refine wpAnyH_ready (rs := [0, 6]) (by kernel_rfl) (by simp) ?_
            refine (AllReadyH.cons (o := { dst := some 44, op := Go.Op.buildSlice 23 0 #[], type := 23, pos := "l04_trees.go:135", after := #[], guard := none }) rfl (fun K hK => ?_) (AllReadyH.cons (o := { dst := some 50, op := Go.Op.buildSlice 23 1 #[(0, Go.Operand.tmp 49)], type := 23, pos := "l04_trees.go:135", after := #[{ on := 5, ground := Go.Ground.data }], guard := none }) rfl (fun K hK => ?_) AllReadyH.nil))
            · go_simp
              have HZn : Hid (Below W.heap.size W (u0.alloc (.cells #[] 29))) := HZ.out.alloc HZ.out.size _
              have HBn : Below u0.heap.size u0 (u0.alloc (.cells #[] 29)) := (Below.refl _ _).alloc (Nat.le_refl _) _
              have R0 : Hid ((u0.alloc (.cells #[] 29)).ownsRow W.heap.size 29 4 (.slice (some ⟨u0.heap.size, 0, none⟩) 0 0) 0 []) := World.ownsRow_lit u0 #[] 0 HZ.out.size (Nat.zero_le _) rfl
              refine hK.out _ _ (HKS.out _ HZn.out) (fun hHeld => ?_)
              replace HZ := HZn
              clear hK K HZn HBn
              generalize u0.alloc (.cells #[] 29) = u1 at *
              generalize u0.heap.size = g0 at *
              refine wpAnyH_ready (rs := [4, 6]) (by kernel_rfl) (by simp) ?_
              refine (AllReadyH.cons (o := { dst := some 48, op := Go.Op.call { callee := Go.Callee.builtin Go.Builtin.append, args := #[Go.Operand.tmp 44, Go.Operand.tmp 47], argTypes := #[23, 23] }, type := 23, pos := "l04_trees.go:135", after := #[{ on := 0, ground := Go.Ground.data }, { on := 3, ground := Go.Ground.data }], guard := none }) rfl (fun K hK => ?_) (AllReadyH.cons (o := { dst := some 50, op := Go.Op.buildSlice 23 1 #[(0, Go.Operand.tmp 49)], type := 23, pos := "l04_trees.go:135", after := #[{ on := 5, ground := Go.Ground.data }], guard := none }) rfl (fun K hK => ?_) AllReadyH.nil))
              · refine step_append_own _ (by rfl) (.tmp 44) (.tmp 47) 23 (by rfl) W.heap.size 29 i0 (.agg #[.int .i64 0, .string ByteArray.empty, .string ByteArray.empty, .int .i64 0]) 4 48 Tryz.underlying23 hi hI0 hI1 hI2 rfl (by decide) (.slice (some ⟨g0, 0, none⟩) 0 0) 0 [] (by simp [Act.eval] <;> omega) R0.out ⟨g, 0, none⟩ k (k + 1) (flatN (l.take k)) (by simp [Act.eval] <;> omega) HL1.out (src_cells (HRW.out.below HZ.out) 0 _ (.inr ⟨rfl, k, rfl⟩)) (flatN_one _) (by unfold maxLen; omega) (by omega) HZ.out.size ?_
                intro s48 u2 R4x G4 _
                have R4 : Hid (u2.ownsRow W.heap.size 29 4 s48 k (flatN (l.take k))) := by have := R4x; rw [Nat.zero_add, List.nil_append] at this; exact this
                have HZn : Hid (Below W.heap.size W u2) := HZ.out.grown G4 HZ.out.size (fun j hj => (R0.out.lt j hj).1)
                simp only [Act.put, List.setIfInBounds_toArray, List.set_cons_zero, List.set_cons_succ]
                refine hK.out _ _ (HKS.out _ HZn.out) (fun hHeld => ?_)
                replace HZ := HZn
                clear hK K HZn R4x G4 R0
                refine wpAnyH_ready (rs := [6]) (by kernel_rfl) (by simp) ?_
                refine (AllReadyH.cons (o := { dst := some 50, op := Go.Op.buildSlice 23 1 #[(0, Go.Operand.tmp 49)], type := 23, pos := "l04_trees.go:135", after := #[{ on := 5, ground := Go.Ground.data }], guard := none }) rfl (fun K hK => ?_) AllReadyH.nil)
                go_simp
                have HZn : Hid (Below W.heap.size W (u2.alloc (.cells #[.int .i64 n.k, .string n.p, .string n.b, .int .i64 n.m] 29))) := HZ.out.alloc HZ.out.size _
                have HBn : Below u2.heap.size u2 (u2.alloc (.cells #[.int .i64 n.k, .string n.p, .string n.b, .int .i64 n.m] 29)) := (Below.refl _ _).alloc (Nat.le_refl _) _
                have IT : Hid (Item (u2.alloc (.cells #[.int .i64 n.k, .string n.p, .string n.b, .int .i64 n.m] 29)) u2.heap.size n) := Item.new u2 n
                replace R4 := Lib.hid (own_below R4.out HBn)
                refine hK.out _ _ (HKS.out _ HZn.out) (fun hHeld => ?_)
                replace HZ := HZn
                clear hK K HZn HBn
                generalize u2.alloc (.cells #[.int .i64 n.k, .string n.p, .string n.b, .int .i64 n.m] 29) = u3 at *
                generalize u2.heap.size = gi at *
                refine wpAnyH_ready (rs := [7]) (by kernel_rfl) (by simp) ?_
                refine (AllReadyH.cons (o := { dst := some 51, op := Go.Op.call { callee := Go.Callee.builtin Go.Builtin.append, args := #[Go.Operand.tmp 48, Go.Operand.tmp 50], argTypes := #[23, 23] }, type := 23, pos := "l04_trees.go:135", after := #[{ on := 4, ground := Go.Ground.data }, { on := 6, ground := Go.Ground.data }, { on := 4, ground := Go.Ground.chain }], guard := none }) rfl (fun K hK => ?_) AllReadyH.nil)
                refine step_append_own _ (by rfl) (.tmp 48) (.tmp 50) 23 (by rfl) W.heap.size 29 i0 (.agg #[.int .i64 0, .string ByteArray.empty, .string ByteArray.empty, .int .i64 0]) 4 48 Tryz.underlying23 hi hI0 hI1 hI2 rfl (by decide) s48 k (flatN (l.take k)) (by simp [Act.eval] <;> omega) R4.out ⟨gi, 0, none⟩ 1 1 n.ns (by simp [Act.eval] <;> omega) rfl IT.out.cells (nodR_one n) (by unfold maxLen; omega) (by omega) HZ.out.size ?_
                intro s51 u4 R7x G7 N7
                have R7 := Lib.hid R7x
                have N7h : Hid (s51 ≠ .slice none 0 0) := fun e => by have := (N7.1 e).2; omega
                have HZn : Hid (Below W.heap.size W u4) := HZ.out.grown G7 HZ.out.size (fun j hj => (R4.out.lt j hj).1)
                simp only [Act.put, List.setIfInBounds_toArray, List.set_cons_zero, List.set_cons_succ]
                refine hK.out _ _ (HKS.out _ HZn.out) (fun hHeld => ?_)
                replace HZ := HZn
                clear hK K HZn R7x G7 N7 R4 IT
                refine wpAnyH_ready (rs := [9]) (by kernel_rfl) (by simp) ?_
                refine (AllReadyH.cons (o := { dst := some 53, op := Go.Op.call { callee := Go.Callee.builtin Go.Builtin.append, args := #[Go.Operand.tmp 51, Go.Operand.tmp 52], argTypes := #[23, 23] }, type := 23, pos := "l04_trees.go:135", after := #[{ on := 7, ground := Go.Ground.data }, { on := 8, ground := Go.Ground.data }, { on := 7, ground := Go.Ground.chain }], guard := none }) rfl (fun K hK => ?_) AllReadyH.nil)
                refine step_append_own _ (by rfl) (.tmp 51) (.tmp 52) 23 (by rfl) W.heap.size 29 i0 (.agg #[.int .i64 0, .string ByteArray.empty, .string ByteArray.empty, .int .i64 0]) 4 48 Tryz.underlying23 hi hI0 hI1 hI2 rfl (by decide) s51 (k + 1) (flatN (l.take k) ++ n.ns) (by simp [Act.eval] <;> omega) R7.out ⟨g, 0, none⟩ (l.length - (k + 1)) 0 (flatN (l.drop ((k + 1)))) (by simp [Act.eval] <;> omega) (by rw [← HR.out]; exact HL2.out) (fun j u hj => by rw [List.drop_eq_nil_of_le (by omega)] at hj; simp [flatN] at hj) (flatN_one _) (by unfold maxLen; omega) (by omega) HZ.out.size ?_
                intro s53 u5 R9x G9 N9
                have HF := Lib.hid (HRET.out s53 u5 (HZ.out.grown G9 HZ.out.size (fun j hj => (R7.out.lt j hj).1)) (by rw [HR.out]; exact R9x) (fun e => N7h.out (N9.1 e).1))
                have HZn : Hid (Below W.heap.size W u5) := HZ.out.grown G9 HZ.out.size (fun j hj => (R7.out.lt j hj).1)
                simp only [Act.put, List.setIfInBounds_toArray, List.set_cons_zero, List.set_cons_succ]
                refine hK.out _ _ (HKS.out _ HZn.out) (fun hHeld => ?_)
                replace HZ := HZn
                clear hK K HZn R9x G9 N9 R7 N7h
                refine wpAnyH_take (i := 10) (oi := { dst := some 4, op := Go.Op.assign (Go.Operand.tmp 53), type := 23, pos := "l04_trees.go:135", after := #[{ on := 9, ground := Go.Ground.data }, { on := 9, ground := Go.Ground.chain }, { on := 0, ground := Go.Ground.phase }, { on := 1, ground := Go.Ground.phase }, { on := 2, ground := Go.Ground.phase }, { on := 3, ground := Go.Ground.phase }, { on := 4, ground := Go.Ground.phase }, { on := 5, ground := Go.Ground.phase }, { on := 6, ground := Go.Ground.phase }, { on := 7, ground := Go.Ground.phase }, { on := 8, ground := Go.Ground.phase }, { on := 9, ground := Go.Ground.phase }], guard := none }) (v := ?vdx1q10) rfl (by kernel_rfl) (by kernel_rfl) (by kernel_rfl) (fun _ _ _ h => h) (Or.inl ⟨by rfl, ?ydx1q10⟩) hHeld ?zdx1q10
                case ydx1q10 =>
                  intro w hSw
                  (try dsimp only at hSw)
                  go_simp
                  try with_reducible rfl
                simp only [Act.put, List.setIfInBounds_toArray, List.set_cons_zero, List.set_cons_succ]
                refine wpAnyH_done (by kernel_rfl) ?_ _
                go_wp2
                go_ret
                exact HF.out
              · go_simp
                have HZn : Hid (Below W.heap.size W (u1.alloc (.cells #[.int .i64 n.k, .string n.p, .string n.b, .int .i64 n.m] 29))) := HZ.out.alloc HZ.out.size _
                have HBn : Below u1.heap.size u1 (u1.alloc (.cells #[.int .i64 n.k, .string n.p, .string n.b, .int .i64 n.m] 29)) := (Below.refl _ _).alloc (Nat.le_refl _) _
                have IT : Hid (Item (u1.alloc (.cells #[.int .i64 n.k, .string n.p, .string n.b, .int .i64 n.m] 29)) u1.heap.size n) := Item.new u1 n
                have NE : Hid ((Value.slice (some ⟨g0, 0, none⟩) 0 0).ownBlock ≠ some u1.heap.size) := fun e => by have h2 := (R0.out.lt _ e).2; omega
                replace R0 := Lib.hid (own_below R0.out HBn)
                refine hK.out _ _ (HKS.out _ HZn.out) (fun hHeld => ?_)
                replace HZ := HZn
                clear hK K HZn HBn
                generalize u1.alloc (.cells #[.int .i64 n.k, .string n.p, .string n.b, .int .i64 n.m] 29) = u2 at *
                generalize u1.heap.size = gi at *
                refine wpAnyH_ready (rs := [4]) (by kernel_rfl) (by simp) ?_
                refine (AllReadyH.cons (o := { dst := some 48, op := Go.Op.call { callee := Go.Callee.builtin Go.Builtin.append, args := #[Go.Operand.tmp 44, Go.Operand.tmp 47], argTypes := #[23, 23] }, type := 23, pos := "l04_trees.go:135", after := #[{ on := 0, ground := Go.Ground.data }, { on := 3, ground := Go.Ground.data }], guard := none }) rfl (fun K hK => ?_) AllReadyH.nil)
                refine step_append_own _ (by rfl) (.tmp 44) (.tmp 47) 23 (by rfl) W.heap.size 29 i0 (.agg #[.int .i64 0, .string ByteArray.empty, .string ByteArray.empty, .int .i64 0]) 4 48 Tryz.underlying23 hi hI0 hI1 hI2 rfl (by decide) (.slice (some ⟨g0, 0, none⟩) 0 0) 0 [] (by simp [Act.eval] <;> omega) R0.out ⟨g, 0, none⟩ k (k + 1) (flatN (l.take k)) (by simp [Act.eval] <;> omega) HL1.out (src_cells (HRW.out.below HZ.out) 0 _ (.inr ⟨rfl, k, rfl⟩)) (flatN_one _) (by unfold maxLen; omega) (by omega) HZ.out.size ?_
                intro s48 u3 R4x G4 _
                have R4 : Hid (u3.ownsRow W.heap.size 29 4 s48 k (flatN (l.take k))) := by have := R4x; rw [Nat.zero_add, List.nil_append] at this; exact this
                have HZn : Hid (Below W.heap.size W u3) := HZ.out.grown G4 HZ.out.size (fun j hj => (R0.out.lt j hj).1)
                replace IT := Lib.hid (IT.out.grown G4 NE.out)
                clear NE
                simp only [Act.put, List.setIfInBounds_toArray, List.set_cons_zero, List.set_cons_succ]
                refine hK.out _ _ (HKS.out _ HZn.out) (fun hHeld => ?_)
                replace HZ := HZn
                clear hK K HZn R4x G4 R0
                refine wpAnyH_ready (rs := [7]) (by kernel_rfl) (by simp) ?_
                refine (AllReadyH.cons (o := { dst := some 51, op := Go.Op.call { callee := Go.Callee.builtin Go.Builtin.append, args := #[Go.Operand.tmp 48, Go.Operand.tmp 50], argTypes := #[23, 23] }, type := 23, pos := "l04_trees.go:135", after := #[{ on := 4, ground := Go.Ground.data }, { on := 6, ground := Go.Ground.data }, { on := 4, ground := Go.Ground.chain }], guard := none }) rfl (fun K hK => ?_) AllReadyH.nil)
                refine step_append_own _ (by rfl) (.tmp 48) (.tmp 50) 23 (by rfl) W.heap.size 29 i0 (.agg #[.int .i64 0, .string ByteArray.empty, .string ByteArray.empty, .int .i64 0]) 4 48 Tryz.underlying23 hi hI0 hI1 hI2 rfl (by decide) s48 k (flatN (l.take k)) (by simp [Act.eval] <;> omega) R4.out ⟨gi, 0, none⟩ 1 1 n.ns (by simp [Act.eval] <;> omega) rfl IT.out.cells (nodR_one n) (by unfold maxLen; omega) (by omega) HZ.out.size ?_
                intro s51 u4 R7x G7 N7
                have R7 := Lib.hid R7x
                have N7h : Hid (s51 ≠ .slice none 0 0) := fun e => by have := (N7.1 e).2; omega
                have HZn : Hid (Below W.heap.size W u4) := HZ.out.grown G7 HZ.out.size (fun j hj => (R4.out.lt j hj).1)
                simp only [Act.put, List.setIfInBounds_toArray, List.set_cons_zero, List.set_cons_succ]
                refine hK.out _ _ (HKS.out _ HZn.out) (fun hHeld => ?_)
                replace HZ := HZn
                clear hK K HZn R7x G7 N7 R4 IT
                refine wpAnyH_ready (rs := [9]) (by kernel_rfl) (by simp) ?_
                refine (AllReadyH.cons (o := { dst := some 53, op := Go.Op.call { callee := Go.Callee.builtin Go.Builtin.append, args := #[Go.Operand.tmp 51, Go.Operand.tmp 52], argTypes := #[23, 23] }, type := 23, pos := "l04_trees.go:135", after := #[{ on := 7, ground := Go.Ground.data }, { on := 8, ground := Go.Ground.data }, { on := 7, ground := Go.Ground.chain }], guard := none }) rfl (fun K hK => ?_) AllReadyH.nil)
                refine step_append_own _ (by rfl) (.tmp 51) (.tmp 52) 23 (by rfl) W.heap.size 29 i0 (.agg #[.int .i64 0, .string ByteArray.empty, .string ByteArray.empty, .int .i64 0]) 4 48 Tryz.underlying23 hi hI0 hI1 hI2 rfl (by decide) s51 (k + 1) (flatN (l.take k) ++ n.ns) (by simp [Act.eval] <;> omega) R7.out ⟨g, 0, none⟩ (l.length - (k + 1)) 0 (flatN (l.drop ((k + 1)))) (by simp [Act.eval] <;> omega) (by rw [← HR.out]; exact HL2.out) (fun j u hj => by rw [List.drop_eq_nil_of_le (by omega)] at hj; simp [flatN] at hj) (flatN_one _) (by unfold maxLen; omega) (by omega) HZ.out.size ?_
                intro s53 u5 R9x G9 N9
                have HF := Lib.hid (HRET.out s53 u5 (HZ.out.grown G9 HZ.out.size (fun j hj => (R7.out.lt j hj).1)) (by rw [HR.out]; exact R9x) (fun e => N7h.out (N9.1 e).1))
                have HZn : Hid (Below W.heap.size W u5) := HZ.out.grown G9 HZ.out.size (fun j hj => (R7.out.lt j hj).1)
                simp only [Act.put, List.setIfInBounds_toArray, List.set_cons_zero, List.set_cons_succ]
                refine hK.out _ _ (HKS.out _ HZn.out) (fun hHeld => ?_)
                replace HZ := HZn
                clear hK K HZn R9x G9 N9 R7 N7h
                refine wpAnyH_take (i := 10) (oi := { dst := some 4, op := Go.Op.assign (Go.Operand.tmp 53), type := 23, pos := "l04_trees.go:135", after := #[{ on := 9, ground := Go.Ground.data }, { on := 9, ground := Go.Ground.chain }, { on := 0, ground := Go.Ground.phase }, { on := 1, ground := Go.Ground.phase }, { on := 2, ground := Go.Ground.phase }, { on := 3, ground := Go.Ground.phase }, { on := 4, ground := Go.Ground.phase }, { on := 5, ground := Go.Ground.phase }, { on := 6, ground := Go.Ground.phase }, { on := 7, ground := Go.Ground.phase }, { on := 8, ground := Go.Ground.phase }, { on := 9, ground := Go.Ground.phase }], guard := none }) (v := ?vdx2q10) rfl (by kernel_rfl) (by kernel_rfl) (by kernel_rfl) (fun _ _ _ h => h) (Or.inl ⟨by rfl, ?ydx2q10⟩) hHeld ?zdx2q10
                case ydx2q10 =>
                  intro w hSw
                  (try dsimp only at hSw)
                  go_simp
                  try with_reducible rfl
                simp only [Act.put, List.setIfInBounds_toArray, List.set_cons_zero, List.set_cons_succ]
                refine wpAnyH_done (by kernel_rfl) ?_ _
                go_wp2
                go_ret
                exact HF.out
            · go_simp
              have HZn : Hid (Below W.heap.size W (u0.alloc (.cells #[.int .i64 n.k, .string n.p, .string n.b, .int .i64 n.m] 29))) := HZ.out.alloc HZ.out.size _
              have HBn : Below u0.heap.size u0 (u0.alloc (.cells #[.int .i64 n.k, .string n.p, .string n.b, .int .i64 n.m] 29)) := (Below.refl _ _).alloc (Nat.le_refl _) _
              have IT : Hid (Item (u0.alloc (.cells #[.int .i64 n.k, .string n.p, .string n.b, .int .i64 n.m] 29)) u0.heap.size n) := Item.new u0 n
              refine hK.out _ _ (HKS.out _ HZn.out) (fun hHeld => ?_)
              replace HZ := HZn
              clear hK K HZn HBn
              generalize u0.alloc (.cells #[.int .i64 n.k, .string n.p, .string n.b, .int .i64 n.m] 29) = u1 at *
              generalize u0.heap.size = gi at *
              refine wpAnyH_ready (rs := [0]) (by kernel_rfl) (by simp) ?_
              refine (AllReadyH.cons (o := { dst := some 44, op := Go.Op.buildSlice 23 0 #[], type := 23, pos := "l04_trees.go:135", after := #[], guard := none }) rfl (fun K hK => ?_) AllReadyH.nil)
              go_simp
              have HZn : Hid (Below W.heap.size W (u1.alloc (.cells #[] 29))) := HZ.out.alloc HZ.out.size _
              have HBn : Below u1.heap.size u1 (u1.alloc (.cells #[] 29)) := (Below.refl _ _).alloc (Nat.le_refl _) _
              have R0 : Hid ((u1.alloc (.cells #[] 29)).ownsRow W.heap.size 29 4 (.slice (some ⟨u1.heap.size, 0, none⟩) 0 0) 0 []) := World.ownsRow_lit u1 #[] 0 HZ.out.size (Nat.zero_le _) rfl
              have NE : Hid ((Value.slice (some ⟨u1.heap.size, 0, none⟩) 0 0).ownBlock ≠ some gi) := fun e => by have h1 : u1.heap.size = gi := Option.some.inj e; have h2 := IT.out.lt; omega
              replace IT := Lib.hid (IT.out.below HBn)
              refine hK.out _ _ (HKS.out _ HZn.out) (fun hHeld => ?_)
              replace HZ := HZn
              clear hK K HZn HBn
              generalize u1.alloc (.cells #[] 29) = u2 at *
              generalize u1.heap.size = g0 at *
              refine wpAnyH_ready (rs := [4]) (by kernel_rfl) (by simp) ?_
              refine (AllReadyH.cons (o := { dst := some 48, op := Go.Op.call { callee := Go.Callee.builtin Go.Builtin.append, args := #[Go.Operand.tmp 44, Go.Operand.tmp 47], argTypes := #[23, 23] }, type := 23, pos := "l04_trees.go:135", after := #[{ on := 0, ground := Go.Ground.data }, { on := 3, ground := Go.Ground.data }], guard := none }) rfl (fun K hK => ?_) AllReadyH.nil)
              refine step_append_own _ (by rfl) (.tmp 44) (.tmp 47) 23 (by rfl) W.heap.size 29 i0 (.agg #[.int .i64 0, .string ByteArray.empty, .string ByteArray.empty, .int .i64 0]) 4 48 Tryz.underlying23 hi hI0 hI1 hI2 rfl (by decide) (.slice (some ⟨g0, 0, none⟩) 0 0) 0 [] (by simp [Act.eval] <;> omega) R0.out ⟨g, 0, none⟩ k (k + 1) (flatN (l.take k)) (by simp [Act.eval] <;> omega) HL1.out (src_cells (HRW.out.below HZ.out) 0 _ (.inr ⟨rfl, k, rfl⟩)) (flatN_one _) (by unfold maxLen; omega) (by omega) HZ.out.size ?_
              intro s48 u3 R4x G4 _
              have R4 : Hid (u3.ownsRow W.heap.size 29 4 s48 k (flatN (l.take k))) := by have := R4x; rw [Nat.zero_add, List.nil_append] at this; exact this
              have HZn : Hid (Below W.heap.size W u3) := HZ.out.grown G4 HZ.out.size (fun j hj => (R0.out.lt j hj).1)
              replace IT := Lib.hid (IT.out.grown G4 NE.out)
              clear NE
              simp only [Act.put, List.setIfInBounds_toArray, List.set_cons_zero, List.set_cons_succ]
              refine hK.out _ _ (HKS.out _ HZn.out) (fun hHeld => ?_)
              replace HZ := HZn
              clear hK K HZn R4x G4 R0
              refine wpAnyH_ready (rs := [7]) (by kernel_rfl) (by simp) ?_
              refine (AllReadyH.cons (o := { dst := some 51, op := Go.Op.call { callee := Go.Callee.builtin Go.Builtin.append, args := #[Go.Operand.tmp 48, Go.Operand.tmp 50], argTypes := #[23, 23] }, type := 23, pos := "l04_trees.go:135", after := #[{ on := 4, ground := Go.Ground.data }, { on := 6, ground := Go.Ground.data }, { on := 4, ground := Go.Ground.chain }], guard := none }) rfl (fun K hK => ?_) AllReadyH.nil)
              refine step_append_own _ (by rfl) (.tmp 48) (.tmp 50) 23 (by rfl) W.heap.size 29 i0 (.agg #[.int .i64 0, .string ByteArray.empty, .string ByteArray.empty, .int .i64 0]) 4 48 Tryz.underlying23 hi hI0 hI1 hI2 rfl (by decide) s48 k (flatN (l.take k)) (by simp [Act.eval] <;> omega) R4.out ⟨gi, 0, none⟩ 1 1 n.ns (by simp [Act.eval] <;> omega) rfl IT.out.cells (nodR_one n) (by unfold maxLen; omega) (by omega) HZ.out.size ?_
              intro s51 u4 R7x G7 N7
              have R7 := Lib.hid R7x
              have N7h : Hid (s51 ≠ .slice none 0 0) := fun e => by have := (N7.1 e).2; omega
              have HZn : Hid (Below W.heap.size W u4) := HZ.out.grown G7 HZ.out.size (fun j hj => (R4.out.lt j hj).1)
              simp only [Act.put, List.setIfInBounds_toArray, List.set_cons_zero, List.set_cons_succ]
              refine hK.out _ _ (HKS.out _ HZn.out) (fun hHeld => ?_)
              replace HZ := HZn
              clear hK K HZn R7x G7 N7 R4 IT
              refine wpAnyH_ready (rs := [9]) (by kernel_rfl) (by simp) ?_
              refine (AllReadyH.cons (o := { dst := some 53, op := Go.Op.call { callee := Go.Callee.builtin Go.Builtin.append, args := #[Go.Operand.tmp 51, Go.Operand.tmp 52], argTypes := #[23, 23] }, type := 23, pos := "l04_trees.go:135", after := #[{ on := 7, ground := Go.Ground.data }, { on := 8, ground := Go.Ground.data }, { on := 7, ground := Go.Ground.chain }], guard := none }) rfl (fun K hK => ?_) AllReadyH.nil)
              refine step_append_own _ (by rfl) (.tmp 51) (.tmp 52) 23 (by rfl) W.heap.size 29 i0 (.agg #[.int .i64 0, .string ByteArray.empty, .string ByteArray.empty, .int .i64 0]) 4 48 Tryz.underlying23 hi hI0 hI1 hI2 rfl (by decide) s51 (k + 1) (flatN (l.take k) ++ n.ns) (by simp [Act.eval] <;> omega) R7.out ⟨g, 0, none⟩ (l.length - (k + 1)) 0 (flatN (l.drop ((k + 1)))) (by simp [Act.eval] <;> omega) (by rw [← HR.out]; exact HL2.out) (fun j u hj => by rw [List.drop_eq_nil_of_le (by omega)] at hj; simp [flatN] at hj) (flatN_one _) (by unfold maxLen; omega) (by omega) HZ.out.size ?_
              intro s53 u5 R9x G9 N9
              have HF := Lib.hid (HRET.out s53 u5 (HZ.out.grown G9 HZ.out.size (fun j hj => (R7.out.lt j hj).1)) (by rw [HR.out]; exact R9x) (fun e => N7h.out (N9.1 e).1))
              have HZn : Hid (Below W.heap.size W u5) := HZ.out.grown G9 HZ.out.size (fun j hj => (R7.out.lt j hj).1)
              simp only [Act.put, List.setIfInBounds_toArray, List.set_cons_zero, List.set_cons_succ]
              refine hK.out _ _ (HKS.out _ HZn.out) (fun hHeld => ?_)
              replace HZ := HZn
              clear hK K HZn R9x G9 N9 R7 N7h
              refine wpAnyH_take (i := 10) (oi := { dst := some 4, op := Go.Op.assign (Go.Operand.tmp 53), type := 23, pos := "l04_trees.go:135", after := #[{ on := 9, ground := Go.Ground.data }, { on := 9, ground := Go.Ground.chain }, { on := 0, ground := Go.Ground.phase }, { on := 1, ground := Go.Ground.phase }, { on := 2, ground := Go.Ground.phase }, { on := 3, ground := Go.Ground.phase }, { on := 4, ground := Go.Ground.phase }, { on := 5, ground := Go.Ground.phase }, { on := 6, ground := Go.Ground.phase }, { on := 7, ground := Go.Ground.phase }, { on := 8, ground := Go.Ground.phase }, { on := 9, ground := Go.Ground.phase }], guard := none }) (v := ?vdx3q10) rfl (by kernel_rfl) (by kernel_rfl) (by kernel_rfl) (fun _ _ _ h => h) (Or.inl ⟨by rfl, ?ydx3q10⟩) hHeld ?zdx3q10
              case ydx3q10 =>
                intro w hSw
                (try dsimp only at hSw)
                go_simp
                try with_reducible rfl
              simp only [Act.put, List.setIfInBounds_toArray, List.set_cons_zero, List.set_cons_succ]
              refine wpAnyH_done (by kernel_rfl) ?_ _
              go_wp2
              go_ret
              exact HF.out
          · skip
            go_wp2
            have HKS : Hid (∀ w', Below W.heap.size W w' → NodCells w' w.heap.size 0 n) := fun w' hb => (HIT.out.below hb).nod
            have HZ : Hid (Below W.heap.size W w2.drew) := hbw2.drew
            refine wp_region_held_drew (S := fun w' => NodCells w' w.heap.size 0 n) (by kernel_rfl) (HKS.out _ HZ.out) (fun hHeld => ?_)
            refine wpAnyH_take (i := 1) (oi := { dst := some 45, op := Go.Op.move (Go.Operand.tmp 0), type := 23, pos := "l04_trees.go:135", after := #[], guard := none }) (v := ?va1) rfl (by kernel_rfl) (by kernel_rfl) (by kernel_rfl) (fun _ _ _ h => h) (Or.inl ⟨by rfl, ?ya1⟩) hHeld ?za1
            case ya1 =>
              intro w hSw
              (try dsimp only at hSw)
              go_simp
              try with_reducible rfl
            simp only [Act.put, List.setIfInBounds_toArray, List.set_cons_zero, List.set_cons_succ]
            refine wpAnyH_take (i := 2) (oi := { dst := some 46, op := Go.Op.move (Go.Operand.tmp 5), type := 3, pos := "l04_trees.go:135", after := #[], guard := none }) (v := ?va2) rfl (by kernel_rfl) (by kernel_rfl) (by kernel_rfl) (fun _ _ _ h => h) (Or.inl ⟨by rfl, ?ya2⟩) hHeld ?za2
            case ya2 =>
              intro w hSw
              (try dsimp only at hSw)
              go_simp
              try with_reducible rfl
            simp only [Act.put, List.setIfInBounds_toArray, List.set_cons_zero, List.set_cons_succ]
            refine wpAnyH_take (i := 3) (oi := { dst := some 47, op := Go.Op.slice 23 (Go.Operand.tmp 45) none (some (Go.Operand.tmp 46)) none, type := 23, pos := "l04_trees.go:135", after := #[{ on := 1, ground := Go.Ground.data }, { on := 2, ground := Go.Ground.data }], guard := none }) (v := ?va3) rfl (by kernel_rfl) (by kernel_rfl) (by kernel_rfl) (fun _ _ _ h => h) (Or.inl ⟨by rfl, ?ya3⟩) hHeld ?za3
            case ya3 =>
              intro w hSw
              (try dsimp only at hSw)
              go_simp
              try with_reducible rfl
            simp only [Act.put, List.setIfInBounds_toArray, List.set_cons_zero, List.set_cons_succ]
            refine wpAnyH_take (i := 5) (oi := { dst := some 49, op := Go.Op.load 29 (Go.Operand.tmp 3), type := 29, pos := "l04_trees.go:135", after := #[], guard := none }) (v := ?va5) rfl (by kernel_rfl) (by kernel_rfl) (by kernel_rfl) (fun _ _ _ h => h) (Or.inl ⟨by rfl, ?ya5⟩) hHeld ?za5
            case ya5 =>
              intro w hSw
              obtain ⟨q0, q1, q2, q3⟩ := hSw
              go_simp
              try with_reducible rfl
            simp only [Act.put, List.setIfInBounds_toArray, List.set_cons_zero, List.set_cons_succ]
            refine wpAnyH_take (i := 8) (oi := { dst := some 52, op := Go.Op.move (Go.Operand.tmp 6), type := 23, pos := "l04_trees.go:135", after := #[], guard := none }) (v := ?va8) rfl (by kernel_rfl) (by kernel_rfl) (by kernel_rfl) (fun _ _ _ h => h) (Or.inl ⟨by rfl, ?ya8⟩) hHeld ?za8
            case ya8 =>
              intro w hSw
              (try dsimp only at hSw)
              go_simp
              try with_reducible rfl
            simp only [Act.put, List.setIfInBounds_toArray, List.set_cons_zero, List.set_cons_succ]
            generalize w2.drew = u0 at *
            refine wpAnyH_ready (rs := [0, 6]) (by kernel_rfl) (by simp) ?_
            refine (AllReadyH.cons (o := { dst := some 44, op := Go.Op.buildSlice 23 0 #[], type := 23, pos := "l04_trees.go:135", after := #[], guard := none }) rfl (fun K hK => ?_) (AllReadyH.cons (o := { dst := some 50, op := Go.Op.buildSlice 23 1 #[(0, Go.Operand.tmp 49)], type := 23, pos := "l04_trees.go:135", after := #[{ on := 5, ground := Go.Ground.data }], guard := none }) rfl (fun K hK => ?_) AllReadyH.nil))
            · go_simp
              have HZn : Hid (Below W.heap.size W (u0.alloc (.cells #[] 29))) := HZ.out.alloc HZ.out.size _
              have HBn : Below u0.heap.size u0 (u0.alloc (.cells #[] 29)) := (Below.refl _ _).alloc (Nat.le_refl _) _
              have R0 : Hid ((u0.alloc (.cells #[] 29)).ownsRow W.heap.size 29 4 (.slice (some ⟨u0.heap.size, 0, none⟩) 0 0) 0 []) := World.ownsRow_lit u0 #[] 0 HZ.out.size (Nat.zero_le _) rfl
              refine hK.out _ _ (HKS.out _ HZn.out) (fun hHeld => ?_)
              replace HZ := HZn
              clear hK K HZn HBn
              generalize u0.alloc (.cells #[] 29) = u1 at *
              generalize u0.heap.size = g0 at *
              refine wpAnyH_ready (rs := [4, 6]) (by kernel_rfl) (by simp) ?_
              refine (AllReadyH.cons (o := { dst := some 48, op := Go.Op.call { callee := Go.Callee.builtin Go.Builtin.append, args := #[Go.Operand.tmp 44, Go.Operand.tmp 47], argTypes := #[23, 23] }, type := 23, pos := "l04_trees.go:135", after := #[{ on := 0, ground := Go.Ground.data }, { on := 3, ground := Go.Ground.data }], guard := none }) rfl (fun K hK => ?_) (AllReadyH.cons (o := { dst := some 50, op := Go.Op.buildSlice 23 1 #[(0, Go.Operand.tmp 49)], type := 23, pos := "l04_trees.go:135", after := #[{ on := 5, ground := Go.Ground.data }], guard := none }) rfl (fun K hK => ?_) AllReadyH.nil))
              · refine step_append_own _ (by rfl) (.tmp 44) (.tmp 47) 23 (by rfl) W.heap.size 29 i0 (.agg #[.int .i64 0, .string ByteArray.empty, .string ByteArray.empty, .int .i64 0]) 4 48 Tryz.underlying23 hi hI0 hI1 hI2 rfl (by decide) (.slice (some ⟨g0, 0, none⟩) 0 0) 0 [] (by simp [Act.eval] <;> omega) R0.out ⟨g, 0, none⟩ k cap (flatN (l.take k)) (by simp [Act.eval] <;> omega) HL1.out (src_cells (HRW.out.below HZ.out) 0 _ (.inr ⟨rfl, k, rfl⟩)) (flatN_one _) (by unfold maxLen; omega) (by omega) HZ.out.size ?_
                intro s48 u2 R4x G4 _
                have R4 : Hid (u2.ownsRow W.heap.size 29 4 s48 k (flatN (l.take k))) := by have := R4x; rw [Nat.zero_add, List.nil_append] at this; exact this
                have HZn : Hid (Below W.heap.size W u2) := HZ.out.grown G4 HZ.out.size (fun j hj => (R0.out.lt j hj).1)
                simp only [Act.put, List.setIfInBounds_toArray, List.set_cons_zero, List.set_cons_succ]
                refine hK.out _ _ (HKS.out _ HZn.out) (fun hHeld => ?_)
                replace HZ := HZn
                clear hK K HZn R4x G4 R0
                refine wpAnyH_ready (rs := [6]) (by kernel_rfl) (by simp) ?_
                refine (AllReadyH.cons (o := { dst := some 50, op := Go.Op.buildSlice 23 1 #[(0, Go.Operand.tmp 49)], type := 23, pos := "l04_trees.go:135", after := #[{ on := 5, ground := Go.Ground.data }], guard := none }) rfl (fun K hK => ?_) AllReadyH.nil)
                go_simp
                have HZn : Hid (Below W.heap.size W (u2.alloc (.cells #[.int .i64 n.k, .string n.p, .string n.b, .int .i64 n.m] 29))) := HZ.out.alloc HZ.out.size _
                have HBn : Below u2.heap.size u2 (u2.alloc (.cells #[.int .i64 n.k, .string n.p, .string n.b, .int .i64 n.m] 29)) := (Below.refl _ _).alloc (Nat.le_refl _) _
                have IT : Hid (Item (u2.alloc (.cells #[.int .i64 n.k, .string n.p, .string n.b, .int .i64 n.m] 29)) u2.heap.size n) := Item.new u2 n
                replace R4 := Lib.hid (own_below R4.out HBn)
                refine hK.out _ _ (HKS.out _ HZn.out) (fun hHeld => ?_)
                replace HZ := HZn
                clear hK K HZn HBn
                generalize u2.alloc (.cells #[.int .i64 n.k, .string n.p, .string n.b, .int .i64 n.m] 29) = u3 at *
                generalize u2.heap.size = gi at *
                refine wpAnyH_ready (rs := [7]) (by kernel_rfl) (by simp) ?_
                refine (AllReadyH.cons (o := { dst := some 51, op := Go.Op.call { callee := Go.Callee.builtin Go.Builtin.append, args := #[Go.Operand.tmp 48, Go.Operand.tmp 50], argTypes := #[23, 23] }, type := 23, pos := "l04_trees.go:135", after := #[{ on := 4, ground := Go.Ground.data }, { on := 6, ground := Go.Ground.data }, { on := 4, ground := Go.Ground.chain }], guard := none }) rfl (fun K hK => ?_) AllReadyH.nil)
                refine step_append_own _ (by rfl) (.tmp 48) (.tmp 50) 23 (by rfl) W.heap.size 29 i0 (.agg #[.int .i64 0, .string ByteArray.empty, .string ByteArray.empty, .int .i64 0]) 4 48 Tryz.underlying23 hi hI0 hI1 hI2 rfl (by decide) s48 k (flatN (l.take k)) (by simp [Act.eval] <;> omega) R4.out ⟨gi, 0, none⟩ 1 1 n.ns (by simp [Act.eval] <;> omega) rfl IT.out.cells (nodR_one n) (by unfold maxLen; omega) (by omega) HZ.out.size ?_
                intro s51 u4 R7x G7 N7
                have R7 := Lib.hid R7x
                have N7h : Hid (s51 ≠ .slice none 0 0) := fun e => by have := (N7.1 e).2; omega
                have HZn : Hid (Below W.heap.size W u4) := HZ.out.grown G7 HZ.out.size (fun j hj => (R4.out.lt j hj).1)
                simp only [Act.put, List.setIfInBounds_toArray, List.set_cons_zero, List.set_cons_succ]
                refine hK.out _ _ (HKS.out _ HZn.out) (fun hHeld => ?_)
                replace HZ := HZn
                clear hK K HZn R7x G7 N7 R4 IT
                refine wpAnyH_ready (rs := [9]) (by kernel_rfl) (by simp) ?_
                refine (AllReadyH.cons (o := { dst := some 53, op := Go.Op.call { callee := Go.Callee.builtin Go.Builtin.append, args := #[Go.Operand.tmp 51, Go.Operand.tmp 52], argTypes := #[23, 23] }, type := 23, pos := "l04_trees.go:135", after := #[{ on := 7, ground := Go.Ground.data }, { on := 8, ground := Go.Ground.data }, { on := 7, ground := Go.Ground.chain }], guard := none }) rfl (fun K hK => ?_) AllReadyH.nil)
                refine step_append_own _ (by rfl) (.tmp 51) (.tmp 52) 23 (by rfl) W.heap.size 29 i0 (.agg #[.int .i64 0, .string ByteArray.empty, .string ByteArray.empty, .int .i64 0]) 4 48 Tryz.underlying23 hi hI0 hI1 hI2 rfl (by decide) s51 (k + 1) (flatN (l.take k) ++ n.ns) (by simp [Act.eval] <;> omega) R7.out ⟨g, (k + 1) * 4, none⟩ (l.length - (k + 1)) (cap - (k + 1)) (flatN (l.drop ((k + 1)))) (by simp [Act.eval] <;> omega) (by rw [← HR.out]; exact HL2.out) (src_cells (HRW.out.below HZ.out) ((k + 1)) _ (.inl rfl)) (flatN_one _) (by unfold maxLen; omega) (by omega) HZ.out.size ?_
                intro s53 u5 R9x G9 N9
                have HF := Lib.hid (HRET.out s53 u5 (HZ.out.grown G9 HZ.out.size (fun j hj => (R7.out.lt j hj).1)) (by rw [HR.out]; exact R9x) (fun e => N7h.out (N9.1 e).1))
                have HZn : Hid (Below W.heap.size W u5) := HZ.out.grown G9 HZ.out.size (fun j hj => (R7.out.lt j hj).1)
                simp only [Act.put, List.setIfInBounds_toArray, List.set_cons_zero, List.set_cons_succ]
                refine hK.out _ _ (HKS.out _ HZn.out) (fun hHeld => ?_)
                replace HZ := HZn
                clear hK K HZn R9x G9 N9 R7 N7h
                refine wpAnyH_take (i := 10) (oi := { dst := some 4, op := Go.Op.assign (Go.Operand.tmp 53), type := 23, pos := "l04_trees.go:135", after := #[{ on := 9, ground := Go.Ground.data }, { on := 9, ground := Go.Ground.chain }, { on := 0, ground := Go.Ground.phase }, { on := 1, ground := Go.Ground.phase }, { on := 2, ground := Go.Ground.phase }, { on := 3, ground := Go.Ground.phase }, { on := 4, ground := Go.Ground.phase }, { on := 5, ground := Go.Ground.phase }, { on := 6, ground := Go.Ground.phase }, { on := 7, ground := Go.Ground.phase }, { on := 8, ground := Go.Ground.phase }, { on := 9, ground := Go.Ground.phase }], guard := none }) (v := ?vax4q10) rfl (by kernel_rfl) (by kernel_rfl) (by kernel_rfl) (fun _ _ _ h => h) (Or.inl ⟨by rfl, ?yax4q10⟩) hHeld ?zax4q10
                case yax4q10 =>
                  intro w hSw
                  (try dsimp only at hSw)
                  go_simp
                  try with_reducible rfl
                simp only [Act.put, List.setIfInBounds_toArray, List.set_cons_zero, List.set_cons_succ]
                refine wpAnyH_done (by kernel_rfl) ?_ _
                go_wp2
                go_ret
                exact HF.out
              · go_simp
                have HZn : Hid (Below W.heap.size W (u1.alloc (.cells #[.int .i64 n.k, .string n.p, .string n.b, .int .i64 n.m] 29))) := HZ.out.alloc HZ.out.size _
                have HBn : Below u1.heap.size u1 (u1.alloc (.cells #[.int .i64 n.k, .string n.p, .string n.b, .int .i64 n.m] 29)) := (Below.refl _ _).alloc (Nat.le_refl _) _
                have IT : Hid (Item (u1.alloc (.cells #[.int .i64 n.k, .string n.p, .string n.b, .int .i64 n.m] 29)) u1.heap.size n) := Item.new u1 n
                have NE : Hid ((Value.slice (some ⟨g0, 0, none⟩) 0 0).ownBlock ≠ some u1.heap.size) := fun e => by have h2 := (R0.out.lt _ e).2; omega
                replace R0 := Lib.hid (own_below R0.out HBn)
                refine hK.out _ _ (HKS.out _ HZn.out) (fun hHeld => ?_)
                replace HZ := HZn
                clear hK K HZn HBn
                generalize u1.alloc (.cells #[.int .i64 n.k, .string n.p, .string n.b, .int .i64 n.m] 29) = u2 at *
                generalize u1.heap.size = gi at *
                refine wpAnyH_ready (rs := [4]) (by kernel_rfl) (by simp) ?_
                refine (AllReadyH.cons (o := { dst := some 48, op := Go.Op.call { callee := Go.Callee.builtin Go.Builtin.append, args := #[Go.Operand.tmp 44, Go.Operand.tmp 47], argTypes := #[23, 23] }, type := 23, pos := "l04_trees.go:135", after := #[{ on := 0, ground := Go.Ground.data }, { on := 3, ground := Go.Ground.data }], guard := none }) rfl (fun K hK => ?_) AllReadyH.nil)
                refine step_append_own _ (by rfl) (.tmp 44) (.tmp 47) 23 (by rfl) W.heap.size 29 i0 (.agg #[.int .i64 0, .string ByteArray.empty, .string ByteArray.empty, .int .i64 0]) 4 48 Tryz.underlying23 hi hI0 hI1 hI2 rfl (by decide) (.slice (some ⟨g0, 0, none⟩) 0 0) 0 [] (by simp [Act.eval] <;> omega) R0.out ⟨g, 0, none⟩ k cap (flatN (l.take k)) (by simp [Act.eval] <;> omega) HL1.out (src_cells (HRW.out.below HZ.out) 0 _ (.inr ⟨rfl, k, rfl⟩)) (flatN_one _) (by unfold maxLen; omega) (by omega) HZ.out.size ?_
                intro s48 u3 R4x G4 _
                have R4 : Hid (u3.ownsRow W.heap.size 29 4 s48 k (flatN (l.take k))) := by have := R4x; rw [Nat.zero_add, List.nil_append] at this; exact this
                have HZn : Hid (Below W.heap.size W u3) := HZ.out.grown G4 HZ.out.size (fun j hj => (R0.out.lt j hj).1)
                replace IT := Lib.hid (IT.out.grown G4 NE.out)
                clear NE
                simp only [Act.put, List.setIfInBounds_toArray, List.set_cons_zero, List.set_cons_succ]
                refine hK.out _ _ (HKS.out _ HZn.out) (fun hHeld => ?_)
                replace HZ := HZn
                clear hK K HZn R4x G4 R0
                refine wpAnyH_ready (rs := [7]) (by kernel_rfl) (by simp) ?_
                refine (AllReadyH.cons (o := { dst := some 51, op := Go.Op.call { callee := Go.Callee.builtin Go.Builtin.append, args := #[Go.Operand.tmp 48, Go.Operand.tmp 50], argTypes := #[23, 23] }, type := 23, pos := "l04_trees.go:135", after := #[{ on := 4, ground := Go.Ground.data }, { on := 6, ground := Go.Ground.data }, { on := 4, ground := Go.Ground.chain }], guard := none }) rfl (fun K hK => ?_) AllReadyH.nil)
                refine step_append_own _ (by rfl) (.tmp 48) (.tmp 50) 23 (by rfl) W.heap.size 29 i0 (.agg #[.int .i64 0, .string ByteArray.empty, .string ByteArray.empty, .int .i64 0]) 4 48 Tryz.underlying23 hi hI0 hI1 hI2 rfl (by decide) s48 k (flatN (l.take k)) (by simp [Act.eval] <;> omega) R4.out ⟨gi, 0, none⟩ 1 1 n.ns (by simp [Act.eval] <;> omega) rfl IT.out.cells (nodR_one n) (by unfold maxLen; omega) (by omega) HZ.out.size ?_
                intro s51 u4 R7x G7 N7
                have R7 := Lib.hid R7x
                have N7h : Hid (s51 ≠ .slice none 0 0) := fun e => by have := (N7.1 e).2; omega
                have HZn : Hid (Below W.heap.size W u4) := HZ.out.grown G7 HZ.out.size (fun j hj => (R4.out.lt j hj).1)
                simp only [Act.put, List.setIfInBounds_toArray, List.set_cons_zero, List.set_cons_succ]
                refine hK.out _ _ (HKS.out _ HZn.out) (fun hHeld => ?_)
                replace HZ := HZn
                clear hK K HZn R7x G7 N7 R4 IT
                refine wpAnyH_ready (rs := [9]) (by kernel_rfl) (by simp) ?_
                refine (AllReadyH.cons (o := { dst := some 53, op := Go.Op.call { callee := Go.Callee.builtin Go.Builtin.append, args := #[Go.Operand.tmp 51, Go.Operand.tmp 52], argTypes := #[23, 23] }, type := 23, pos := "l04_trees.go:135", after := #[{ on := 7, ground := Go.Ground.data }, { on := 8, ground := Go.Ground.data }, { on := 7, ground := Go.Ground.chain }], guard := none }) rfl (fun K hK => ?_) AllReadyH.nil)
                refine step_append_own _ (by rfl) (.tmp 51) (.tmp 52) 23 (by rfl) W.heap.size 29 i0 (.agg #[.int .i64 0, .string ByteArray.empty, .string ByteArray.empty, .int .i64 0]) 4 48 Tryz.underlying23 hi hI0 hI1 hI2 rfl (by decide) s51 (k + 1) (flatN (l.take k) ++ n.ns) (by simp [Act.eval] <;> omega) R7.out ⟨g, (k + 1) * 4, none⟩ (l.length - (k + 1)) (cap - (k + 1)) (flatN (l.drop ((k + 1)))) (by simp [Act.eval] <;> omega) (by rw [← HR.out]; exact HL2.out) (src_cells (HRW.out.below HZ.out) ((k + 1)) _ (.inl rfl)) (flatN_one _) (by unfold maxLen; omega) (by omega) HZ.out.size ?_
                intro s53 u5 R9x G9 N9
                have HF := Lib.hid (HRET.out s53 u5 (HZ.out.grown G9 HZ.out.size (fun j hj => (R7.out.lt j hj).1)) (by rw [HR.out]; exact R9x) (fun e => N7h.out (N9.1 e).1))
                have HZn : Hid (Below W.heap.size W u5) := HZ.out.grown G9 HZ.out.size (fun j hj => (R7.out.lt j hj).1)
                simp only [Act.put, List.setIfInBounds_toArray, List.set_cons_zero, List.set_cons_succ]
                refine hK.out _ _ (HKS.out _ HZn.out) (fun hHeld => ?_)
                replace HZ := HZn
                clear hK K HZn R9x G9 N9 R7 N7h
                refine wpAnyH_take (i := 10) (oi := { dst := some 4, op := Go.Op.assign (Go.Operand.tmp 53), type := 23, pos := "l04_trees.go:135", after := #[{ on := 9, ground := Go.Ground.data }, { on := 9, ground := Go.Ground.chain }, { on := 0, ground := Go.Ground.phase }, { on := 1, ground := Go.Ground.phase }, { on := 2, ground := Go.Ground.phase }, { on := 3, ground := Go.Ground.phase }, { on := 4, ground := Go.Ground.phase }, { on := 5, ground := Go.Ground.phase }, { on := 6, ground := Go.Ground.phase }, { on := 7, ground := Go.Ground.phase }, { on := 8, ground := Go.Ground.phase }, { on := 9, ground := Go.Ground.phase }], guard := none }) (v := ?vax5q10) rfl (by kernel_rfl) (by kernel_rfl) (by kernel_rfl) (fun _ _ _ h => h) (Or.inl ⟨by rfl, ?yax5q10⟩) hHeld ?zax5q10
                case yax5q10 =>
                  intro w hSw
                  (try dsimp only at hSw)
                  go_simp
                  try with_reducible rfl
                simp only [Act.put, List.setIfInBounds_toArray, List.set_cons_zero, List.set_cons_succ]
                refine wpAnyH_done (by kernel_rfl) ?_ _
                go_wp2
                go_ret
                exact HF.out
            · go_simp
              have HZn : Hid (Below W.heap.size W (u0.alloc (.cells #[.int .i64 n.k, .string n.p, .string n.b, .int .i64 n.m] 29))) := HZ.out.alloc HZ.out.size _
              have HBn : Below u0.heap.size u0 (u0.alloc (.cells #[.int .i64 n.k, .string n.p, .string n.b, .int .i64 n.m] 29)) := (Below.refl _ _).alloc (Nat.le_refl _) _
              have IT : Hid (Item (u0.alloc (.cells #[.int .i64 n.k, .string n.p, .string n.b, .int .i64 n.m] 29)) u0.heap.size n) := Item.new u0 n
              refine hK.out _ _ (HKS.out _ HZn.out) (fun hHeld => ?_)
              replace HZ := HZn
              clear hK K HZn HBn
              generalize u0.alloc (.cells #[.int .i64 n.k, .string n.p, .string n.b, .int .i64 n.m] 29) = u1 at *
              generalize u0.heap.size = gi at *
              refine wpAnyH_ready (rs := [0]) (by kernel_rfl) (by simp) ?_
              refine (AllReadyH.cons (o := { dst := some 44, op := Go.Op.buildSlice 23 0 #[], type := 23, pos := "l04_trees.go:135", after := #[], guard := none }) rfl (fun K hK => ?_) AllReadyH.nil)
              go_simp
              have HZn : Hid (Below W.heap.size W (u1.alloc (.cells #[] 29))) := HZ.out.alloc HZ.out.size _
              have HBn : Below u1.heap.size u1 (u1.alloc (.cells #[] 29)) := (Below.refl _ _).alloc (Nat.le_refl _) _
              have R0 : Hid ((u1.alloc (.cells #[] 29)).ownsRow W.heap.size 29 4 (.slice (some ⟨u1.heap.size, 0, none⟩) 0 0) 0 []) := World.ownsRow_lit u1 #[] 0 HZ.out.size (Nat.zero_le _) rfl
              have NE : Hid ((Value.slice (some ⟨u1.heap.size, 0, none⟩) 0 0).ownBlock ≠ some gi) := fun e => by have h1 : u1.heap.size = gi := Option.some.inj e; have h2 := IT.out.lt; omega
              replace IT := Lib.hid (IT.out.below HBn)
              refine hK.out _ _ (HKS.out _ HZn.out) (fun hHeld => ?_)
              replace HZ := HZn
              clear hK K HZn HBn
              generalize u1.alloc (.cells #[] 29) = u2 at *
              generalize u1.heap.size = g0 at *
              refine wpAnyH_ready (rs := [4]) (by kernel_rfl) (by simp) ?_
              refine (AllReadyH.cons (o := { dst := some 48, op := Go.Op.call { callee := Go.Callee.builtin Go.Builtin.append, args := #[Go.Operand.tmp 44, Go.Operand.tmp 47], argTypes := #[23, 23] }, type := 23, pos := "l04_trees.go:135", after := #[{ on := 0, ground := Go.Ground.data }, { on := 3, ground := Go.Ground.data }], guard := none }) rfl (fun K hK => ?_) AllReadyH.nil)
              refine step_append_own _ (by rfl) (.tmp 44) (.tmp 47) 23 (by rfl) W.heap.size 29 i0 (.agg #[.int .i64 0, .string ByteArray.empty, .string ByteArray.empty, .int .i64 0]) 4 48 Tryz.underlying23 hi hI0 hI1 hI2 rfl (by decide) (.slice (some ⟨g0, 0, none⟩) 0 0) 0 [] (by simp [Act.eval] <;> omega) R0.out ⟨g, 0, none⟩ k cap (flatN (l.take k)) (by simp [Act.eval] <;> omega) HL1.out (src_cells (HRW.out.below HZ.out) 0 _ (.inr ⟨rfl, k, rfl⟩)) (flatN_one _) (by unfold maxLen; omega) (by omega) HZ.out.size ?_
              intro s48 u3 R4x G4 _
              have R4 : Hid (u3.ownsRow W.heap.size 29 4 s48 k (flatN (l.take k))) := by have := R4x; rw [Nat.zero_add, List.nil_append] at this; exact this
              have HZn : Hid (Below W.heap.size W u3) := HZ.out.grown G4 HZ.out.size (fun j hj => (R0.out.lt j hj).1)
              replace IT := Lib.hid (IT.out.grown G4 NE.out)
              clear NE
              simp only [Act.put, List.setIfInBounds_toArray, List.set_cons_zero, List.set_cons_succ]
              refine hK.out _ _ (HKS.out _ HZn.out) (fun hHeld => ?_)
              replace HZ := HZn
              clear hK K HZn R4x G4 R0
              refine wpAnyH_ready (rs := [7]) (by kernel_rfl) (by simp) ?_
              refine (AllReadyH.cons (o := { dst := some 51, op := Go.Op.call { callee := Go.Callee.builtin Go.Builtin.append, args := #[Go.Operand.tmp 48, Go.Operand.tmp 50], argTypes := #[23, 23] }, type := 23, pos := "l04_trees.go:135", after := #[{ on := 4, ground := Go.Ground.data }, { on := 6, ground := Go.Ground.data }, { on := 4, ground := Go.Ground.chain }], guard := none }) rfl (fun K hK => ?_) AllReadyH.nil)
              refine step_append_own _ (by rfl) (.tmp 48) (.tmp 50) 23 (by rfl) W.heap.size 29 i0 (.agg #[.int .i64 0, .string ByteArray.empty, .string ByteArray.empty, .int .i64 0]) 4 48 Tryz.underlying23 hi hI0 hI1 hI2 rfl (by decide) s48 k (flatN (l.take k)) (by simp [Act.eval] <;> omega) R4.out ⟨gi, 0, none⟩ 1 1 n.ns (by simp [Act.eval] <;> omega) rfl IT.out.cells (nodR_one n) (by unfold maxLen; omega) (by omega) HZ.out.size ?_
              intro s51 u4 R7x G7 N7
              have R7 := Lib.hid R7x
              have N7h : Hid (s51 ≠ .slice none 0 0) := fun e => by have := (N7.1 e).2; omega
              have HZn : Hid (Below W.heap.size W u4) := HZ.out.grown G7 HZ.out.size (fun j hj => (R4.out.lt j hj).1)
              simp only [Act.put, List.setIfInBounds_toArray, List.set_cons_zero, List.set_cons_succ]
              refine hK.out _ _ (HKS.out _ HZn.out) (fun hHeld => ?_)
              replace HZ := HZn
              clear hK K HZn R7x G7 N7 R4 IT
              refine wpAnyH_ready (rs := [9]) (by kernel_rfl) (by simp) ?_
              refine (AllReadyH.cons (o := { dst := some 53, op := Go.Op.call { callee := Go.Callee.builtin Go.Builtin.append, args := #[Go.Operand.tmp 51, Go.Operand.tmp 52], argTypes := #[23, 23] }, type := 23, pos := "l04_trees.go:135", after := #[{ on := 7, ground := Go.Ground.data }, { on := 8, ground := Go.Ground.data }, { on := 7, ground := Go.Ground.chain }], guard := none }) rfl (fun K hK => ?_) AllReadyH.nil)
              refine step_append_own _ (by rfl) (.tmp 51) (.tmp 52) 23 (by rfl) W.heap.size 29 i0 (.agg #[.int .i64 0, .string ByteArray.empty, .string ByteArray.empty, .int .i64 0]) 4 48 Tryz.underlying23 hi hI0 hI1 hI2 rfl (by decide) s51 (k + 1) (flatN (l.take k) ++ n.ns) (by simp [Act.eval] <;> omega) R7.out ⟨g, (k + 1) * 4, none⟩ (l.length - (k + 1)) (cap - (k + 1)) (flatN (l.drop ((k + 1)))) (by simp [Act.eval] <;> omega) (by rw [← HR.out]; exact HL2.out) (src_cells (HRW.out.below HZ.out) ((k + 1)) _ (.inl rfl)) (flatN_one _) (by unfold maxLen; omega) (by omega) HZ.out.size ?_
              intro s53 u5 R9x G9 N9
              have HF := Lib.hid (HRET.out s53 u5 (HZ.out.grown G9 HZ.out.size (fun j hj => (R7.out.lt j hj).1)) (by rw [HR.out]; exact R9x) (fun e => N7h.out (N9.1 e).1))
              have HZn : Hid (Below W.heap.size W u5) := HZ.out.grown G9 HZ.out.size (fun j hj => (R7.out.lt j hj).1)
              simp only [Act.put, List.setIfInBounds_toArray, List.set_cons_zero, List.set_cons_succ]
              refine hK.out _ _ (HKS.out _ HZn.out) (fun hHeld => ?_)
              replace HZ := HZn
              clear hK K HZn R9x G9 N9 R7 N7h
              refine wpAnyH_take (i := 10) (oi := { dst := some 4, op := Go.Op.assign (Go.Operand.tmp 53), type := 23, pos := "l04_trees.go:135", after := #[{ on := 9, ground := Go.Ground.data }, { on := 9, ground := Go.Ground.chain }, { on := 0, ground := Go.Ground.phase }, { on := 1, ground := Go.Ground.phase }, { on := 2, ground := Go.Ground.phase }, { on := 3, ground := Go.Ground.phase }, { on := 4, ground := Go.Ground.phase }, { on := 5, ground := Go.Ground.phase }, { on := 6, ground := Go.Ground.phase }, { on := 7, ground := Go.Ground.phase }, { on := 8, ground := Go.Ground.phase }, { on := 9, ground := Go.Ground.phase }], guard := none }) (v := ?vax6q10) rfl (by kernel_rfl) (by kernel_rfl) (by kernel_rfl) (fun _ _ _ h => h) (Or.inl ⟨by rfl, ?yax6q10⟩) hHeld ?zax6q10
              case yax6q10 =>
                intro w hSw
                (try dsimp only at hSw)
                go_simp
                try with_reducible rfl
              simp only [Act.put, List.setIfInBounds_toArray, List.set_cons_zero, List.set_cons_succ]
              refine wpAnyH_done (by kernel_rfl) ?_ _
              go_wp2
              go_ret
              exact HF.out
        · have HR : Hid (restAt l n = k) := by show _ = _; rw [HRE.out, HGE.out]; simp [heq]
          have hd : (l[k].p.toList == n.p.toList) = false := by rw [Bool.eq_false_iff]; exact fun e => heq (str_eq_of e)
          have hck : ¬ cap = k := by omega
          clear heq
          go_wp2
          go_quiet (fail)
          have hbw2 : Below W.heap.size W (w1.drewN nq) := below_drewN hbw1 nq
          generalize w1.drewN nq = w2 at *
          go_wp2
          have HKS : Hid (∀ w', Below W.heap.size W w' → NodCells w' w.heap.size 0 n) := fun w' hb => (HIT.out.below hb).nod
          have HZ : Hid (Below W.heap.size W w2.drew) := hbw2.drew
          refine wp_region_held_drew (S := fun w' => NodCells w' w.heap.size 0 n) (by kernel_rfl) (HKS.out _ HZ.out) (fun hHeld => ?_)
          refine wpAnyH_take (i := 1) (oi := { dst := some 45, op := Go.Op.move (Go.Operand.tmp 0), type := 23, pos := "l04_trees.go:135", after := #[], guard := none }) (v := ?vb1) rfl (by kernel_rfl) (by kernel_rfl) (by kernel_rfl) (fun _ _ _ h => h) (Or.inl ⟨by rfl, ?yb1⟩) hHeld ?zb1
          case yb1 =>
            intro w hSw
            (try dsimp only at hSw)
            go_simp
            try with_reducible rfl
          simp only [Act.put, List.setIfInBounds_toArray, List.set_cons_zero, List.set_cons_succ]
          refine wpAnyH_take (i := 2) (oi := { dst := some 46, op := Go.Op.move (Go.Operand.tmp 5), type := 3, pos := "l04_trees.go:135", after := #[], guard := none }) (v := ?vb2) rfl (by kernel_rfl) (by kernel_rfl) (by kernel_rfl) (fun _ _ _ h => h) (Or.inl ⟨by rfl, ?yb2⟩) hHeld ?zb2
          case yb2 =>
            intro w hSw
            (try dsimp only at hSw)
            go_simp
            try with_reducible rfl
          simp only [Act.put, List.setIfInBounds_toArray, List.set_cons_zero, List.set_cons_succ]
          refine wpAnyH_take (i := 3) (oi := { dst := some 47, op := Go.Op.slice 23 (Go.Operand.tmp 45) none (some (Go.Operand.tmp 46)) none, type := 23, pos := "l04_trees.go:135", after := #[{ on := 1, ground := Go.Ground.data }, { on := 2, ground := Go.Ground.data }], guard := none }) (v := ?vb3) rfl (by kernel_rfl) (by kernel_rfl) (by kernel_rfl) (fun _ _ _ h => h) (Or.inl ⟨by rfl, ?yb3⟩) hHeld ?zb3
          case yb3 =>
            intro w hSw
            (try dsimp only at hSw)
            go_simp
            try with_reducible rfl
          simp only [Act.put, List.setIfInBounds_toArray, List.set_cons_zero, List.set_cons_succ]
          refine wpAnyH_take (i := 5) (oi := { dst := some 49, op := Go.Op.load 29 (Go.Operand.tmp 3), type := 29, pos := "l04_trees.go:135", after := #[], guard := none }) (v := ?vb5) rfl (by kernel_rfl) (by kernel_rfl) (by kernel_rfl) (fun _ _ _ h => h) (Or.inl ⟨by rfl, ?yb5⟩) hHeld ?zb5
          case yb5 =>
            intro w hSw
            obtain ⟨q0, q1, q2, q3⟩ := hSw
            go_simp
            try with_reducible rfl
          simp only [Act.put, List.setIfInBounds_toArray, List.set_cons_zero, List.set_cons_succ]
          refine wpAnyH_take (i := 8) (oi := { dst := some 52, op := Go.Op.move (Go.Operand.tmp 6), type := 23, pos := "l04_trees.go:135", after := #[], guard := none }) (v := ?vb8) rfl (by kernel_rfl) (by kernel_rfl) (by kernel_rfl) (fun _ _ _ h => h) (Or.inl ⟨by rfl, ?yb8⟩) hHeld ?zb8
          case yb8 =>
            intro w hSw
            (try dsimp only at hSw)
            go_simp
            try with_reducible rfl
          simp only [Act.put, List.setIfInBounds_toArray, List.set_cons_zero, List.set_cons_succ]
          generalize w2.drew = u0 at *
          refine wpAnyH_ready (rs := [0, 6]) (by kernel_rfl) (by simp) ?_
          refine (AllReadyH.cons (o := { dst := some 44, op := Go.Op.buildSlice 23 0 #[], type := 23, pos := "l04_trees.go:135", after := #[], guard := none }) rfl (fun K hK => ?_) (AllReadyH.cons (o := { dst := some 50, op := Go.Op.buildSlice 23 1 #[(0, Go.Operand.tmp 49)], type := 23, pos := "l04_trees.go:135", after := #[{ on := 5, ground := Go.Ground.data }], guard := none }) rfl (fun K hK => ?_) AllReadyH.nil))
          · go_simp
            have HZn : Hid (Below W.heap.size W (u0.alloc (.cells #[] 29))) := HZ.out.alloc HZ.out.size _
            have HBn : Below u0.heap.size u0 (u0.alloc (.cells #[] 29)) := (Below.refl _ _).alloc (Nat.le_refl _) _
            have R0 : Hid ((u0.alloc (.cells #[] 29)).ownsRow W.heap.size 29 4 (.slice (some ⟨u0.heap.size, 0, none⟩) 0 0) 0 []) := World.ownsRow_lit u0 #[] 0 HZ.out.size (Nat.zero_le _) rfl
            refine hK.out _ _ (HKS.out _ HZn.out) (fun hHeld => ?_)
            replace HZ := HZn
            clear hK K HZn HBn
            generalize u0.alloc (.cells #[] 29) = u1 at *
            generalize u0.heap.size = g0 at *
            refine wpAnyH_ready (rs := [4, 6]) (by kernel_rfl) (by simp) ?_
            refine (AllReadyH.cons (o := { dst := some 48, op := Go.Op.call { callee := Go.Callee.builtin Go.Builtin.append, args := #[Go.Operand.tmp 44, Go.Operand.tmp 47], argTypes := #[23, 23] }, type := 23, pos := "l04_trees.go:135", after := #[{ on := 0, ground := Go.Ground.data }, { on := 3, ground := Go.Ground.data }], guard := none }) rfl (fun K hK => ?_) (AllReadyH.cons (o := { dst := some 50, op := Go.Op.buildSlice 23 1 #[(0, Go.Operand.tmp 49)], type := 23, pos := "l04_trees.go:135", after := #[{ on := 5, ground := Go.Ground.data }], guard := none }) rfl (fun K hK => ?_) AllReadyH.nil))
            · refine step_append_own _ (by rfl) (.tmp 44) (.tmp 47) 23 (by rfl) W.heap.size 29 i0 (.agg #[.int .i64 0, .string ByteArray.empty, .string ByteArray.empty, .int .i64 0]) 4 48 Tryz.underlying23 hi hI0 hI1 hI2 rfl (by decide) (.slice (some ⟨g0, 0, none⟩) 0 0) 0 [] (by simp [Act.eval] <;> omega) R0.out ⟨g, 0, none⟩ k cap (flatN (l.take k)) (by simp [Act.eval] <;> omega) HL1.out (src_cells (HRW.out.below HZ.out) 0 _ (.inr ⟨rfl, k, rfl⟩)) (flatN_one _) (by unfold maxLen; omega) (by omega) HZ.out.size ?_
              intro s48 u2 R4x G4 _
              have R4 : Hid (u2.ownsRow W.heap.size 29 4 s48 k (flatN (l.take k))) := by have := R4x; rw [Nat.zero_add, List.nil_append] at this; exact this
              have HZn : Hid (Below W.heap.size W u2) := HZ.out.grown G4 HZ.out.size (fun j hj => (R0.out.lt j hj).1)
              simp only [Act.put, List.setIfInBounds_toArray, List.set_cons_zero, List.set_cons_succ]
              refine hK.out _ _ (HKS.out _ HZn.out) (fun hHeld => ?_)
              replace HZ := HZn
              clear hK K HZn R4x G4 R0
              refine wpAnyH_ready (rs := [6]) (by kernel_rfl) (by simp) ?_
              refine (AllReadyH.cons (o := { dst := some 50, op := Go.Op.buildSlice 23 1 #[(0, Go.Operand.tmp 49)], type := 23, pos := "l04_trees.go:135", after := #[{ on := 5, ground := Go.Ground.data }], guard := none }) rfl (fun K hK => ?_) AllReadyH.nil)
              go_simp
              have HZn : Hid (Below W.heap.size W (u2.alloc (.cells #[.int .i64 n.k, .string n.p, .string n.b, .int .i64 n.m] 29))) := HZ.out.alloc HZ.out.size _
              have HBn : Below u2.heap.size u2 (u2.alloc (.cells #[.int .i64 n.k, .string n.p, .string n.b, .int .i64 n.m] 29)) := (Below.refl _ _).alloc (Nat.le_refl _) _
              have IT : Hid (Item (u2.alloc (.cells #[.int .i64 n.k, .string n.p, .string n.b, .int .i64 n.m] 29)) u2.heap.size n) := Item.new u2 n
              replace R4 := Lib.hid (own_below R4.out HBn)
              refine hK.out _ _ (HKS.out _ HZn.out) (fun hHeld => ?_)
              replace HZ := HZn
              clear hK K HZn HBn
              generalize u2.alloc (.cells #[.int .i64 n.k, .string n.p, .string n.b, .int .i64 n.m] 29) = u3 at *
              generalize u2.heap.size = gi at *
              refine wpAnyH_ready (rs := [7]) (by kernel_rfl) (by simp) ?_
              refine (AllReadyH.cons (o := { dst := some 51, op := Go.Op.call { callee := Go.Callee.builtin Go.Builtin.append, args := #[Go.Operand.tmp 48, Go.Operand.tmp 50], argTypes := #[23, 23] }, type := 23, pos := "l04_trees.go:135", after := #[{ on := 4, ground := Go.Ground.data }, { on := 6, ground := Go.Ground.data }, { on := 4, ground := Go.Ground.chain }], guard := none }) rfl (fun K hK => ?_) AllReadyH.nil)
              refine step_append_own _ (by rfl) (.tmp 48) (.tmp 50) 23 (by rfl) W.heap.size 29 i0 (.agg #[.int .i64 0, .string ByteArray.empty, .string ByteArray.empty, .int .i64 0]) 4 48 Tryz.underlying23 hi hI0 hI1 hI2 rfl (by decide) s48 k (flatN (l.take k)) (by simp [Act.eval] <;> omega) R4.out ⟨gi, 0, none⟩ 1 1 n.ns (by simp [Act.eval] <;> omega) rfl IT.out.cells (nodR_one n) (by unfold maxLen; omega) (by omega) HZ.out.size ?_
              intro s51 u4 R7x G7 N7
              have R7 := Lib.hid R7x
              have N7h : Hid (s51 ≠ .slice none 0 0) := fun e => by have := (N7.1 e).2; omega
              have HZn : Hid (Below W.heap.size W u4) := HZ.out.grown G7 HZ.out.size (fun j hj => (R4.out.lt j hj).1)
              simp only [Act.put, List.setIfInBounds_toArray, List.set_cons_zero, List.set_cons_succ]
              refine hK.out _ _ (HKS.out _ HZn.out) (fun hHeld => ?_)
              replace HZ := HZn
              clear hK K HZn R7x G7 N7 R4 IT
              refine wpAnyH_ready (rs := [9]) (by kernel_rfl) (by simp) ?_
              refine (AllReadyH.cons (o := { dst := some 53, op := Go.Op.call { callee := Go.Callee.builtin Go.Builtin.append, args := #[Go.Operand.tmp 51, Go.Operand.tmp 52], argTypes := #[23, 23] }, type := 23, pos := "l04_trees.go:135", after := #[{ on := 7, ground := Go.Ground.data }, { on := 8, ground := Go.Ground.data }, { on := 7, ground := Go.Ground.chain }], guard := none }) rfl (fun K hK => ?_) AllReadyH.nil)
              refine step_append_own _ (by rfl) (.tmp 51) (.tmp 52) 23 (by rfl) W.heap.size 29 i0 (.agg #[.int .i64 0, .string ByteArray.empty, .string ByteArray.empty, .int .i64 0]) 4 48 Tryz.underlying23 hi hI0 hI1 hI2 rfl (by decide) s51 (k + 1) (flatN (l.take k) ++ n.ns) (by simp [Act.eval] <;> omega) R7.out ⟨g, k * 4, none⟩ (l.length - k) (cap - k) (flatN (l.drop (k))) (by simp [Act.eval] <;> omega) (by rw [← HR.out]; exact HL2.out) (src_cells (HRW.out.below HZ.out) (k) _ (.inl rfl)) (flatN_one _) (by unfold maxLen; omega) (by omega) HZ.out.size ?_
              intro s53 u5 R9x G9 N9
              have HF := Lib.hid (HRET.out s53 u5 (HZ.out.grown G9 HZ.out.size (fun j hj => (R7.out.lt j hj).1)) (by rw [HR.out]; exact R9x) (fun e => N7h.out (N9.1 e).1))
              have HZn : Hid (Below W.heap.size W u5) := HZ.out.grown G9 HZ.out.size (fun j hj => (R7.out.lt j hj).1)
              simp only [Act.put, List.setIfInBounds_toArray, List.set_cons_zero, List.set_cons_succ]
              refine hK.out _ _ (HKS.out _ HZn.out) (fun hHeld => ?_)
              replace HZ := HZn
              clear hK K HZn R9x G9 N9 R7 N7h
              refine wpAnyH_take (i := 10) (oi := { dst := some 4, op := Go.Op.assign (Go.Operand.tmp 53), type := 23, pos := "l04_trees.go:135", after := #[{ on := 9, ground := Go.Ground.data }, { on := 9, ground := Go.Ground.chain }, { on := 0, ground := Go.Ground.phase }, { on := 1, ground := Go.Ground.phase }, { on := 2, ground := Go.Ground.phase }, { on := 3, ground := Go.Ground.phase }, { on := 4, ground := Go.Ground.phase }, { on := 5, ground := Go.Ground.phase }, { on := 6, ground := Go.Ground.phase }, { on := 7, ground := Go.Ground.phase }, { on := 8, ground := Go.Ground.phase }, { on := 9, ground := Go.Ground.phase }], guard := none }) (v := ?vbx7q10) rfl (by kernel_rfl) (by kernel_rfl) (by kernel_rfl) (fun _ _ _ h => h) (Or.inl ⟨by rfl, ?ybx7q10⟩) hHeld ?zbx7q10
              case ybx7q10 =>
                intro w hSw
                (try dsimp only at hSw)
                go_simp
                try with_reducible rfl
              simp only [Act.put, List.setIfInBounds_toArray, List.set_cons_zero, List.set_cons_succ]
              refine wpAnyH_done (by kernel_rfl) ?_ _
              go_wp2
              go_ret
              exact HF.out
            · go_simp
              have HZn : Hid (Below W.heap.size W (u1.alloc (.cells #[.int .i64 n.k, .string n.p, .string n.b, .int .i64 n.m] 29))) := HZ.out.alloc HZ.out.size _
              have HBn : Below u1.heap.size u1 (u1.alloc (.cells #[.int .i64 n.k, .string n.p, .string n.b, .int .i64 n.m] 29)) := (Below.refl _ _).alloc (Nat.le_refl _) _
              have IT : Hid (Item (u1.alloc (.cells #[.int .i64 n.k, .string n.p, .string n.b, .int .i64 n.m] 29)) u1.heap.size n) := Item.new u1 n
              have NE : Hid ((Value.slice (some ⟨g0, 0, none⟩) 0 0).ownBlock ≠ some u1.heap.size) := fun e => by have h2 := (R0.out.lt _ e).2; omega
              replace R0 := Lib.hid (own_below R0.out HBn)
              refine hK.out _ _ (HKS.out _ HZn.out) (fun hHeld => ?_)
              replace HZ := HZn
              clear hK K HZn HBn
              generalize u1.alloc (.cells #[.int .i64 n.k, .string n.p, .string n.b, .int .i64 n.m] 29) = u2 at *
              generalize u1.heap.size = gi at *
              refine wpAnyH_ready (rs := [4]) (by kernel_rfl) (by simp) ?_
              refine (AllReadyH.cons (o := { dst := some 48, op := Go.Op.call { callee := Go.Callee.builtin Go.Builtin.append, args := #[Go.Operand.tmp 44, Go.Operand.tmp 47], argTypes := #[23, 23] }, type := 23, pos := "l04_trees.go:135", after := #[{ on := 0, ground := Go.Ground.data }, { on := 3, ground := Go.Ground.data }], guard := none }) rfl (fun K hK => ?_) AllReadyH.nil)
              refine step_append_own _ (by rfl) (.tmp 44) (.tmp 47) 23 (by rfl) W.heap.size 29 i0 (.agg #[.int .i64 0, .string ByteArray.empty, .string ByteArray.empty, .int .i64 0]) 4 48 Tryz.underlying23 hi hI0 hI1 hI2 rfl (by decide) (.slice (some ⟨g0, 0, none⟩) 0 0) 0 [] (by simp [Act.eval] <;> omega) R0.out ⟨g, 0, none⟩ k cap (flatN (l.take k)) (by simp [Act.eval] <;> omega) HL1.out (src_cells (HRW.out.below HZ.out) 0 _ (.inr ⟨rfl, k, rfl⟩)) (flatN_one _) (by unfold maxLen; omega) (by omega) HZ.out.size ?_
              intro s48 u3 R4x G4 _
              have R4 : Hid (u3.ownsRow W.heap.size 29 4 s48 k (flatN (l.take k))) := by have := R4x; rw [Nat.zero_add, List.nil_append] at this; exact this
              have HZn : Hid (Below W.heap.size W u3) := HZ.out.grown G4 HZ.out.size (fun j hj => (R0.out.lt j hj).1)
              replace IT := Lib.hid (IT.out.grown G4 NE.out)
              clear NE
              simp only [Act.put, List.setIfInBounds_toArray, List.set_cons_zero, List.set_cons_succ]
              refine hK.out _ _ (HKS.out _ HZn.out) (fun hHeld => ?_)
              replace HZ := HZn
              clear hK K HZn R4x G4 R0
              refine wpAnyH_ready (rs := [7]) (by kernel_rfl) (by simp) ?_
              refine (AllReadyH.cons (o := { dst := some 51, op := Go.Op.call { callee := Go.Callee.builtin Go.Builtin.append, args := #[Go.Operand.tmp 48, Go.Operand.tmp 50], argTypes := #[23, 23] }, type := 23, pos := "l04_trees.go:135", after := #[{ on := 4, ground := Go.Ground.data }, { on := 6, ground := Go.Ground.data }, { on := 4, ground := Go.Ground.chain }], guard := none }) rfl (fun K hK => ?_) AllReadyH.nil)
              refine step_append_own _ (by rfl) (.tmp 48) (.tmp 50) 23 (by rfl) W.heap.size 29 i0 (.agg #[.int .i64 0, .string ByteArray.empty, .string ByteArray.empty, .int .i64 0]) 4 48 Tryz.underlying23 hi hI0 hI1 hI2 rfl (by decide) s48 k (flatN (l.take k)) (by simp [Act.eval] <;> omega) R4.out ⟨gi, 0, none⟩ 1 1 n.ns (by simp [Act.eval] <;> omega) rfl IT.out.cells (nodR_one n) (by unfold maxLen; omega) (by omega) HZ.out.size ?_
              intro s51 u4 R7x G7 N7
              have R7 := Lib.hid R7x
              have N7h : Hid (s51 ≠ .slice none 0 0) := fun e => by have := (N7.1 e).2; omega
              have HZn : Hid (Below W.heap.size W u4) := HZ.out.grown G7 HZ.out.size (fun j hj => (R4.out.lt j hj).1)
              simp only [Act.put, List.setIfInBounds_toArray, List.set_cons_zero, List.set_cons_succ]
              refine hK.out _ _ (HKS.out _ HZn.out) (fun hHeld => ?_)
              replace HZ := HZn
              clear hK K HZn R7x G7 N7 R4 IT
              refine wpAnyH_ready (rs := [9]) (by kernel_rfl) (by simp) ?_
              refine (AllReadyH.cons (o := { dst := some 53, op := Go.Op.call { callee := Go.Callee.builtin Go.Builtin.append, args := #[Go.Operand.tmp 51, Go.Operand.tmp 52], argTypes := #[23, 23] }, type := 23, pos := "l04_trees.go:135", after := #[{ on := 7, ground := Go.Ground.data }, { on := 8, ground := Go.Ground.data }, { on := 7, ground := Go.Ground.chain }], guard := none }) rfl (fun K hK => ?_) AllReadyH.nil)
              refine step_append_own _ (by rfl) (.tmp 51) (.tmp 52) 23 (by rfl) W.heap.size 29 i0 (.agg #[.int .i64 0, .string ByteArray.empty, .string ByteArray.empty, .int .i64 0]) 4 48 Tryz.underlying23 hi hI0 hI1 hI2 rfl (by decide) s51 (k + 1) (flatN (l.take k) ++ n.ns) (by simp [Act.eval] <;> omega) R7.out ⟨g, k * 4, none⟩ (l.length - k) (cap - k) (flatN (l.drop (k))) (by simp [Act.eval] <;> omega) (by rw [← HR.out]; exact HL2.out) (src_cells (HRW.out.below HZ.out) (k) _ (.inl rfl)) (flatN_one _) (by unfold maxLen; omega) (by omega) HZ.out.size ?_
              intro s53 u5 R9x G9 N9
              have HF := Lib.hid (HRET.out s53 u5 (HZ.out.grown G9 HZ.out.size (fun j hj => (R7.out.lt j hj).1)) (by rw [HR.out]; exact R9x) (fun e => N7h.out (N9.1 e).1))
              have HZn : Hid (Below W.heap.size W u5) := HZ.out.grown G9 HZ.out.size (fun j hj => (R7.out.lt j hj).1)
              simp only [Act.put, List.setIfInBounds_toArray, List.set_cons_zero, List.set_cons_succ]
              refine hK.out _ _ (HKS.out _ HZn.out) (fun hHeld => ?_)
              replace HZ := HZn
              clear hK K HZn R9x G9 N9 R7 N7h
              refine wpAnyH_take (i := 10) (oi := { dst := some 4, op := Go.Op.assign (Go.Operand.tmp 53), type := 23, pos := "l04_trees.go:135", after := #[{ on := 9, ground := Go.Ground.data }, { on := 9, ground := Go.Ground.chain }, { on := 0, ground := Go.Ground.phase }, { on := 1, ground := Go.Ground.phase }, { on := 2, ground := Go.Ground.phase }, { on := 3, ground := Go.Ground.phase }, { on := 4, ground := Go.Ground.phase }, { on := 5, ground := Go.Ground.phase }, { on := 6, ground := Go.Ground.phase }, { on := 7, ground := Go.Ground.phase }, { on := 8, ground := Go.Ground.phase }, { on := 9, ground := Go.Ground.phase }], guard := none }) (v := ?vbx8q10) rfl (by kernel_rfl) (by kernel_rfl) (by kernel_rfl) (fun _ _ _ h => h) (Or.inl ⟨by rfl, ?ybx8q10⟩) hHeld ?zbx8q10
              case ybx8q10 =>
                intro w hSw
                (try dsimp only at hSw)
                go_simp
                try with_reducible rfl
              simp only [Act.put, List.setIfInBounds_toArray, List.set_cons_zero, List.set_cons_succ]
              refine wpAnyH_done (by kernel_rfl) ?_ _
              go_wp2
              go_ret
              exact HF.out
          · go_simp
            have HZn : Hid (Below W.heap.size W (u0.alloc (.cells #[.int .i64 n.k, .string n.p, .string n.b, .int .i64 n.m] 29))) := HZ.out.alloc HZ.out.size _
            have HBn : Below u0.heap.size u0 (u0.alloc (.cells #[.int .i64 n.k, .string n.p, .string n.b, .int .i64 n.m] 29)) := (Below.refl _ _).alloc (Nat.le_refl _) _
            have IT : Hid (Item (u0.alloc (.cells #[.int .i64 n.k, .string n.p, .string n.b, .int .i64 n.m] 29)) u0.heap.size n) := Item.new u0 n
            refine hK.out _ _ (HKS.out _ HZn.out) (fun hHeld => ?_)
            replace HZ := HZn
            clear hK K HZn HBn
            generalize u0.alloc (.cells #[.int .i64 n.k, .string n.p, .string n.b, .int .i64 n.m] 29) = u1 at *
            generalize u0.heap.size = gi at *
            refine wpAnyH_ready (rs := [0]) (by kernel_rfl) (by simp) ?_
            refine (AllReadyH.cons (o := { dst := some 44, op := Go.Op.buildSlice 23 0 #[], type := 23, pos := "l04_trees.go:135", after := #[], guard := none }) rfl (fun K hK => ?_) AllReadyH.nil)
            go_simp
            have HZn : Hid (Below W.heap.size W (u1.alloc (.cells #[] 29))) := HZ.out.alloc HZ.out.size _
            have HBn : Below u1.heap.size u1 (u1.alloc (.cells #[] 29)) := (Below.refl _ _).alloc (Nat.le_refl _) _
            have R0 : Hid ((u1.alloc (.cells #[] 29)).ownsRow W.heap.size 29 4 (.slice (some ⟨u1.heap.size, 0, none⟩) 0 0) 0 []) := World.ownsRow_lit u1 #[] 0 HZ.out.size (Nat.zero_le _) rfl
            have NE : Hid ((Value.slice (some ⟨u1.heap.size, 0, none⟩) 0 0).ownBlock ≠ some gi) := fun e => by have h1 : u1.heap.size = gi := Option.some.inj e; have h2 := IT.out.lt; omega
            replace IT := Lib.hid (IT.out.below HBn)
            refine hK.out _ _ (HKS.out _ HZn.out) (fun hHeld => ?_)
            replace HZ := HZn
            clear hK K HZn HBn
            generalize u1.alloc (.cells #[] 29) = u2 at *
            generalize u1.heap.size = g0 at *
            refine wpAnyH_ready (rs := [4]) (by kernel_rfl) (by simp) ?_
            refine (AllReadyH.cons (o := { dst := some 48, op := Go.Op.call { callee := Go.Callee.builtin Go.Builtin.append, args := #[Go.Operand.tmp 44, Go.Operand.tmp 47], argTypes := #[23, 23] }, type := 23, pos := "l04_trees.go:135", after := #[{ on := 0, ground := Go.Ground.data }, { on := 3, ground := Go.Ground.data }], guard := none }) rfl (fun K hK => ?_) AllReadyH.nil)
            refine step_append_own _ (by rfl) (.tmp 44) (.tmp 47) 23 (by rfl) W.heap.size 29 i0 (.agg #[.int .i64 0, .string ByteArray.empty, .string ByteArray.empty, .int .i64 0]) 4 48 Tryz.underlying23 hi hI0 hI1 hI2 rfl (by decide) (.slice (some ⟨g0, 0, none⟩) 0 0) 0 [] (by simp [Act.eval] <;> omega) R0.out ⟨g, 0, none⟩ k cap (flatN (l.take k)) (by simp [Act.eval] <;> omega) HL1.out (src_cells (HRW.out.below HZ.out) 0 _ (.inr ⟨rfl, k, rfl⟩)) (flatN_one _) (by unfold maxLen; omega) (by omega) HZ.out.size ?_
            intro s48 u3 R4x G4 _
            have R4 : Hid (u3.ownsRow W.heap.size 29 4 s48 k (flatN (l.take k))) := by have := R4x; rw [Nat.zero_add, List.nil_append] at this; exact this
            have HZn : Hid (Below W.heap.size W u3) := HZ.out.grown G4 HZ.out.size (fun j hj => (R0.out.lt j hj).1)
            replace IT := Lib.hid (IT.out.grown G4 NE.out)
            clear NE
            simp only [Act.put, List.setIfInBounds_toArray, List.set_cons_zero, List.set_cons_succ]
            refine hK.out _ _ (HKS.out _ HZn.out) (fun hHeld => ?_)
            replace HZ := HZn
            clear hK K HZn R4x G4 R0
            refine wpAnyH_ready (rs := [7]) (by kernel_rfl) (by simp) ?_
            refine (AllReadyH.cons (o := { dst := some 51, op := Go.Op.call { callee := Go.Callee.builtin Go.Builtin.append, args := #[Go.Operand.tmp 48, Go.Operand.tmp 50], argTypes := #[23, 23] }, type := 23, pos := "l04_trees.go:135", after := #[{ on := 4, ground := Go.Ground.data }, { on := 6, ground := Go.Ground.data }, { on := 4, ground := Go.Ground.chain }], guard := none }) rfl (fun K hK => ?_) AllReadyH.nil)
            refine step_append_own _ (by rfl) (.tmp 48) (.tmp 50) 23 (by rfl) W.heap.size 29 i0 (.agg #[.int .i64 0, .string ByteArray.empty, .string ByteArray.empty, .int .i64 0]) 4 48 Tryz.underlying23 hi hI0 hI1 hI2 rfl (by decide) s48 k (flatN (l.take k)) (by simp [Act.eval] <;> omega) R4.out ⟨gi, 0, none⟩ 1 1 n.ns (by simp [Act.eval] <;> omega) rfl IT.out.cells (nodR_one n) (by unfold maxLen; omega) (by omega) HZ.out.size ?_
            intro s51 u4 R7x G7 N7
            have R7 := Lib.hid R7x
            have N7h : Hid (s51 ≠ .slice none 0 0) := fun e => by have := (N7.1 e).2; omega
            have HZn : Hid (Below W.heap.size W u4) := HZ.out.grown G7 HZ.out.size (fun j hj => (R4.out.lt j hj).1)
            simp only [Act.put, List.setIfInBounds_toArray, List.set_cons_zero, List.set_cons_succ]
            refine hK.out _ _ (HKS.out _ HZn.out) (fun hHeld => ?_)
            replace HZ := HZn
            clear hK K HZn R7x G7 N7 R4 IT
            refine wpAnyH_ready (rs := [9]) (by kernel_rfl) (by simp) ?_
            refine (AllReadyH.cons (o := { dst := some 53, op := Go.Op.call { callee := Go.Callee.builtin Go.Builtin.append, args := #[Go.Operand.tmp 51, Go.Operand.tmp 52], argTypes := #[23, 23] }, type := 23, pos := "l04_trees.go:135", after := #[{ on := 7, ground := Go.Ground.data }, { on := 8, ground := Go.Ground.data }, { on := 7, ground := Go.Ground.chain }], guard := none }) rfl (fun K hK => ?_) AllReadyH.nil)
            refine step_append_own _ (by rfl) (.tmp 51) (.tmp 52) 23 (by rfl) W.heap.size 29 i0 (.agg #[.int .i64 0, .string ByteArray.empty, .string ByteArray.empty, .int .i64 0]) 4 48 Tryz.underlying23 hi hI0 hI1 hI2 rfl (by decide) s51 (k + 1) (flatN (l.take k) ++ n.ns) (by simp [Act.eval] <;> omega) R7.out ⟨g, k * 4, none⟩ (l.length - k) (cap - k) (flatN (l.drop (k))) (by simp [Act.eval] <;> omega) (by rw [← HR.out]; exact HL2.out) (src_cells (HRW.out.below HZ.out) (k) _ (.inl rfl)) (flatN_one _) (by unfold maxLen; omega) (by omega) HZ.out.size ?_
            intro s53 u5 R9x G9 N9
            have HF := Lib.hid (HRET.out s53 u5 (HZ.out.grown G9 HZ.out.size (fun j hj => (R7.out.lt j hj).1)) (by rw [HR.out]; exact R9x) (fun e => N7h.out (N9.1 e).1))
            have HZn : Hid (Below W.heap.size W u5) := HZ.out.grown G9 HZ.out.size (fun j hj => (R7.out.lt j hj).1)
            simp only [Act.put, List.setIfInBounds_toArray, List.set_cons_zero, List.set_cons_succ]
            refine hK.out _ _ (HKS.out _ HZn.out) (fun hHeld => ?_)
            replace HZ := HZn
            clear hK K HZn R9x G9 N9 R7 N7h
            refine wpAnyH_take (i := 10) (oi := { dst := some 4, op := Go.Op.assign (Go.Operand.tmp 53), type := 23, pos := "l04_trees.go:135", after := #[{ on := 9, ground := Go.Ground.data }, { on := 9, ground := Go.Ground.chain }, { on := 0, ground := Go.Ground.phase }, { on := 1, ground := Go.Ground.phase }, { on := 2, ground := Go.Ground.phase }, { on := 3, ground := Go.Ground.phase }, { on := 4, ground := Go.Ground.phase }, { on := 5, ground := Go.Ground.phase }, { on := 6, ground := Go.Ground.phase }, { on := 7, ground := Go.Ground.phase }, { on := 8, ground := Go.Ground.phase }, { on := 9, ground := Go.Ground.phase }], guard := none }) (v := ?vbx9q10) rfl (by kernel_rfl) (by kernel_rfl) (by kernel_rfl) (fun _ _ _ h => h) (Or.inl ⟨by rfl, ?ybx9q10⟩) hHeld ?zbx9q10
            case ybx9q10 =>
              intro w hSw
              (try dsimp only at hSw)
              go_simp
              try with_reducible rfl
            simp only [Act.put, List.setIfInBounds_toArray, List.set_cons_zero, List.set_cons_succ]
            refine wpAnyH_done (by kernel_rfl) ?_ _
            go_wp2
            go_ret
            exact HF.out
      · have hkl' : k = l.length := by omega
        have HR : Hid (restAt l n = k) := by show _ = _; rw [HRE.out, List.getElem?_eq_none (by omega)]; rfl
        have hi1 : ¬ ((k : Int) < (l.length : Int)) := by omega
        have hd1 : decide ((k : Int) < (l.length : Int)) = false := by simp; omega
        have hic : (k : Int) ≤ (cap : Int) := by omega
        clear hrowr m0 m1 m2 m3
        go_wp2
        go_quiet (fail)
        have hbq : Below W.heap.size W (wr.drewN nq) := below_drewN hbw nq
        generalize wr.drewN nq = wq at *
        by_cases hcc : cap = k
        · have hcc2 := hcc.symm
          clear hcc
          subst hcc2
          go_wp2
          go_quiet (fail)
          have hbw2 : Below W.heap.size W (wq.drewN nq) := below_drewN hbq nq
          generalize wq.drewN nq = w2 at *
          go_wp2
          have HKS : Hid (∀ w', Below W.heap.size W w' → NodCells w' w.heap.size 0 n) := fun w' hb => (HIT.out.below hb).nod
          have HZ : Hid (Below W.heap.size W w2.drew) := hbw2.drew
          refine wp_region_held_drew (S := fun w' => NodCells w' w.heap.size 0 n) (by kernel_rfl) (HKS.out _ HZ.out) (fun hHeld => ?_)
          refine wpAnyH_take (i := 1) (oi := { dst := some 45, op := Go.Op.move (Go.Operand.tmp 0), type := 23, pos := "l04_trees.go:135", after := #[], guard := none }) (v := ?ve1) rfl (by kernel_rfl) (by kernel_rfl) (by kernel_rfl) (fun _ _ _ h => h) (Or.inl ⟨by rfl, ?ye1⟩) hHeld ?ze1
          case ye1 =>
            intro w hSw
            (try dsimp only at hSw)
            go_simp
            try with_reducible rfl
          simp only [Act.put, List.setIfInBounds_toArray, List.set_cons_zero, List.set_cons_succ]
          refine wpAnyH_take (i := 2) (oi := { dst := some 46, op := Go.Op.move (Go.Operand.tmp 5), type := 3, pos := "l04_trees.go:135", after := #[], guard := none }) (v := ?ve2) rfl (by kernel_rfl) (by kernel_rfl) (by kernel_rfl) (fun _ _ _ h => h) (Or.inl ⟨by rfl, ?ye2⟩) hHeld ?ze2
          case ye2 =>
            intro w hSw
            (try dsimp only at hSw)
            go_simp
            try with_reducible rfl
          simp only [Act.put, List.setIfInBounds_toArray, List.set_cons_zero, List.set_cons_succ]
          refine wpAnyH_take (i := 3) (oi := { dst := some 47, op := Go.Op.slice 23 (Go.Operand.tmp 45) none (some (Go.Operand.tmp 46)) none, type := 23, pos := "l04_trees.go:135", after := #[{ on := 1, ground := Go.Ground.data }, { on := 2, ground := Go.Ground.data }], guard := none }) (v := ?ve3) rfl (by kernel_rfl) (by kernel_rfl) (by kernel_rfl) (fun _ _ _ h => h) (Or.inl ⟨by rfl, ?ye3⟩) hHeld ?ze3
          case ye3 =>
            intro w hSw
            (try dsimp only at hSw)
            go_simp
            try with_reducible rfl
          simp only [Act.put, List.setIfInBounds_toArray, List.set_cons_zero, List.set_cons_succ]
          refine wpAnyH_take (i := 5) (oi := { dst := some 49, op := Go.Op.load 29 (Go.Operand.tmp 3), type := 29, pos := "l04_trees.go:135", after := #[], guard := none }) (v := ?ve5) rfl (by kernel_rfl) (by kernel_rfl) (by kernel_rfl) (fun _ _ _ h => h) (Or.inl ⟨by rfl, ?ye5⟩) hHeld ?ze5
          case ye5 =>
            intro w hSw
            obtain ⟨q0, q1, q2, q3⟩ := hSw
            go_simp
            try with_reducible rfl
          simp only [Act.put, List.setIfInBounds_toArray, List.set_cons_zero, List.set_cons_succ]
          refine wpAnyH_take (i := 8) (oi := { dst := some 52, op := Go.Op.move (Go.Operand.tmp 6), type := 23, pos := "l04_trees.go:135", after := #[], guard := none }) (v := ?ve8) rfl (by kernel_rfl) (by kernel_rfl) (by kernel_rfl) (fun _ _ _ h => h) (Or.inl ⟨by rfl, ?ye8⟩) hHeld ?ze8
          case ye8 =>
            intro w hSw
            (try dsimp only at hSw)
            go_simp
            try with_reducible rfl
          simp only [Act.put, List.setIfInBounds_toArray, List.set_cons_zero, List.set_cons_succ]
          generalize w2.drew = u0 at *
          refine wpAnyH_ready (rs := [0, 6]) (by kernel_rfl) (by simp) ?_
          refine (AllReadyH.cons (o := { dst := some 44, op := Go.Op.buildSlice 23 0 #[], type := 23, pos := "l04_trees.go:135", after := #[], guard := none }) rfl (fun K hK => ?_) (AllReadyH.cons (o := { dst := some 50, op := Go.Op.buildSlice 23 1 #[(0, Go.Operand.tmp 49)], type := 23, pos := "l04_trees.go:135", after := #[{ on := 5, ground := Go.Ground.data }], guard := none }) rfl (fun K hK => ?_) AllReadyH.nil))
          · go_simp
            have HZn : Hid (Below W.heap.size W (u0.alloc (.cells #[] 29))) := HZ.out.alloc HZ.out.size _
            have HBn : Below u0.heap.size u0 (u0.alloc (.cells #[] 29)) := (Below.refl _ _).alloc (Nat.le_refl _) _
            have R0 : Hid ((u0.alloc (.cells #[] 29)).ownsRow W.heap.size 29 4 (.slice (some ⟨u0.heap.size, 0, none⟩) 0 0) 0 []) := World.ownsRow_lit u0 #[] 0 HZ.out.size (Nat.zero_le _) rfl
            refine hK.out _ _ (HKS.out _ HZn.out) (fun hHeld => ?_)
            replace HZ := HZn
            clear hK K HZn HBn
            generalize u0.alloc (.cells #[] 29) = u1 at *
            generalize u0.heap.size = g0 at *
            refine wpAnyH_ready (rs := [4, 6]) (by kernel_rfl) (by simp) ?_
            refine (AllReadyH.cons (o := { dst := some 48, op := Go.Op.call { callee := Go.Callee.builtin Go.Builtin.append, args := #[Go.Operand.tmp 44, Go.Operand.tmp 47], argTypes := #[23, 23] }, type := 23, pos := "l04_trees.go:135", after := #[{ on := 0, ground := Go.Ground.data }, { on := 3, ground := Go.Ground.data }], guard := none }) rfl (fun K hK => ?_) (AllReadyH.cons (o := { dst := some 50, op := Go.Op.buildSlice 23 1 #[(0, Go.Operand.tmp 49)], type := 23, pos := "l04_trees.go:135", after := #[{ on := 5, ground := Go.Ground.data }], guard := none }) rfl (fun K hK => ?_) AllReadyH.nil))
            · refine step_append_own _ (by rfl) (.tmp 44) (.tmp 47) 23 (by rfl) W.heap.size 29 i0 (.agg #[.int .i64 0, .string ByteArray.empty, .string ByteArray.empty, .int .i64 0]) 4 48 Tryz.underlying23 hi hI0 hI1 hI2 rfl (by decide) (.slice (some ⟨g0, 0, none⟩) 0 0) 0 [] (by simp [Act.eval] <;> omega) R0.out ⟨g, 0, none⟩ k k (flatN (l.take k)) (by simp [Act.eval] <;> omega) HL1.out (src_cells (HRW.out.below HZ.out) 0 _ (.inr ⟨rfl, k, rfl⟩)) (flatN_one _) (by unfold maxLen; omega) (by omega) HZ.out.size ?_
              intro s48 u2 R4x G4 _
              have R4 : Hid (u2.ownsRow W.heap.size 29 4 s48 k (flatN (l.take k))) := by have := R4x; rw [Nat.zero_add, List.nil_append] at this; exact this
              have HZn : Hid (Below W.heap.size W u2) := HZ.out.grown G4 HZ.out.size (fun j hj => (R0.out.lt j hj).1)
              simp only [Act.put, List.setIfInBounds_toArray, List.set_cons_zero, List.set_cons_succ]
              refine hK.out _ _ (HKS.out _ HZn.out) (fun hHeld => ?_)
              replace HZ := HZn
              clear hK K HZn R4x G4 R0
              refine wpAnyH_ready (rs := [6]) (by kernel_rfl) (by simp) ?_
              refine (AllReadyH.cons (o := { dst := some 50, op := Go.Op.buildSlice 23 1 #[(0, Go.Operand.tmp 49)], type := 23, pos := "l04_trees.go:135", after := #[{ on := 5, ground := Go.Ground.data }], guard := none }) rfl (fun K hK => ?_) AllReadyH.nil)
              go_simp
              have HZn : Hid (Below W.heap.size W (u2.alloc (.cells #[.int .i64 n.k, .string n.p, .string n.b, .int .i64 n.m] 29))) := HZ.out.alloc HZ.out.size _
              have HBn : Below u2.heap.size u2 (u2.alloc (.cells #[.int .i64 n.k, .string n.p, .string n.b, .int .i64 n.m] 29)) := (Below.refl _ _).alloc (Nat.le_refl _) _
              have IT : Hid (Item (u2.alloc (.cells #[.int .i64 n.k, .string n.p, .string n.b, .int .i64 n.m] 29)) u2.heap.size n) := Item.new u2 n
              replace R4 := Lib.hid (own_below R4.out HBn)
              refine hK.out _ _ (HKS.out _ HZn.out) (fun hHeld => ?_)
              replace HZ := HZn
              clear hK K HZn HBn
              generalize u2.alloc (.cells #[.int .i64 n.k, .string n.p, .string n.b, .int .i64 n.m] 29) = u3 at *
              generalize u2.heap.size = gi at *
              refine wpAnyH_ready (rs := [7]) (by kernel_rfl) (by simp) ?_
              refine (AllReadyH.cons (o := { dst := some 51, op := Go.Op.call { callee := Go.Callee.builtin Go.Builtin.append, args := #[Go.Operand.tmp 48, Go.Operand.tmp 50], argTypes := #[23, 23] }, type := 23, pos := "l04_trees.go:135", after := #[{ on := 4, ground := Go.Ground.data }, { on := 6, ground := Go.Ground.data }, { on := 4, ground := Go.Ground.chain }], guard := none }) rfl (fun K hK => ?_) AllReadyH.nil)
              refine step_append_own _ (by rfl) (.tmp 48) (.tmp 50) 23 (by rfl) W.heap.size 29 i0 (.agg #[.int .i64 0, .string ByteArray.empty, .string ByteArray.empty, .int .i64 0]) 4 48 Tryz.underlying23 hi hI0 hI1 hI2 rfl (by decide) s48 k (flatN (l.take k)) (by simp [Act.eval] <;> omega) R4.out ⟨gi, 0, none⟩ 1 1 n.ns (by simp [Act.eval] <;> omega) rfl IT.out.cells (nodR_one n) (by unfold maxLen; omega) (by omega) HZ.out.size ?_
              intro s51 u4 R7x G7 N7
              have R7 := Lib.hid R7x
              have N7h : Hid (s51 ≠ .slice none 0 0) := fun e => by have := (N7.1 e).2; omega
              have HZn : Hid (Below W.heap.size W u4) := HZ.out.grown G7 HZ.out.size (fun j hj => (R4.out.lt j hj).1)
              simp only [Act.put, List.setIfInBounds_toArray, List.set_cons_zero, List.set_cons_succ]
              refine hK.out _ _ (HKS.out _ HZn.out) (fun hHeld => ?_)
              replace HZ := HZn
              clear hK K HZn R7x G7 N7 R4 IT
              refine wpAnyH_ready (rs := [9]) (by kernel_rfl) (by simp) ?_
              refine (AllReadyH.cons (o := { dst := some 53, op := Go.Op.call { callee := Go.Callee.builtin Go.Builtin.append, args := #[Go.Operand.tmp 51, Go.Operand.tmp 52], argTypes := #[23, 23] }, type := 23, pos := "l04_trees.go:135", after := #[{ on := 7, ground := Go.Ground.data }, { on := 8, ground := Go.Ground.data }, { on := 7, ground := Go.Ground.chain }], guard := none }) rfl (fun K hK => ?_) AllReadyH.nil)
              refine step_append_own _ (by rfl) (.tmp 51) (.tmp 52) 23 (by rfl) W.heap.size 29 i0 (.agg #[.int .i64 0, .string ByteArray.empty, .string ByteArray.empty, .int .i64 0]) 4 48 Tryz.underlying23 hi hI0 hI1 hI2 rfl (by decide) s51 (k + 1) (flatN (l.take k) ++ n.ns) (by simp [Act.eval] <;> omega) R7.out ⟨g, 0, none⟩ (l.length - k) 0 (flatN (l.drop (k))) (by simp [Act.eval] <;> omega) (by rw [← HR.out]; exact HL2.out) (fun j u hj => by rw [List.drop_eq_nil_of_le (by omega)] at hj; simp [flatN] at hj) (flatN_one _) (by unfold maxLen; omega) (by omega) HZ.out.size ?_
              intro s53 u5 R9x G9 N9
              have HF := Lib.hid (HRET.out s53 u5 (HZ.out.grown G9 HZ.out.size (fun j hj => (R7.out.lt j hj).1)) (by rw [HR.out]; exact R9x) (fun e => N7h.out (N9.1 e).1))
              have HZn : Hid (Below W.heap.size W u5) := HZ.out.grown G9 HZ.out.size (fun j hj => (R7.out.lt j hj).1)
              simp only [Act.put, List.setIfInBounds_toArray, List.set_cons_zero, List.set_cons_succ]
              refine hK.out _ _ (HKS.out _ HZn.out) (fun hHeld => ?_)
              replace HZ := HZn
              clear hK K HZn R9x G9 N9 R7 N7h
              refine wpAnyH_take (i := 10) (oi := { dst := some 4, op := Go.Op.assign (Go.Operand.tmp 53), type := 23, pos := "l04_trees.go:135", after := #[{ on := 9, ground := Go.Ground.data }, { on := 9, ground := Go.Ground.chain }, { on := 0, ground := Go.Ground.phase }, { on := 1, ground := Go.Ground.phase }, { on := 2, ground := Go.Ground.phase }, { on := 3, ground := Go.Ground.phase }, { on := 4, ground := Go.Ground.phase }, { on := 5, ground := Go.Ground.phase }, { on := 6, ground := Go.Ground.phase }, { on := 7, ground := Go.Ground.phase }, { on := 8, ground := Go.Ground.phase }, { on := 9, ground := Go.Ground.phase }], guard := none }) (v := ?vex10q10) rfl (by kernel_rfl) (by kernel_rfl) (by kernel_rfl) (fun _ _ _ h => h) (Or.inl ⟨by rfl, ?yex10q10⟩) hHeld ?zex10q10
              case yex10q10 =>
                intro w hSw
                (try dsimp only at hSw)
                go_simp
                try with_reducible rfl
              simp only [Act.put, List.setIfInBounds_toArray, List.set_cons_zero, List.set_cons_succ]
              refine wpAnyH_done (by kernel_rfl) ?_ _
              go_wp2
              go_ret
              exact HF.out
            · go_simp
              have HZn : Hid (Below W.heap.size W (u1.alloc (.cells #[.int .i64 n.k, .string n.p, .string n.b, .int .i64 n.m] 29))) := HZ.out.alloc HZ.out.size _
              have HBn : Below u1.heap.size u1 (u1.alloc (.cells #[.int .i64 n.k, .string n.p, .string n.b, .int .i64 n.m] 29)) := (Below.refl _ _).alloc (Nat.le_refl _) _
              have IT : Hid (Item (u1.alloc (.cells #[.int .i64 n.k, .string n.p, .string n.b, .int .i64 n.m] 29)) u1.heap.size n) := Item.new u1 n
              have NE : Hid ((Value.slice (some ⟨g0, 0, none⟩) 0 0).ownBlock ≠ some u1.heap.size) := fun e => by have h2 := (R0.out.lt _ e).2; omega
              replace R0 := Lib.hid (own_below R0.out HBn)
              refine hK.out _ _ (HKS.out _ HZn.out) (fun hHeld => ?_)
              replace HZ := HZn
              clear hK K HZn HBn
              generalize u1.alloc (.cells #[.int .i64 n.k, .string n.p, .string n.b, .int .i64 n.m] 29) = u2 at *
              generalize u1.heap.size = gi at *
              refine wpAnyH_ready (rs := [4]) (by kernel_rfl) (by simp) ?_
              refine (AllReadyH.cons (o := { dst := some 48, op := Go.Op.call { callee := Go.Callee.builtin Go.Builtin.append, args := #[Go.Operand.tmp 44, Go.Operand.tmp 47], argTypes := #[23, 23] }, type := 23, pos := "l04_trees.go:135", after := #[{ on := 0, ground := Go.Ground.data }, { on := 3, ground := Go.Ground.data }], guard := none }) rfl (fun K hK => ?_) AllReadyH.nil)
              refine step_append_own _ (by rfl) (.tmp 44) (.tmp 47) 23 (by rfl) W.heap.size 29 i0 (.agg #[.int .i64 0, .string ByteArray.empty, .string ByteArray.empty, .int .i64 0]) 4 48 Tryz.underlying23 hi hI0 hI1 hI2 rfl (by decide) (.slice (some ⟨g0, 0, none⟩) 0 0) 0 [] (by simp [Act.eval] <;> omega) R0.out ⟨g, 0, none⟩ k k (flatN (l.take k)) (by simp [Act.eval] <;> omega) HL1.out (src_cells (HRW.out.below HZ.out) 0 _ (.inr ⟨rfl, k, rfl⟩)) (flatN_one _) (by unfold maxLen; omega) (by omega) HZ.out.size ?_
              intro s48 u3 R4x G4 _
              have R4 : Hid (u3.ownsRow W.heap.size 29 4 s48 k (flatN (l.take k))) := by have := R4x; rw [Nat.zero_add, List.nil_append] at this; exact this
              have HZn : Hid (Below W.heap.size W u3) := HZ.out.grown G4 HZ.out.size (fun j hj => (R0.out.lt j hj).1)
              replace IT := Lib.hid (IT.out.grown G4 NE.out)
              clear NE
              simp only [Act.put, List.setIfInBounds_toArray, List.set_cons_zero, List.set_cons_succ]
              refine hK.out _ _ (HKS.out _ HZn.out) (fun hHeld => ?_)
              replace HZ := HZn
              clear hK K HZn R4x G4 R0
              refine wpAnyH_ready (rs := [7]) (by kernel_rfl) (by simp) ?_
              refine (AllReadyH.cons (o := { dst := some 51, op := Go.Op.call { callee := Go.Callee.builtin Go.Builtin.append, args := #[Go.Operand.tmp 48, Go.Operand.tmp 50], argTypes := #[23, 23] }, type := 23, pos := "l04_trees.go:135", after := #[{ on := 4, ground := Go.Ground.data }, { on := 6, ground := Go.Ground.data }, { on := 4, ground := Go.Ground.chain }], guard := none }) rfl (fun K hK => ?_) AllReadyH.nil)
              refine step_append_own _ (by rfl) (.tmp 48) (.tmp 50) 23 (by rfl) W.heap.size 29 i0 (.agg #[.int .i64 0, .string ByteArray.empty, .string ByteArray.empty, .int .i64 0]) 4 48 Tryz.underlying23 hi hI0 hI1 hI2 rfl (by decide) s48 k (flatN (l.take k)) (by simp [Act.eval] <;> omega) R4.out ⟨gi, 0, none⟩ 1 1 n.ns (by simp [Act.eval] <;> omega) rfl IT.out.cells (nodR_one n) (by unfold maxLen; omega) (by omega) HZ.out.size ?_
              intro s51 u4 R7x G7 N7
              have R7 := Lib.hid R7x
              have N7h : Hid (s51 ≠ .slice none 0 0) := fun e => by have := (N7.1 e).2; omega
              have HZn : Hid (Below W.heap.size W u4) := HZ.out.grown G7 HZ.out.size (fun j hj => (R4.out.lt j hj).1)
              simp only [Act.put, List.setIfInBounds_toArray, List.set_cons_zero, List.set_cons_succ]
              refine hK.out _ _ (HKS.out _ HZn.out) (fun hHeld => ?_)
              replace HZ := HZn
              clear hK K HZn R7x G7 N7 R4 IT
              refine wpAnyH_ready (rs := [9]) (by kernel_rfl) (by simp) ?_
              refine (AllReadyH.cons (o := { dst := some 53, op := Go.Op.call { callee := Go.Callee.builtin Go.Builtin.append, args := #[Go.Operand.tmp 51, Go.Operand.tmp 52], argTypes := #[23, 23] }, type := 23, pos := "l04_trees.go:135", after := #[{ on := 7, ground := Go.Ground.data }, { on := 8, ground := Go.Ground.data }, { on := 7, ground := Go.Ground.chain }], guard := none }) rfl (fun K hK => ?_) AllReadyH.nil)
              refine step_append_own _ (by rfl) (.tmp 51) (.tmp 52) 23 (by rfl) W.heap.size 29 i0 (.agg #[.int .i64 0, .string ByteArray.empty, .string ByteArray.empty, .int .i64 0]) 4 48 Tryz.underlying23 hi hI0 hI1 hI2 rfl (by decide) s51 (k + 1) (flatN (l.take k) ++ n.ns) (by simp [Act.eval] <;> omega) R7.out ⟨g, 0, none⟩ (l.length - k) 0 (flatN (l.drop (k))) (by simp [Act.eval] <;> omega) (by rw [← HR.out]; exact HL2.out) (fun j u hj => by rw [List.drop_eq_nil_of_le (by omega)] at hj; simp [flatN] at hj) (flatN_one _) (by unfold maxLen; omega) (by omega) HZ.out.size ?_
              intro s53 u5 R9x G9 N9
              have HF := Lib.hid (HRET.out s53 u5 (HZ.out.grown G9 HZ.out.size (fun j hj => (R7.out.lt j hj).1)) (by rw [HR.out]; exact R9x) (fun e => N7h.out (N9.1 e).1))
              have HZn : Hid (Below W.heap.size W u5) := HZ.out.grown G9 HZ.out.size (fun j hj => (R7.out.lt j hj).1)
              simp only [Act.put, List.setIfInBounds_toArray, List.set_cons_zero, List.set_cons_succ]
              refine hK.out _ _ (HKS.out _ HZn.out) (fun hHeld => ?_)
              replace HZ := HZn
              clear hK K HZn R9x G9 N9 R7 N7h
              refine wpAnyH_take (i := 10) (oi := { dst := some 4, op := Go.Op.assign (Go.Operand.tmp 53), type := 23, pos := "l04_trees.go:135", after := #[{ on := 9, ground := Go.Ground.data }, { on := 9, ground := Go.Ground.chain }, { on := 0, ground := Go.Ground.phase }, { on := 1, ground := Go.Ground.phase }, { on := 2, ground := Go.Ground.phase }, { on := 3, ground := Go.Ground.phase }, { on := 4, ground := Go.Ground.phase }, { on := 5, ground := Go.Ground.phase }, { on := 6, ground := Go.Ground.phase }, { on := 7, ground := Go.Ground.phase }, { on := 8, ground := Go.Ground.phase }, { on := 9, ground := Go.Ground.phase }], guard := none }) (v := ?vex11q10) rfl (by kernel_rfl) (by kernel_rfl) (by kernel_rfl) (fun _ _ _ h => h) (Or.inl ⟨by rfl, ?yex11q10⟩) hHeld ?zex11q10
              case yex11q10 =>
                intro w hSw
                (try dsimp only at hSw)
                go_simp
                try with_reducible rfl
              simp only [Act.put, List.setIfInBounds_toArray, List.set_cons_zero, List.set_cons_succ]
              refine wpAnyH_done (by kernel_rfl) ?_ _
              go_wp2
              go_ret
              exact HF.out
          · go_simp
            have HZn : Hid (Below W.heap.size W (u0.alloc (.cells #[.int .i64 n.k, .string n.p, .string n.b, .int .i64 n.m] 29))) := HZ.out.alloc HZ.out.size _
            have HBn : Below u0.heap.size u0 (u0.alloc (.cells #[.int .i64 n.k, .string n.p, .string n.b, .int .i64 n.m] 29)) := (Below.refl _ _).alloc (Nat.le_refl _) _
            have IT : Hid (Item (u0.alloc (.cells #[.int .i64 n.k, .string n.p, .string n.b, .int .i64 n.m] 29)) u0.heap.size n) := Item.new u0 n
            refine hK.out _ _ (HKS.out _ HZn.out) (fun hHeld => ?_)
            replace HZ := HZn
            clear hK K HZn HBn
            generalize u0.alloc (.cells #[.int .i64 n.k, .string n.p, .string n.b, .int .i64 n.m] 29) = u1 at *
            generalize u0.heap.size = gi at *
            refine wpAnyH_ready (rs := [0]) (by kernel_rfl) (by simp) ?_
            refine (AllReadyH.cons (o := { dst := some 44, op := Go.Op.buildSlice 23 0 #[], type := 23, pos := "l04_trees.go:135", after := #[], guard := none }) rfl (fun K hK => ?_) AllReadyH.nil)
            go_simp
            have HZn : Hid (Below W.heap.size W (u1.alloc (.cells #[] 29))) := HZ.out.alloc HZ.out.size _
            have HBn : Below u1.heap.size u1 (u1.alloc (.cells #[] 29)) := (Below.refl _ _).alloc (Nat.le_refl _) _
            have R0 : Hid ((u1.alloc (.cells #[] 29)).ownsRow W.heap.size 29 4 (.slice (some ⟨u1.heap.size, 0, none⟩) 0 0) 0 []) := World.ownsRow_lit u1 #[] 0 HZ.out.size (Nat.zero_le _) rfl
            have NE : Hid ((Value.slice (some ⟨u1.heap.size, 0, none⟩) 0 0).ownBlock ≠ some gi) := fun e => by have h1 : u1.heap.size = gi := Option.some.inj e; have h2 := IT.out.lt; omega
            replace IT := Lib.hid (IT.out.below HBn)
            refine hK.out _ _ (HKS.out _ HZn.out) (fun hHeld => ?_)
            replace HZ := HZn
            clear hK K HZn HBn
            generalize u1.alloc (.cells #[] 29) = u2 at *
            generalize u1.heap.size = g0 at *
            refine wpAnyH_ready (rs := [4]) (by kernel_rfl) (by simp) ?_
            refine (AllReadyH.cons (o := { dst := some 48, op := Go.Op.call { callee := Go.Callee.builtin Go.Builtin.append, args := #[Go.Operand.tmp 44, Go.Operand.tmp 47], argTypes := #[23, 23] }, type := 23, pos := "l04_trees.go:135", after := #[{ on := 0, ground := Go.Ground.data }, { on := 3, ground := Go.Ground.data }], guard := none }) rfl (fun K hK => ?_) AllReadyH.nil)
            refine step_append_own _ (by rfl) (.tmp 44) (.tmp 47) 23 (by rfl) W.heap.size 29 i0 (.agg #[.int .i64 0, .string ByteArray.empty, .string ByteArray.empty, .int .i64 0]) 4 48 Tryz.underlying23 hi hI0 hI1 hI2 rfl (by decide) (.slice (some ⟨g0, 0, none⟩) 0 0) 0 [] (by simp [Act.eval] <;> omega) R0.out ⟨g, 0, none⟩ k k (flatN (l.take k)) (by simp [Act.eval] <;> omega) HL1.out (src_cells (HRW.out.below HZ.out) 0 _ (.inr ⟨rfl, k, rfl⟩)) (flatN_one _) (by unfold maxLen; omega) (by omega) HZ.out.size ?_
            intro s48 u3 R4x G4 _
            have R4 : Hid (u3.ownsRow W.heap.size 29 4 s48 k (flatN (l.take k))) := by have := R4x; rw [Nat.zero_add, List.nil_append] at this; exact this
            have HZn : Hid (Below W.heap.size W u3) := HZ.out.grown G4 HZ.out.size (fun j hj => (R0.out.lt j hj).1)
            replace IT := Lib.hid (IT.out.grown G4 NE.out)
            clear NE
            simp only [Act.put, List.setIfInBounds_toArray, List.set_cons_zero, List.set_cons_succ]
            refine hK.out _ _ (HKS.out _ HZn.out) (fun hHeld => ?_)
            replace HZ := HZn
            clear hK K HZn R4x G4 R0
            refine wpAnyH_ready (rs := [7]) (by kernel_rfl) (by simp) ?_
            refine (AllReadyH.cons (o := { dst := some 51, op := Go.Op.call { callee := Go.Callee.builtin Go.Builtin.append, args := #[Go.Operand.tmp 48, Go.Operand.tmp 50], argTypes := #[23, 23] }, type := 23, pos := "l04_trees.go:135", after := #[{ on := 4, ground := Go.Ground.data }, { on := 6, ground := Go.Ground.data }, { on := 4, ground := Go.Ground.chain }], guard := none }) rfl (fun K hK => ?_) AllReadyH.nil)
            refine step_append_own _ (by rfl) (.tmp 48) (.tmp 50) 23 (by rfl) W.heap.size 29 i0 (.agg #[.int .i64 0, .string ByteArray.empty, .string ByteArray.empty, .int .i64 0]) 4 48 Tryz.underlying23 hi hI0 hI1 hI2 rfl (by decide) s48 k (flatN (l.take k)) (by simp [Act.eval] <;> omega) R4.out ⟨gi, 0, none⟩ 1 1 n.ns (by simp [Act.eval] <;> omega) rfl IT.out.cells (nodR_one n) (by unfold maxLen; omega) (by omega) HZ.out.size ?_
            intro s51 u4 R7x G7 N7
            have R7 := Lib.hid R7x
            have N7h : Hid (s51 ≠ .slice none 0 0) := fun e => by have := (N7.1 e).2; omega
            have HZn : Hid (Below W.heap.size W u4) := HZ.out.grown G7 HZ.out.size (fun j hj => (R4.out.lt j hj).1)
            simp only [Act.put, List.setIfInBounds_toArray, List.set_cons_zero, List.set_cons_succ]
            refine hK.out _ _ (HKS.out _ HZn.out) (fun hHeld => ?_)
            replace HZ := HZn
            clear hK K HZn R7x G7 N7 R4 IT
            refine wpAnyH_ready (rs := [9]) (by kernel_rfl) (by simp) ?_
            refine (AllReadyH.cons (o := { dst := some 53, op := Go.Op.call { callee := Go.Callee.builtin Go.Builtin.append, args := #[Go.Operand.tmp 51, Go.Operand.tmp 52], argTypes := #[23, 23] }, type := 23, pos := "l04_trees.go:135", after := #[{ on := 7, ground := Go.Ground.data }, { on := 8, ground := Go.Ground.data }, { on := 7, ground := Go.Ground.chain }], guard := none }) rfl (fun K hK => ?_) AllReadyH.nil)
            refine step_append_own _ (by rfl) (.tmp 51) (.tmp 52) 23 (by rfl) W.heap.size 29 i0 (.agg #[.int .i64 0, .string ByteArray.empty, .string ByteArray.empty, .int .i64 0]) 4 48 Tryz.underlying23 hi hI0 hI1 hI2 rfl (by decide) s51 (k + 1) (flatN (l.take k) ++ n.ns) (by simp [Act.eval] <;> omega) R7.out ⟨g, 0, none⟩ (l.length - k) 0 (flatN (l.drop (k))) (by simp [Act.eval] <;> omega) (by rw [← HR.out]; exact HL2.out) (fun j u hj => by rw [List.drop_eq_nil_of_le (by omega)] at hj; simp [flatN] at hj) (flatN_one _) (by unfold maxLen; omega) (by omega) HZ.out.size ?_
            intro s53 u5 R9x G9 N9
            have HF := Lib.hid (HRET.out s53 u5 (HZ.out.grown G9 HZ.out.size (fun j hj => (R7.out.lt j hj).1)) (by rw [HR.out]; exact R9x) (fun e => N7h.out (N9.1 e).1))
            have HZn : Hid (Below W.heap.size W u5) := HZ.out.grown G9 HZ.out.size (fun j hj => (R7.out.lt j hj).1)
            simp only [Act.put, List.setIfInBounds_toArray, List.set_cons_zero, List.set_cons_succ]
            refine hK.out _ _ (HKS.out _ HZn.out) (fun hHeld => ?_)
            replace HZ := HZn
            clear hK K HZn R9x G9 N9 R7 N7h
            refine wpAnyH_take (i := 10) (oi := { dst := some 4, op := Go.Op.assign (Go.Operand.tmp 53), type := 23, pos := "l04_trees.go:135", after := #[{ on := 9, ground := Go.Ground.data }, { on := 9, ground := Go.Ground.chain }, { on := 0, ground := Go.Ground.phase }, { on := 1, ground := Go.Ground.phase }, { on := 2, ground := Go.Ground.phase }, { on := 3, ground := Go.Ground.phase }, { on := 4, ground := Go.Ground.phase }, { on := 5, ground := Go.Ground.phase }, { on := 6, ground := Go.Ground.phase }, { on := 7, ground := Go.Ground.phase }, { on := 8, ground := Go.Ground.phase }, { on := 9, ground := Go.Ground.phase }], guard := none }) (v := ?vex12q10) rfl (by kernel_rfl) (by kernel_rfl) (by kernel_rfl) (fun _ _ _ h => h) (Or.inl ⟨by rfl, ?yex12q10⟩) hHeld ?zex12q10
            case yex12q10 =>
              intro w hSw
              (try dsimp only at hSw)
              go_simp
              try with_reducible rfl
            simp only [Act.put, List.setIfInBounds_toArray, List.set_cons_zero, List.set_cons_succ]
            refine wpAnyH_done (by kernel_rfl) ?_ _
            go_wp2
            go_ret
            exact HF.out
        · go_wp2
          go_quiet (fail)
          have hbw2 : Below W.heap.size W (wq.drewN nq) := below_drewN hbq nq
          generalize wq.drewN nq = w2 at *
          go_wp2
          have HKS : Hid (∀ w', Below W.heap.size W w' → NodCells w' w.heap.size 0 n) := fun w' hb => (HIT.out.below hb).nod
          have HZ : Hid (Below W.heap.size W w2.drew) := hbw2.drew
          refine wp_region_held_drew (S := fun w' => NodCells w' w.heap.size 0 n) (by kernel_rfl) (HKS.out _ HZ.out) (fun hHeld => ?_)
          refine wpAnyH_take (i := 1) (oi := { dst := some 45, op := Go.Op.move (Go.Operand.tmp 0), type := 23, pos := "l04_trees.go:135", after := #[], guard := none }) (v := ?vc1) rfl (by kernel_rfl) (by kernel_rfl) (by kernel_rfl) (fun _ _ _ h => h) (Or.inl ⟨by rfl, ?yc1⟩) hHeld ?zc1
          case yc1 =>
            intro w hSw
            (try dsimp only at hSw)
            go_simp
            try with_reducible rfl
          simp only [Act.put, List.setIfInBounds_toArray, List.set_cons_zero, List.set_cons_succ]
          refine wpAnyH_take (i := 2) (oi := { dst := some 46, op := Go.Op.move (Go.Operand.tmp 5), type := 3, pos := "l04_trees.go:135", after := #[], guard := none }) (v := ?vc2) rfl (by kernel_rfl) (by kernel_rfl) (by kernel_rfl) (fun _ _ _ h => h) (Or.inl ⟨by rfl, ?yc2⟩) hHeld ?zc2
          case yc2 =>
            intro w hSw
            (try dsimp only at hSw)
            go_simp
            try with_reducible rfl
          simp only [Act.put, List.setIfInBounds_toArray, List.set_cons_zero, List.set_cons_succ]
          refine wpAnyH_take (i := 3) (oi := { dst := some 47, op := Go.Op.slice 23 (Go.Operand.tmp 45) none (some (Go.Operand.tmp 46)) none, type := 23, pos := "l04_trees.go:135", after := #[{ on := 1, ground := Go.Ground.data }, { on := 2, ground := Go.Ground.data }], guard := none }) (v := ?vc3) rfl (by kernel_rfl) (by kernel_rfl) (by kernel_rfl) (fun _ _ _ h => h) (Or.inl ⟨by rfl, ?yc3⟩) hHeld ?zc3
          case yc3 =>
            intro w hSw
            (try dsimp only at hSw)
            go_simp
            try with_reducible rfl
          simp only [Act.put, List.setIfInBounds_toArray, List.set_cons_zero, List.set_cons_succ]
          refine wpAnyH_take (i := 5) (oi := { dst := some 49, op := Go.Op.load 29 (Go.Operand.tmp 3), type := 29, pos := "l04_trees.go:135", after := #[], guard := none }) (v := ?vc5) rfl (by kernel_rfl) (by kernel_rfl) (by kernel_rfl) (fun _ _ _ h => h) (Or.inl ⟨by rfl, ?yc5⟩) hHeld ?zc5
          case yc5 =>
            intro w hSw
            obtain ⟨q0, q1, q2, q3⟩ := hSw
            go_simp
            try with_reducible rfl
          simp only [Act.put, List.setIfInBounds_toArray, List.set_cons_zero, List.set_cons_succ]
          refine wpAnyH_take (i := 8) (oi := { dst := some 52, op := Go.Op.move (Go.Operand.tmp 6), type := 23, pos := "l04_trees.go:135", after := #[], guard := none }) (v := ?vc8) rfl (by kernel_rfl) (by kernel_rfl) (by kernel_rfl) (fun _ _ _ h => h) (Or.inl ⟨by rfl, ?yc8⟩) hHeld ?zc8
          case yc8 =>
            intro w hSw
            (try dsimp only at hSw)
            go_simp
            try with_reducible rfl
          simp only [Act.put, List.setIfInBounds_toArray, List.set_cons_zero, List.set_cons_succ]
          generalize w2.drew = u0 at *
          refine wpAnyH_ready (rs := [0, 6]) (by kernel_rfl) (by simp) ?_
          refine (AllReadyH.cons (o := { dst := some 44, op := Go.Op.buildSlice 23 0 #[], type := 23, pos := "l04_trees.go:135", after := #[], guard := none }) rfl (fun K hK => ?_) (AllReadyH.cons (o := { dst := some 50, op := Go.Op.buildSlice 23 1 #[(0, Go.Operand.tmp 49)], type := 23, pos := "l04_trees.go:135", after := #[{ on := 5, ground := Go.Ground.data }], guard := none }) rfl (fun K hK => ?_) AllReadyH.nil))
          · go_simp
            have HZn : Hid (Below W.heap.size W (u0.alloc (.cells #[] 29))) := HZ.out.alloc HZ.out.size _
            have HBn : Below u0.heap.size u0 (u0.alloc (.cells #[] 29)) := (Below.refl _ _).alloc (Nat.le_refl _) _
            have R0 : Hid ((u0.alloc (.cells #[] 29)).ownsRow W.heap.size 29 4 (.slice (some ⟨u0.heap.size, 0, none⟩) 0 0) 0 []) := World.ownsRow_lit u0 #[] 0 HZ.out.size (Nat.zero_le _) rfl
            refine hK.out _ _ (HKS.out _ HZn.out) (fun hHeld => ?_)
            replace HZ := HZn
            clear hK K HZn HBn
            generalize u0.alloc (.cells #[] 29) = u1 at *
            generalize u0.heap.size = g0 at *
            refine wpAnyH_ready (rs := [4, 6]) (by kernel_rfl) (by simp) ?_
            refine (AllReadyH.cons (o := { dst := some 48, op := Go.Op.call { callee := Go.Callee.builtin Go.Builtin.append, args := #[Go.Operand.tmp 44, Go.Operand.tmp 47], argTypes := #[23, 23] }, type := 23, pos := "l04_trees.go:135", after := #[{ on := 0, ground := Go.Ground.data }, { on := 3, ground := Go.Ground.data }], guard := none }) rfl (fun K hK => ?_) (AllReadyH.cons (o := { dst := some 50, op := Go.Op.buildSlice 23 1 #[(0, Go.Operand.tmp 49)], type := 23, pos := "l04_trees.go:135", after := #[{ on := 5, ground := Go.Ground.data }], guard := none }) rfl (fun K hK => ?_) AllReadyH.nil))
            · refine step_append_own _ (by rfl) (.tmp 44) (.tmp 47) 23 (by rfl) W.heap.size 29 i0 (.agg #[.int .i64 0, .string ByteArray.empty, .string ByteArray.empty, .int .i64 0]) 4 48 Tryz.underlying23 hi hI0 hI1 hI2 rfl (by decide) (.slice (some ⟨g0, 0, none⟩) 0 0) 0 [] (by simp [Act.eval] <;> omega) R0.out ⟨g, 0, none⟩ k cap (flatN (l.take k)) (by simp [Act.eval] <;> omega) HL1.out (src_cells (HRW.out.below HZ.out) 0 _ (.inr ⟨rfl, k, rfl⟩)) (flatN_one _) (by unfold maxLen; omega) (by omega) HZ.out.size ?_
              intro s48 u2 R4x G4 _
              have R4 : Hid (u2.ownsRow W.heap.size 29 4 s48 k (flatN (l.take k))) := by have := R4x; rw [Nat.zero_add, List.nil_append] at this; exact this
              have HZn : Hid (Below W.heap.size W u2) := HZ.out.grown G4 HZ.out.size (fun j hj => (R0.out.lt j hj).1)
              simp only [Act.put, List.setIfInBounds_toArray, List.set_cons_zero, List.set_cons_succ]
              refine hK.out _ _ (HKS.out _ HZn.out) (fun hHeld => ?_)
              replace HZ := HZn
              clear hK K HZn R4x G4 R0
              refine wpAnyH_ready (rs := [6]) (by kernel_rfl) (by simp) ?_
              refine (AllReadyH.cons (o := { dst := some 50, op := Go.Op.buildSlice 23 1 #[(0, Go.Operand.tmp 49)], type := 23, pos := "l04_trees.go:135", after := #[{ on := 5, ground := Go.Ground.data }], guard := none }) rfl (fun K hK => ?_) AllReadyH.nil)
              go_simp
              have HZn : Hid (Below W.heap.size W (u2.alloc (.cells #[.int .i64 n.k, .string n.p, .string n.b, .int .i64 n.m] 29))) := HZ.out.alloc HZ.out.size _
              have HBn : Below u2.heap.size u2 (u2.alloc (.cells #[.int .i64 n.k, .string n.p, .string n.b, .int .i64 n.m] 29)) := (Below.refl _ _).alloc (Nat.le_refl _) _
              have IT : Hid (Item (u2.alloc (.cells #[.int .i64 n.k, .string n.p, .string n.b, .int .i64 n.m] 29)) u2.heap.size n) := Item.new u2 n
              replace R4 := Lib.hid (own_below R4.out HBn)
              refine hK.out _ _ (HKS.out _ HZn.out) (fun hHeld => ?_)
              replace HZ := HZn
              clear hK K HZn HBn
              generalize u2.alloc (.cells #[.int .i64 n.k, .string n.p, .string n.b, .int .i64 n.m] 29) = u3 at *
              generalize u2.heap.size = gi at *
              refine wpAnyH_ready (rs := [7]) (by kernel_rfl) (by simp) ?_
              refine (AllReadyH.cons (o := { dst := some 51, op := Go.Op.call { callee := Go.Callee.builtin Go.Builtin.append, args := #[Go.Operand.tmp 48, Go.Operand.tmp 50], argTypes := #[23, 23] }, type := 23, pos := "l04_trees.go:135", after := #[{ on := 4, ground := Go.Ground.data }, { on := 6, ground := Go.Ground.data }, { on := 4, ground := Go.Ground.chain }], guard := none }) rfl (fun K hK => ?_) AllReadyH.nil)
              refine step_append_own _ (by rfl) (.tmp 48) (.tmp 50) 23 (by rfl) W.heap.size 29 i0 (.agg #[.int .i64 0, .string ByteArray.empty, .string ByteArray.empty, .int .i64 0]) 4 48 Tryz.underlying23 hi hI0 hI1 hI2 rfl (by decide) s48 k (flatN (l.take k)) (by simp [Act.eval] <;> omega) R4.out ⟨gi, 0, none⟩ 1 1 n.ns (by simp [Act.eval] <;> omega) rfl IT.out.cells (nodR_one n) (by unfold maxLen; omega) (by omega) HZ.out.size ?_
              intro s51 u4 R7x G7 N7
              have R7 := Lib.hid R7x
              have N7h : Hid (s51 ≠ .slice none 0 0) := fun e => by have := (N7.1 e).2; omega
              have HZn : Hid (Below W.heap.size W u4) := HZ.out.grown G7 HZ.out.size (fun j hj => (R4.out.lt j hj).1)
              simp only [Act.put, List.setIfInBounds_toArray, List.set_cons_zero, List.set_cons_succ]
              refine hK.out _ _ (HKS.out _ HZn.out) (fun hHeld => ?_)
              replace HZ := HZn
              clear hK K HZn R7x G7 N7 R4 IT
              refine wpAnyH_ready (rs := [9]) (by kernel_rfl) (by simp) ?_
              refine (AllReadyH.cons (o := { dst := some 53, op := Go.Op.call { callee := Go.Callee.builtin Go.Builtin.append, args := #[Go.Operand.tmp 51, Go.Operand.tmp 52], argTypes := #[23, 23] }, type := 23, pos := "l04_trees.go:135", after := #[{ on := 7, ground := Go.Ground.data }, { on := 8, ground := Go.Ground.data }, { on := 7, ground := Go.Ground.chain }], guard := none }) rfl (fun K hK => ?_) AllReadyH.nil)
              refine step_append_own _ (by rfl) (.tmp 51) (.tmp 52) 23 (by rfl) W.heap.size 29 i0 (.agg #[.int .i64 0, .string ByteArray.empty, .string ByteArray.empty, .int .i64 0]) 4 48 Tryz.underlying23 hi hI0 hI1 hI2 rfl (by decide) s51 (k + 1) (flatN (l.take k) ++ n.ns) (by simp [Act.eval] <;> omega) R7.out ⟨g, k * 4, none⟩ (l.length - k) (cap - k) (flatN (l.drop (k))) (by simp [Act.eval] <;> omega) (by rw [← HR.out]; exact HL2.out) (src_cells (HRW.out.below HZ.out) (k) _ (.inl rfl)) (flatN_one _) (by unfold maxLen; omega) (by omega) HZ.out.size ?_
              intro s53 u5 R9x G9 N9
              have HF := Lib.hid (HRET.out s53 u5 (HZ.out.grown G9 HZ.out.size (fun j hj => (R7.out.lt j hj).1)) (by rw [HR.out]; exact R9x) (fun e => N7h.out (N9.1 e).1))
              have HZn : Hid (Below W.heap.size W u5) := HZ.out.grown G9 HZ.out.size (fun j hj => (R7.out.lt j hj).1)
              simp only [Act.put, List.setIfInBounds_toArray, List.set_cons_zero, List.set_cons_succ]
              refine hK.out _ _ (HKS.out _ HZn.out) (fun hHeld => ?_)
              replace HZ := HZn
              clear hK K HZn R9x G9 N9 R7 N7h
              refine wpAnyH_take (i := 10) (oi := { dst := some 4, op := Go.Op.assign (Go.Operand.tmp 53), type := 23, pos := "l04_trees.go:135", after := #[{ on := 9, ground := Go.Ground.data }, { on := 9, ground := Go.Ground.chain }, { on := 0, ground := Go.Ground.phase }, { on := 1, ground := Go.Ground.phase }, { on := 2, ground := Go.Ground.phase }, { on := 3, ground := Go.Ground.phase }, { on := 4, ground := Go.Ground.phase }, { on := 5, ground := Go.Ground.phase }, { on := 6, ground := Go.Ground.phase }, { on := 7, ground := Go.Ground.phase }, { on := 8, ground := Go.Ground.phase }, { on := 9, ground := Go.Ground.phase }], guard := none }) (v := ?vcx13q10) rfl (by kernel_rfl) (by kernel_rfl) (by kernel_rfl) (fun _ _ _ h => h) (Or.inl ⟨by rfl, ?ycx13q10⟩) hHeld ?zcx13q10
              case ycx13q10 =>
                intro w hSw
                (try dsimp only at hSw)
                go_simp
                try with_reducible rfl
              simp only [Act.put, List.setIfInBounds_toArray, List.set_cons_zero, List.set_cons_succ]
              refine wpAnyH_done (by kernel_rfl) ?_ _
              go_wp2
              go_ret
              exact HF.out
            · go_simp
              have HZn : Hid (Below W.heap.size W (u1.alloc (.cells #[.int .i64 n.k, .string n.p, .string n.b, .int .i64 n.m] 29))) := HZ.out.alloc HZ.out.size _
              have HBn : Below u1.heap.size u1 (u1.alloc (.cells #[.int .i64 n.k, .string n.p, .string n.b, .int .i64 n.m] 29)) := (Below.refl _ _).alloc (Nat.le_refl _) _
              have IT : Hid (Item (u1.alloc (.cells #[.int .i64 n.k, .string n.p, .string n.b, .int .i64 n.m] 29)) u1.heap.size n) := Item.new u1 n
              have NE : Hid ((Value.slice (some ⟨g0, 0, none⟩) 0 0).ownBlock ≠ some u1.heap.size) := fun e => by have h2 := (R0.out.lt _ e).2; omega
              replace R0 := Lib.hid (own_below R0.out HBn)
              refine hK.out _ _ (HKS.out _ HZn.out) (fun hHeld => ?_)
              replace HZ := HZn
              clear hK K HZn HBn
              generalize u1.alloc (.cells #[.int .i64 n.k, .string n.p, .string n.b, .int .i64 n.m] 29) = u2 at *
              generalize u1.heap.size = gi at *
              refine wpAnyH_ready (rs := [4]) (by kernel_rfl) (by simp) ?_
              refine (AllReadyH.cons (o := { dst := some 48, op := Go.Op.call { callee := Go.Callee.builtin Go.Builtin.append, args := #[Go.Operand.tmp 44, Go.Operand.tmp 47], argTypes := #[23, 23] }, type := 23, pos := "l04_trees.go:135", after := #[{ on := 0, ground := Go.Ground.data }, { on := 3, ground := Go.Ground.data }], guard := none }) rfl (fun K hK => ?_) AllReadyH.nil)
              refine step_append_own _ (by rfl) (.tmp 44) (.tmp 47) 23 (by rfl) W.heap.size 29 i0 (.agg #[.int .i64 0, .string ByteArray.empty, .string ByteArray.empty, .int .i64 0]) 4 48 Tryz.underlying23 hi hI0 hI1 hI2 rfl (by decide) (.slice (some ⟨g0, 0, none⟩) 0 0) 0 [] (by simp [Act.eval] <;> omega) R0.out ⟨g, 0, none⟩ k cap (flatN (l.take k)) (by simp [Act.eval] <;> omega) HL1.out (src_cells (HRW.out.below HZ.out) 0 _ (.inr ⟨rfl, k, rfl⟩)) (flatN_one _) (by unfold maxLen; omega) (by omega) HZ.out.size ?_
              intro s48 u3 R4x G4 _
              have R4 : Hid (u3.ownsRow W.heap.size 29 4 s48 k (flatN (l.take k))) := by have := R4x; rw [Nat.zero_add, List.nil_append] at this; exact this
              have HZn : Hid (Below W.heap.size W u3) := HZ.out.grown G4 HZ.out.size (fun j hj => (R0.out.lt j hj).1)
              replace IT := Lib.hid (IT.out.grown G4 NE.out)
              clear NE
              simp only [Act.put, List.setIfInBounds_toArray, List.set_cons_zero, List.set_cons_succ]
              refine hK.out _ _ (HKS.out _ HZn.out) (fun hHeld => ?_)
              replace HZ := HZn
              clear hK K HZn R4x G4 R0
              refine wpAnyH_ready (rs := [7]) (by kernel_rfl) (by simp) ?_
              refine (AllReadyH.cons (o := { dst := some 51, op := Go.Op.call { callee := Go.Callee.builtin Go.Builtin.append, args := #[Go.Operand.tmp 48, Go.Operand.tmp 50], argTypes := #[23, 23] }, type := 23, pos := "l04_trees.go:135", after := #[{ on := 4, ground := Go.Ground.data }, { on := 6, ground := Go.Ground.data }, { on := 4, ground := Go.Ground.chain }], guard := none }) rfl (fun K hK => ?_) AllReadyH.nil)
              refine step_append_own _ (by rfl) (.tmp 48) (.tmp 50) 23 (by rfl) W.heap.size 29 i0 (.agg #[.int .i64 0, .string ByteArray.empty, .string ByteArray.empty, .int .i64 0]) 4 48 Tryz.underlying23 hi hI0 hI1 hI2 rfl (by decide) s48 k (flatN (l.take k)) (by simp [Act.eval] <;> omega) R4.out ⟨gi, 0, none⟩ 1 1 n.ns (by simp [Act.eval] <;> omega) rfl IT.out.cells (nodR_one n) (by unfold maxLen; omega) (by omega) HZ.out.size ?_
              intro s51 u4 R7x G7 N7
              have R7 := Lib.hid R7x
              have N7h : Hid (s51 ≠ .slice none 0 0) := fun e => by have := (N7.1 e).2; omega
              have HZn : Hid (Below W.heap.size W u4) := HZ.out.grown G7 HZ.out.size (fun j hj => (R4.out.lt j hj).1)
              simp only [Act.put, List.setIfInBounds_toArray, List.set_cons_zero, List.set_cons_succ]
              refine hK.out _ _ (HKS.out _ HZn.out) (fun hHeld => ?_)
              replace HZ := HZn
              clear hK K HZn R7x G7 N7 R4 IT
              refine wpAnyH_ready (rs := [9]) (by kernel_rfl) (by simp) ?_
              refine (AllReadyH.cons (o := { dst := some 53, op := Go.Op.call { callee := Go.Callee.builtin Go.Builtin.append, args := #[Go.Operand.tmp 51, Go.Operand.tmp 52], argTypes := #[23, 23] }, type := 23, pos := "l04_trees.go:135", after := #[{ on := 7, ground := Go.Ground.data }, { on := 8, ground := Go.Ground.data }, { on := 7, ground := Go.Ground.chain }], guard := none }) rfl (fun K hK => ?_) AllReadyH.nil)
              refine step_append_own _ (by rfl) (.tmp 51) (.tmp 52) 23 (by rfl) W.heap.size 29 i0 (.agg #[.int .i64 0, .string ByteArray.empty, .string ByteArray.empty, .int .i64 0]) 4 48 Tryz.underlying23 hi hI0 hI1 hI2 rfl (by decide) s51 (k + 1) (flatN (l.take k) ++ n.ns) (by simp [Act.eval] <;> omega) R7.out ⟨g, k * 4, none⟩ (l.length - k) (cap - k) (flatN (l.drop (k))) (by simp [Act.eval] <;> omega) (by rw [← HR.out]; exact HL2.out) (src_cells (HRW.out.below HZ.out) (k) _ (.inl rfl)) (flatN_one _) (by unfold maxLen; omega) (by omega) HZ.out.size ?_
              intro s53 u5 R9x G9 N9
              have HF := Lib.hid (HRET.out s53 u5 (HZ.out.grown G9 HZ.out.size (fun j hj => (R7.out.lt j hj).1)) (by rw [HR.out]; exact R9x) (fun e => N7h.out (N9.1 e).1))
              have HZn : Hid (Below W.heap.size W u5) := HZ.out.grown G9 HZ.out.size (fun j hj => (R7.out.lt j hj).1)
              simp only [Act.put, List.setIfInBounds_toArray, List.set_cons_zero, List.set_cons_succ]
              refine hK.out _ _ (HKS.out _ HZn.out) (fun hHeld => ?_)
              replace HZ := HZn
              clear hK K HZn R9x G9 N9 R7 N7h
              refine wpAnyH_take (i := 10) (oi := { dst := some 4, op := Go.Op.assign (Go.Operand.tmp 53), type := 23, pos := "l04_trees.go:135", after := #[{ on := 9, ground := Go.Ground.data }, { on := 9, ground := Go.Ground.chain }, { on := 0, ground := Go.Ground.phase }, { on := 1, ground := Go.Ground.phase }, { on := 2, ground := Go.Ground.phase }, { on := 3, ground := Go.Ground.phase }, { on := 4, ground := Go.Ground.phase }, { on := 5, ground := Go.Ground.phase }, { on := 6, ground := Go.Ground.phase }, { on := 7, ground := Go.Ground.phase }, { on := 8, ground := Go.Ground.phase }, { on := 9, ground := Go.Ground.phase }], guard := none }) (v := ?vcx14q10) rfl (by kernel_rfl) (by kernel_rfl) (by kernel_rfl) (fun _ _ _ h => h) (Or.inl ⟨by rfl, ?ycx14q10⟩) hHeld ?zcx14q10
              case ycx14q10 =>
                intro w hSw
                (try dsimp only at hSw)
                go_simp
                try with_reducible rfl
              simp only [Act.put, List.setIfInBounds_toArray, List.set_cons_zero, List.set_cons_succ]
              refine wpAnyH_done (by kernel_rfl) ?_ _
              go_wp2
              go_ret
              exact HF.out
          · go_simp
            have HZn : Hid (Below W.heap.size W (u0.alloc (.cells #[.int .i64 n.k, .string n.p, .string n.b, .int .i64 n.m] 29))) := HZ.out.alloc HZ.out.size _
            have HBn : Below u0.heap.size u0 (u0.alloc (.cells #[.int .i64 n.k, .string n.p, .string n.b, .int .i64 n.m] 29)) := (Below.refl _ _).alloc (Nat.le_refl _) _
            have IT : Hid (Item (u0.alloc (.cells #[.int .i64 n.k, .string n.p, .string n.b, .int .i64 n.m] 29)) u0.heap.size n) := Item.new u0 n
            refine hK.out _ _ (HKS.out _ HZn.out) (fun hHeld => ?_)
            replace HZ := HZn
            clear hK K HZn HBn
            generalize u0.alloc (.cells #[.int .i64 n.k, .string n.p, .string n.b, .int .i64 n.m] 29) = u1 at *
            generalize u0.heap.size = gi at *
            refine wpAnyH_ready (rs := [0]) (by kernel_rfl) (by simp) ?_
            refine (AllReadyH.cons (o := { dst := some 44, op := Go.Op.buildSlice 23 0 #[], type := 23, pos := "l04_trees.go:135", after := #[], guard := none }) rfl (fun K hK => ?_) AllReadyH.nil)
            go_simp
            have HZn : Hid (Below W.heap.size W (u1.alloc (.cells #[] 29))) := HZ.out.alloc HZ.out.size _
            have HBn : Below u1.heap.size u1 (u1.alloc (.cells #[] 29)) := (Below.refl _ _).alloc (Nat.le_refl _) _
            have R0 : Hid ((u1.alloc (.cells #[] 29)).ownsRow W.heap.size 29 4 (.slice (some ⟨u1.heap.size, 0, none⟩) 0 0) 0 []) := World.ownsRow_lit u1 #[] 0 HZ.out.size (Nat.zero_le _) rfl
            have NE : Hid ((Value.slice (some ⟨u1.heap.size, 0, none⟩) 0 0).ownBlock ≠ some gi) := fun e => by have h1 : u1.heap.size = gi := Option.some.inj e; have h2 := IT.out.lt; omega
            replace IT := Lib.hid (IT.out.below HBn)
            refine hK.out _ _ (HKS.out _ HZn.out) (fun hHeld => ?_)
            replace HZ := HZn
            clear hK K HZn HBn
            generalize u1.alloc (.cells #[] 29) = u2 at *
            generalize u1.heap.size = g0 at *
            refine wpAnyH_ready (rs := [4]) (by kernel_rfl) (by simp) ?_
            refine (AllReadyH.cons (o := { dst := some 48, op := Go.Op.call { callee := Go.Callee.builtin Go.Builtin.append, args := #[Go.Operand.tmp 44, Go.Operand.tmp 47], argTypes := #[23, 23] }, type := 23, pos := "l04_trees.go:135", after := #[{ on := 0, ground := Go.Ground.data }, { on := 3, ground := Go.Ground.data }], guard := none }) rfl (fun K hK => ?_) AllReadyH.nil)
            refine step_append_own _ (by rfl) (.tmp 44) (.tmp 47) 23 (by rfl) W.heap.size 29 i0 (.agg #[.int .i64 0, .string ByteArray.empty, .string ByteArray.empty, .int .i64 0]) 4 48 Tryz.underlying23 hi hI0 hI1 hI2 rfl (by decide) (.slice (some ⟨g0, 0, none⟩) 0 0) 0 [] (by simp [Act.eval] <;> omega) R0.out ⟨g, 0, none⟩ k cap (flatN (l.take k)) (by simp [Act.eval] <;> omega) HL1.out (src_cells (HRW.out.below HZ.out) 0 _ (.inr ⟨rfl, k, rfl⟩)) (flatN_one _) (by unfold maxLen; omega) (by omega) HZ.out.size ?_
            intro s48 u3 R4x G4 _
            have R4 : Hid (u3.ownsRow W.heap.size 29 4 s48 k (flatN (l.take k))) := by have := R4x; rw [Nat.zero_add, List.nil_append] at this; exact this
            have HZn : Hid (Below W.heap.size W u3) := HZ.out.grown G4 HZ.out.size (fun j hj => (R0.out.lt j hj).1)
            replace IT := Lib.hid (IT.out.grown G4 NE.out)
            clear NE
            simp only [Act.put, List.setIfInBounds_toArray, List.set_cons_zero, List.set_cons_succ]
            refine hK.out _ _ (HKS.out _ HZn.out) (fun hHeld => ?_)
            replace HZ := HZn
            clear hK K HZn R4x G4 R0
            refine wpAnyH_ready (rs := [7]) (by kernel_rfl) (by simp) ?_
            refine (AllReadyH.cons (o := { dst := some 51, op := Go.Op.call { callee := Go.Callee.builtin Go.Builtin.append, args := #[Go.Operand.tmp 48, Go.Operand.tmp 50], argTypes := #[23, 23] }, type := 23, pos := "l04_trees.go:135", after := #[{ on := 4, ground := Go.Ground.data }, { on := 6, ground := Go.Ground.data }, { on := 4, ground := Go.Ground.chain }], guard := none }) rfl (fun K hK => ?_) AllReadyH.nil)
            refine step_append_own _ (by rfl) (.tmp 48) (.tmp 50) 23 (by rfl) W.heap.size 29 i0 (.agg #[.int .i64 0, .string ByteArray.empty, .string ByteArray.empty, .int .i64 0]) 4 48 Tryz.underlying23 hi hI0 hI1 hI2 rfl (by decide) s48 k (flatN (l.take k)) (by simp [Act.eval] <;> omega) R4.out ⟨gi, 0, none⟩ 1 1 n.ns (by simp [Act.eval] <;> omega) rfl IT.out.cells (nodR_one n) (by unfold maxLen; omega) (by omega) HZ.out.size ?_
            intro s51 u4 R7x G7 N7
            have R7 := Lib.hid R7x
            have N7h : Hid (s51 ≠ .slice none 0 0) := fun e => by have := (N7.1 e).2; omega
            have HZn : Hid (Below W.heap.size W u4) := HZ.out.grown G7 HZ.out.size (fun j hj => (R4.out.lt j hj).1)
            simp only [Act.put, List.setIfInBounds_toArray, List.set_cons_zero, List.set_cons_succ]
            refine hK.out _ _ (HKS.out _ HZn.out) (fun hHeld => ?_)
            replace HZ := HZn
            clear hK K HZn R7x G7 N7 R4 IT
            refine wpAnyH_ready (rs := [9]) (by kernel_rfl) (by simp) ?_
            refine (AllReadyH.cons (o := { dst := some 53, op := Go.Op.call { callee := Go.Callee.builtin Go.Builtin.append, args := #[Go.Operand.tmp 51, Go.Operand.tmp 52], argTypes := #[23, 23] }, type := 23, pos := "l04_trees.go:135", after := #[{ on := 7, ground := Go.Ground.data }, { on := 8, ground := Go.Ground.data }, { on := 7, ground := Go.Ground.chain }], guard := none }) rfl (fun K hK => ?_) AllReadyH.nil)
            refine step_append_own _ (by rfl) (.tmp 51) (.tmp 52) 23 (by rfl) W.heap.size 29 i0 (.agg #[.int .i64 0, .string ByteArray.empty, .string ByteArray.empty, .int .i64 0]) 4 48 Tryz.underlying23 hi hI0 hI1 hI2 rfl (by decide) s51 (k + 1) (flatN (l.take k) ++ n.ns) (by simp [Act.eval] <;> omega) R7.out ⟨g, k * 4, none⟩ (l.length - k) (cap - k) (flatN (l.drop (k))) (by simp [Act.eval] <;> omega) (by rw [← HR.out]; exact HL2.out) (src_cells (HRW.out.below HZ.out) (k) _ (.inl rfl)) (flatN_one _) (by unfold maxLen; omega) (by omega) HZ.out.size ?_
            intro s53 u5 R9x G9 N9
            have HF := Lib.hid (HRET.out s53 u5 (HZ.out.grown G9 HZ.out.size (fun j hj => (R7.out.lt j hj).1)) (by rw [HR.out]; exact R9x) (fun e => N7h.out (N9.1 e).1))
            have HZn : Hid (Below W.heap.size W u5) := HZ.out.grown G9 HZ.out.size (fun j hj => (R7.out.lt j hj).1)
            simp only [Act.put, List.setIfInBounds_toArray, List.set_cons_zero, List.set_cons_succ]
            refine hK.out _ _ (HKS.out _ HZn.out) (fun hHeld => ?_)
            replace HZ := HZn
            clear hK K HZn R9x G9 N9 R7 N7h
            refine wpAnyH_take (i := 10) (oi := { dst := some 4, op := Go.Op.assign (Go.Operand.tmp 53), type := 23, pos := "l04_trees.go:135", after := #[{ on := 9, ground := Go.Ground.data }, { on := 9, ground := Go.Ground.chain }, { on := 0, ground := Go.Ground.phase }, { on := 1, ground := Go.Ground.phase }, { on := 2, ground := Go.Ground.phase }, { on := 3, ground := Go.Ground.phase }, { on := 4, ground := Go.Ground.phase }, { on := 5, ground := Go.Ground.phase }, { on := 6, ground := Go.Ground.phase }, { on := 7, ground := Go.Ground.phase }, { on := 8, ground := Go.Ground.phase }, { on := 9, ground := Go.Ground.phase }], guard := none }) (v := ?vcx15q10) rfl (by kernel_rfl) (by kernel_rfl) (by kernel_rfl) (fun _ _ _ h => h) (Or.inl ⟨by rfl, ?ycx15q10⟩) hHeld ?zcx15q10
            case ycx15q10 =>
              intro w hSw
              (try dsimp only at hSw)
              go_simp
              try with_reducible rfl
            simp only [Act.put, List.setIfInBounds_toArray, List.set_cons_zero, List.set_cons_succ]
            refine wpAnyH_done (by kernel_rfl) ?_ _
            go_wp2
            go_ret
            exact HF.out
end Go.Proofs.YtjiljnfiofmpaaaGreatDoor.Recs

/- A tree in memory: a node taken out, with all that is below it. -/

namespace Go.Proofs.YtjiljnfiofmpaaaGreatDoor.Recs
set_option maxRecDepth 100000
open Go.RowKit Paths

theorem ups_nil : ups ByteArray.empty = [] := by decide
section
variable {base : Nat} {A : ByteArray → Nat} {S : ByteArray → Value} {t : List R} {x : R} {q : ByteArray}
/-- Those directly below one that stay without a last part. -/
def kidsBut (t : List R) (p q : ByteArray) : List R := (kids t p).filter fun c => !decide (lastB c.p = lastB q)
theorem Tr.cut {W w9 : World} (h : Tr W base A S t) (ht : IsTree t) (hq : pathB q.data.toList = true) (hx : x ∈ rootR :: t) (hxp : x.p = parO q) {v' : Value}
    (hown : w9.ownsRow base 83 1 v' (kidsBut t x.p q).length (ptrs A (kidsBut t x.p q)))
    (hgrow : W.grownBy w9 (S x.p).ownBlock) (hwh : v'.ownBlock = (S x.p).ownBlock) :
    Tr (w9.setCell ⟨A x.p, 5, none⟩ v') base A (fun p => if p = x.p then v' else S p) (withoutL t q true) := by
  have hs := ht.sorted
  have hpath := ht.path
  have hmem : ∀ r, r ∈ rootR :: withoutL t q true → r ∈ rootR :: t ∧ r.p ≠ q ∧ q ∉ ups r.p := fun r hr => by
    rcases List.mem_cons.1 hr with rfl | hr
    · refine ⟨root_mem, fun e => path_nonempty hq e.symm, ?_⟩
      rw [rootR_p, ups_nil]
      simp
    · obtain ⟨h1, h2, h3⟩ := mem_without.1 hr
      exact ⟨List.mem_cons_of_mem _ h1, h3 rfl, h2⟩
  have hb9 : ∀ r ∈ rootR :: t, w9.heap[A r.p]? = W.heap[A r.p]? := fun r hr => hgrow.block _ (h.lt hr) (fun e => h.apart_row hr hx e.symm)
  have hvx : v'.ownBlock ≠ some (A x.p) := by rw [hwh]; exact h.apart_row hx hx
  have hkid : ∀ r ∈ rootR :: withoutL t q true, kids (withoutL t q true) r.p = if r.p = x.p then kidsBut t x.p q else kids t r.p := fun r hr => by
    obtain ⟨_, h2, h3⟩ := hmem r hr
    rw [kids_without hpath hq ⟨h2, h3⟩]
    by_cases he : r.p = x.p
    · rw [if_pos he, he, hxp]
      unfold kidsBut
      simp
    · rw [if_neg he]
      have : ¬ parO q = r.p := fun e => he (by rw [hxp, e])
      simp [this]
  refine ⟨fun r hr => ?_, fun r hr => h.own r (hmem r hr).1, fun r hr => ?_, fun r hr y hy hne g hg => ?_⟩
  · have hrt := (hmem r hr).1
    by_cases he : r.p = x.p
    · obtain rfl := dom_once hs hpath hrt hx he
      rw [if_pos rfl, setCell_block ((hb9 r hrt).trans (h.block r hrt)) 5 v']
      rfl
    · rw [if_neg he, Below.heap_setCell _ _ _ _ (fun e => he (h.inj hrt hx e)), hb9 r hrt]
      exact h.block r hrt
  · have hrt := (hmem r hr).1
    rw [hkid r hr]
    by_cases he : r.p = x.p
    · rw [if_pos he, if_pos he]
      exact ownsRow_setCell_other hown hvx _
    · rw [if_neg he, if_neg he]
      have hk := (h.row r hrt).kept hgrow (by
        cases hc : (S r.p).ownBlock with
        | none => exact .inl rfl
        | some g => exact .inr fun e => h.apart r hrt x hx he g hc e.symm)
      exact ownsRow_setCell_other hk (h.apart_row hx hrt) _
  · have hrt := (hmem r hr).1
    have hyt := (hmem y hy).1
    by_cases her : r.p = x.p
    · have hey : y.p ≠ x.p := fun e => hne (her.trans e.symm)
      rw [if_pos her, hwh] at hg
      rw [if_neg hey]
      exact h.apart x hx y hyt (fun e => hey e.symm) g hg
    · rw [if_neg her] at hg
      by_cases hey : y.p = x.p
      · rw [if_pos hey, hwh]
        exact h.apart r hrt x hx her g hg
      · rw [if_neg hey]
        exact h.apart r hrt y hyt hne g hg
end
/-- A row, cut short. -/
theorem own_short {w : World} {base g n cap : Nat} {e : TypeId} {xs : List Value} (h : w.ownsRow base e 1 (.slice (some ⟨g, 0, none⟩) n cap) n xs) {m : Nat} (hm : m ≤ n) : w.ownsRow base e 1 (.slice (some ⟨g, 0, none⟩) m cap) m (xs.take m) := by
  obtain ⟨h1, h2⟩ := h
  rcases h2 with ⟨h', _⟩ | ⟨g', cap', cur, h', hb, hg, hnc, hcm, hcs, htake⟩
  · simp at h'
  · simp only [Value.slice.injEq, Option.some.injEq, Addr.mk.injEq, and_true, true_and] at h'
    obtain ⟨rfl, rfl⟩ := h'
    refine ⟨by rw [List.length_take, h1]; omega, .inr ⟨g, cap, cur, rfl, hb, hg, by omega, hcm, hcs, ?_⟩⟩
    rw [← htake, List.take_take]
    congr 1
    omega
/-- While one is taken out of a row: what has moved, what has not. -/
def delRow (Y : List Value) (m j : Nat) : List Value := (Y.take m ++ Y.drop (m + 1)).take j ++ Y.drop j
theorem del_start (Y : List Value) (m : Nat) (hm : m ≤ Y.length) : delRow Y m m = Y := by
  unfold delRow
  rw [List.take_left' (by rw [List.length_take]; omega), List.take_append_drop]
theorem del_len (Y : List Value) {m j : Nat} (hm : m < Y.length) (hj : j < Y.length) : (delRow Y m j).length = Y.length := by
  unfold delRow
  simp only [List.length_append, List.length_take, List.length_drop]
  omega
theorem del_get (Y : List Value) {m j : Nat} (hm : m < Y.length) (hj : j + 1 < Y.length) : (delRow Y m j)[j + 1]? = Y[j + 1]? := by
  unfold delRow
  have e : ((Y.take m ++ Y.drop (m + 1)).take j).length = j := by simp only [List.length_take, List.length_append, List.length_drop]; omega
  rw [List.getElem?_append_right (by omega), e, List.getElem?_drop]
  congr 1
  omega
theorem del_step (Y : List Value) {m j : Nat} (hmj : m ≤ j) (hj : j + 1 < Y.length) : (delRow Y m j).set j Y[j + 1] = delRow Y m (j + 1) := by
  unfold delRow
  have e : ((Y.take m ++ Y.drop (m + 1)).take j).length = j := by simp only [List.length_take, List.length_append, List.length_drop]; omega
  have e2 : (Y.take m ++ Y.drop (m + 1))[j]? = some Y[j + 1] := by
    rw [List.getElem?_append_right (by rw [List.length_take]; omega), List.length_take, List.getElem?_drop, Nat.min_eq_left (by omega), ← List.getElem?_eq_getElem hj]
    congr 1
    omega
  rw [List.set_append_right _ _ (by omega), e, Nat.sub_self, List.drop_eq_getElem_cons (show j < Y.length by omega), List.set_cons_zero, List.take_add_one, e2]
  simp
theorem del_end (Y : List Value) {m n : Nat} (hm : m < n) (hn : Y.length = n) (u : Value) : ((delRow Y m (n - 1)).set (n - 1) u).take (n - 1) = Y.take m ++ Y.drop (m + 1) := by
  unfold delRow
  have e : (Y.take m ++ Y.drop (m + 1)).length = n - 1 := by simp only [List.length_append, List.length_take, List.length_drop]; omega
  rw [List.take_of_length_le (show (Y.take m ++ Y.drop (m + 1)).length ≤ n - 1 by omega), List.set_append_right _ _ (by omega), List.take_left' e]
end Go.Proofs.YtjiljnfiofmpaaaGreatDoor.Recs

/- slices.DeleteFunc over what is directly below a branch, with the program's test of a part (remove). -/

namespace Go.Proofs.YtjiljnfiofmpaaaGreatDoor.Recs
set_option maxRecDepth 100000
open Go.RowKit Paths

/-- What the test wants of a world: the part of a branch, the parts of the path, the place of the last. -/
theorem del_test (a pc lc g N cap : Nat) (p x : ByteArray) (w : World) (hN : 1 ≤ N) (hN4 : N ≤ 4) (h0 : w.cell? ⟨a, 0, none⟩ = some (.string p)) (h1 : w.cell? ⟨pc, 0, none⟩ = some (.slice (some ⟨g, 0, none⟩) N cap)) (h2 : w.cell? ⟨lc, 0, none⟩ = some (.int .i64 ((N : Int) - 1))) (h3 : w.cell? ⟨g, N - 1, none⟩ = some (.string x)) :
    Calls Tryz.prog 138 #[ptr a, ptr pc, ptr lc] w fun e w' => e = .returned (.bool (p.toList == x.toList)) ∧ ∃ n, w' = w.drewN n := by
  unfold ptr
  have e1 : (N : Int) - 1 = ((N - 1 : Nat) : Int) := by omega
  rw [e1] at h2
  have hi0 : (0 : Int) ≤ ((N - 1 : Nat) : Int) := by omega
  have hi1 : ((N - 1 : Nat) : Int) < (N : Int) := by omega
  clear e1
  go_enter Tryz.func138, Tryz.ntmps138
  go_wp2
  go_quiet (fail)
  go_wp2
  go_ret
  exact ⟨rfl, _, rfl⟩

section
variable {base g n cap : Nat} {A : ByteArray → Nat} {K : List R} {P : R → Bool} {cp cl : Value}
set_option maxHeartbeats 800000 in
theorem indexB_any (w : World) (hown : w.ownsRow base 83 1 (.slice (some ⟨g, 0, none⟩) n cap) n (ptrs A K)) (hn : K.length = n) (hl : n ≤ 1000)
    (HF : ∀ i (hi : i < K.length) w', w.grownBy w' (some g) → Calls Tryz.prog 138 #[ptr (A K[i].p), cp, cl] w' fun e w'' => e = .returned (.bool (P K[i])) ∧ ∃ q, w'' = w'.drewN q) :
    Calls Tryz.prog 165 #[.slice (some ⟨g, 0, none⟩) n cap, .func (.func 138) #[] #[cp, cl]] w fun e w' => e = .returned (.int .i64 (idxFrom P K 0)) ∧ ∃ q, w' = w.drewN q := by
  have HC : Hid (∀ k (hk : k < K.length), w.cell? ⟨g, k, none⟩ = some (.pointer (some ⟨A K[k].p, 0, none⟩))) := fun k hk => by
    rw [hown.cellAt k (by omega)]
    unfold ptrs
    rw [List.getElem?_map, List.getElem?_eq_getElem hk]
    rfl
  have HFh := Lib.hid HF
  clear HF hown
  subst hn
  go_enter Tryz.func165, Tryz.ntmps165
  go_wp2
  go_loopw [8] (fun i wr => ∃ k q : Nat, k ≤ K.length ∧ i = .int .i64 k ∧ Hid (idxFrom P K 0 = idxFrom P (K.drop k) k) ∧ wr = w.drewN q) (fun i _ => K.length - (intOf i).toNat)
  case atStart => exact ⟨0, 0, by omega, rfl, rfl, rfl⟩
  case round =>
    obtain ⟨k, q, hk, rfl, HK, rfl⟩ := hrel
    by_cases hlt : k < K.length
    · have c0 : (w.drewN q).cell? ⟨g, k, none⟩ = some (.pointer (some ⟨A K[k].p, 0, none⟩)) := HC.out k hlt
      have HS := Lib.hid (HK.out.trans (idx_step hlt))
      have hi1 : (k : Int) < (K.length : Int) := by omega
      have hi0 : (0 : Int) ≤ (k : Int) := by omega
      have HT := HFh.out k hlt (w.drewN q) (grown_below (below_drewN (Below.refl _ _) q) _)
      unfold ptr at HT
      rcases Bool.eq_false_or_eq_true (P K[k]) with he | he
      · have HE : Hid (idxFrom P K 0 = k) := by show _ = _; rw [HS.out, if_pos he]
        go_wp2_with (go_at_call 138; refine HT.mono ?_; rintro e w1 ⟨rfl, q1, rfl⟩)
        go_ret
        exact ⟨ret_int HE.out.symm, q + q1, rfl⟩
      · have HE : Hid (idxFrom P K 0 = idxFrom P (K.drop (k + 1)) (k + 1)) := by show _ = _; rw [HS.out, if_neg (by rw [he]; decide)]
        go_wp2_with (go_at_call 138; refine HT.mono ?_; rintro e w1 ⟨rfl, q1, rfl⟩)
        exact ⟨⟨k + 1, q + q1, by omega, by go_num, HE, rfl⟩, by simp [intOf]; omega⟩
    · have HE := Lib.hid (HK.out.trans (idx_end (by omega)))
      go_wp2
      go_ret
      exact ⟨ret_int HE.out.symm, q, rfl⟩

theorem idx_only {P : R → Bool} {m : Nat} : ∀ (K : List R) (j : Nat) (_ : m < K.length), (∀ i (hi : i < K.length), P K[i] = decide (i = m)) → j ≤ m → idxFrom P (K.drop j) j = (m : Int) := by
  intro K j hm hP hj
  obtain ⟨d, hd⟩ : ∃ d, m - j = d := ⟨_, rfl⟩
  induction d generalizing j with
  | zero =>
    obtain rfl : j = m := by omega
    rw [idx_step hm, hP j hm]
    simp
  | succ d ih =>
    rw [idx_step (show j < K.length by omega), hP j (by omega), if_neg (by simp; omega)]
    exact ih (j + 1) (by omega) (by omega)
theorem zeroPtr : ∀ w, (zeroValue 83).run Tryz.prog w = .ok (.pointer none) w := fun w => by kernel_rfl

set_option maxHeartbeats 1600000 in
theorem deleteB_any (m : Nat) (w : World) (hown : w.ownsRow base 83 1 (.slice (some ⟨g, 0, none⟩) n cap) n (ptrs A K)) (hn : K.length = n) (hl : n ≤ 1000) (hcap : n ≤ cap) (hm : m < K.length) (hP : ∀ i (hi : i < K.length), P K[i] = decide (i = m))
    (HF : ∀ i (hi : i < K.length) w', w.grownBy w' (some g) → Calls Tryz.prog 138 #[ptr (A K[i].p), cp, cl] w' fun e w'' => e = .returned (.bool (P K[i])) ∧ ∃ q, w'' = w'.drewN q) :
    Calls Tryz.prog 137 #[.slice (some ⟨g, 0, none⟩) n cap, .func (.func 138) #[] #[cp, cl]] w fun e w' => e = .returned (.slice (some ⟨g, 0, none⟩) (n - 1) cap) ∧ w'.ownsRow base 83 1 (.slice (some ⟨g, 0, none⟩) (n - 1) cap) (n - 1) (ptrs A (K.take m ++ K.drop (m + 1))) ∧ w.grownBy w' (some g) := by
  have HI := indexB_any (base := base) w hown hn hl HF
  rw [show idxFrom P K 0 = (m : Int) from idx_only K 0 hm hP (Nat.zero_le _)] at HI
  have HFh := Lib.hid HF
  have HPh := Lib.hid hP
  have hY : (ptrs A K).length = n := by rw [ptrs_len, hn]
  have HYG : Hid (∀ k (hk : k < K.length), (ptrs A K)[k]? = some (.pointer (some ⟨A K[k].p, 0, none⟩))) := fun k hk => by
    unfold ptrs
    rw [List.getElem?_map, List.getElem?_eq_getElem hk]
    rfl
  have HE0 : Hid (ptrs A (K.take m ++ K.drop (m + 1)) = (ptrs A K).take m ++ (ptrs A K).drop (m + 1)) := by show _ = _; unfold ptrs; rw [List.map_append, List.map_take, List.map_drop]
  have HOWN := Lib.hid hown
  have hmn : m < n := by omega
  have hclr := fun (w' : World) (ty : TypeId) (o c : Nat) hc hf => Lib.run_clear_slice (P := Tryz.prog) w' 100 83 ty (.pointer none) Tryz.underlying100 zeroPtr rfl rfl g o 1 c (by decide) hc hf
  have HCLR := Lib.hid hclr
  clear HF hP hown hclr
  go_enter Tryz.func137, Tryz.ntmps137
  go_wp2_with fail
  refine HI.mono ?_
  rintro e w1 ⟨rfl, q1, rfl⟩
  have hm1 : ((m : Int) == -1) = false := by simp
  have hg1 : w.grownBy (w.drewN q1) (some g) := grown_below (below_drewN (Below.refl _ _) q1) _
  have hown1 : (w.drewN q1).ownsRow base 83 1 (.slice (some ⟨g, 0, none⟩) n cap) n (delRow (ptrs A K) m m) := by rw [del_start _ _ (by omega)]; exact own_below HOWN.out (below_drewN (Below.refl _ _) q1)
  generalize w.drewN q1 = W at *
  go_wp2_with fail
  go_loopw [5, 6] (fun i j wr => ∃ k : Nat, m ≤ k ∧ k < n ∧ i = .int .i64 k ∧ j = .int .i64 ((k : Int) + 1) ∧ wr.ownsRow base 83 1 (.slice (some ⟨g, 0, none⟩) n cap) n (delRow (ptrs A K) m k) ∧ w.grownBy wr (some g)) (fun i _ _ => n - (intOf i).toNat)
  case atStart => exact ⟨m, Nat.le_refl _, hmn, rfl, by go_num, hown1, hg1⟩
  case round =>
    obtain ⟨k, hmk, hkn, rfl, rfl, hownr, hgr⟩ := hrel
    by_cases hlt : k + 1 < n
    · have hkK : k + 1 < K.length := by omega
      have c0 : wr.cell? ⟨g, k + 1, none⟩ = some (.pointer (some ⟨A K[k + 1].p, 0, none⟩)) := by
        rw [hownr.cellAt (k + 1) (by omega), del_get _ (by omega) (by omega), HYG.out (k + 1) hkK]
      have HT := HFh.out (k + 1) hkK wr hgr
      rw [HPh.out (k + 1) hkK, decide_eq_false (show ¬ k + 1 = m by omega)] at HT
      have HST : Hid (∀ w9, wr.grownBy w9 (some g) → w9.ownsRow base 83 1 (.slice (some ⟨g, 0, none⟩) n cap) n (delRow (ptrs A K) m k) → (w9.setCell ⟨g, k, none⟩ (.pointer (some ⟨A K[k + 1].p, 0, none⟩))).ownsRow base 83 1 (.slice (some ⟨g, 0, none⟩) n cap) n (delRow (ptrs A K) m (k + 1)) ∧ w.grownBy (w9.setCell ⟨g, k, none⟩ (.pointer (some ⟨A K[k + 1].p, 0, none⟩))) (some g)) := by
        intro w9 hg9 ho9
        obtain ⟨s1, s2⟩ := ho9.stored k (.pointer (some ⟨A K[k + 1].p, 0, none⟩))
        have e1 := del_step (ptrs A K) hmk (by omega)
        have e2 : (ptrs A K)[k + 1]'(by omega) = .pointer (some ⟨A K[k + 1].p, 0, none⟩) := by
          have := HYG.out (k + 1) hkK
          rw [List.getElem?_eq_getElem (by omega)] at this
          exact Option.some.inj this
        rw [e2] at e1
        rw [e1] at s1
        exact ⟨s1, grown_trans (grown_trans hgr hg9) s2⟩
      have hi1 : (k : Int) + 1 < (n : Int) := by omega
      have hi0 : (0 : Int) ≤ (k : Int) + 1 := by omega
      have hj1 : (k : Int) < (n : Int) := by omega
      have hj0 : (0 : Int) ≤ (k : Int) := by omega
      unfold ptr at HT
      go_wp2_with fail
      refine HT.mono ?_
      rintro e w2 ⟨rfl, q2, rfl⟩
      have hb2 : Below wr.heap.size wr (wr.drewN q2) := below_drewN (Below.refl _ _) q2
      have hown2 := own_below hownr hb2
      have HS2 := Lib.hid (HST.out _ (grown_below hb2 _) hown2)
      have d0 := hown2.cellAt k (by omega)
      have hf0 := hown2.frozenAt k
      have hdl : k < (delRow (ptrs A K) m k).length := by rw [del_len _ (by omega) (by omega)]; omega
      rw [List.getElem?_eq_getElem hdl] at d0
      generalize (delRow (ptrs A K) m k)[k] = ov at d0
      generalize wr.drewN q2 = w2 at *
      go_wp2_with fail
      exact ⟨⟨k + 1, by omega, hlt, by go_num, by go_num, HS2.out.1, HS2.out.2⟩, by simp [intOf]; omega⟩
    · obtain rfl : n = k + 1 := by omega
      have hi1 : ¬ ((k : Int) + 1 < ((k + 1 : Nat) : Int)) := by omega
      have d0 := hownr.cellAt k (by omega)
      have hf0 := hownr.frozenAt k
      have hdl : k < (delRow (ptrs A K) m k).length := by rw [del_len _ (by omega) (by omega)]; omega
      rw [List.getElem?_eq_getElem hdl] at d0
      have hcl : ∀ ty c, (Builtin.clear_ #[100] ty #[.slice (some ⟨g, k, none⟩) 1 c]).run Tryz.prog wr = .ok (.tuple #[]) (wr.setCell ⟨g, k, none⟩ (.pointer none)) := fun ty c => HCLR.out wr ty k c (fun j hj => by obtain rfl : j = 0 := (by omega); rw [Nat.add_zero, d0]; rfl) (fun j hj => by obtain rfl : j = 0 := (by omega); exact hf0)
      obtain ⟨s1, s2⟩ := hownr.stored k (.pointer none)
      have s3 := own_short s1 (m := k) (by omega)
      have e1 := del_end (ptrs A K) (m := m) (n := k + 1) (by omega) hY (.pointer none)
      simp only [Nat.add_sub_cancel] at e1
      rw [e1, ← HE0.out] at s3
      have HS3 := Lib.hid s3
      have HG3 := Lib.hid (grown_trans hgr s2)
      have hk0 : (0 : Int) ≤ (k : Int) := by omega
      have hk1 : (k : Int) ≤ ((k + 1 : Nat) : Int) := by omega
      have hk2 : (k : Int) ≤ (cap : Int) := by omega
      have hsub : k + 1 - k = 1 := by omega
      clear s1 s2 s3 e1 d0 hf0 hdl hownr
      go_wp2_with fail
      go_ret
      exact ⟨rfl, HS3.out, HG3.out⟩
end
end Go.Proofs.YtjiljnfiofmpaaaGreatDoor.Recs

/- A tree in memory: remove, of the program. -/

namespace Go.Proofs.YtjiljnfiofmpaaaGreatDoor.Recs
set_option maxRecDepth 100000
open Go.RowKit Paths

theorem str_eq_dec (a b : ByteArray) : (a.toList == b.toList) = decide (a = b) := by
  by_cases h : a = b
  · subst h; simp
  · rw [decide_eq_false h, Bool.eq_false_iff]
    exact fun e => h (str_eq_of e)
theorem filter_one {K : List R} {f : R → Bool} {m : Nat} (hm : m < K.length) (h : ∀ i (hi : i < K.length), f K[i] = decide (i = m)) : K.filter (fun c => !f c) = K.take m ++ K.drop (m + 1) := by
  conv => lhs; rw [← List.take_append_drop m K, List.drop_eq_getElem_cons hm]
  rw [List.filter_append, List.filter_cons_of_neg (by rw [h m hm]; simp)]
  congr 1
  · rw [List.filter_eq_self]
    intro c hc
    obtain ⟨i, hi, rfl⟩ := List.mem_take_iff_getElem.1 hc
    rw [h i (by omega)]
    simp
    omega
  · rw [List.filter_eq_self]
    intro c hc
    obtain ⟨i, hi, rfl⟩ := List.mem_drop_iff_getElem.1 hc
    rw [h (m + 1 + i) (by omega)]
    simp
    omega
/-- The place of a node among those directly below its parent, and that no other has its last part. -/
theorem kid_place {t : List R} (ht : IsTree t) {r : R} (hr : r ∈ t) {p : ByteArray} (hp : parO r.p = p) : ∃ m, ∃ hm : m < (kids t p).length, (kids t p)[m] = r ∧ ∀ i (hi : i < (kids t p).length), ((lastB (kids t p)[i].p).toList == (lastB r.p).toList) = decide (i = m) := by
  obtain ⟨m, hm, e⟩ := List.getElem_of_mem (mem_kids.2 ⟨hr, hp⟩ : r ∈ kids t p)
  refine ⟨m, hm, e, fun i hi => ?_⟩
  rw [str_eq_dec]
  by_cases him : i = m
  · subst him; rw [e]; simp
  · rw [decide_eq_false him, decide_eq_false]
    intro hl
    obtain ⟨h1, h2⟩ := mem_kids.1 (List.getElem_mem hi)
    have hpp := path_two (ht.path _ h1) (ht.path r hr) (h2.trans hp.symm) hl
    exact him (sorted_once (kids_sorted ht.sorted p) hi hm (by rw [e]; exact hpp))
theorem parent_of {t : List R} (ht : IsTree t) {q : ByteArray} (hq : pathB q.data.toList = true) {r : R} (hr : recAt t q = some r) : ∃ x ∈ rootR :: t, x.p = parO q ∧ (parO q ≠ ByteArray.empty → (findT t (parO q)).2 = 0) := by
  by_cases hp : parO q = ByteArray.empty
  · exact ⟨rootR, root_mem, hp.symm, fun h => absurd hp h⟩
  · obtain ⟨x, hx, _⟩ := dir_up ht hr (a := parO q) (by rw [ups_of_par hq hp]; exact List.mem_cons_self ..)
    exact ⟨x, List.mem_cons_of_mem _ (recAt_mem hx).1, (recAt_mem hx).2, fun _ => findT_zero.2 (by rw [hx]; rfl)⟩
theorem two_new (w0 : World) (a b : Obj) : ((w0.alloc a).alloc b).heap[w0.heap.size]? = some a ∧ ((w0.alloc a).alloc b).heap[w0.heap.size + 1]? = some b := by
  have h1 := alloc_at (w0.alloc a) b
  rw [World.size_alloc] at h1
  refine ⟨?_, h1⟩
  rw [Below.heap_alloc _ _ _ (by simp)]
  exact alloc_at w0 a
theorem types_rm1 : (83 : TypeId) ≠ 36 := by decide
theorem types_rm2 : (83 : TypeId) ≠ 3 := by decide
theorem types_rm3 : (83 : TypeId) ≠ 9 := by decide

theorem cut_lastR {p : ByteArray} {w : World} {g : Nat} (h : ∀ i (hi : i < (cutAt 47 p.data.toList).length), w.cell? ⟨g, i, none⟩ = some (strV (cutAt 47 p.data.toList)[i])) : w.cell? ⟨g, (cutAt 47 p.data.toList).length - 1, none⟩ = some (.string (lastB p)) := by
  have hp := cutAt_pos 47 p.data.toList
  rw [h _ (by omega), last_cell hp]
def remC (t : List R) (q : ByteArray) : Int := if pathB q.data.toList then (findT t q).2 else 10
def RemPost (base : Nat) (A : ByteArray → Nat) (t : List R) (q : ByteArray) (w : World) (e : Ending) (w' : World) : Prop :=
  e = .returned (.int .i64 (remC t q)) ∧ (∃ S', Tr w' base A S' (if remC t q = 0 then withoutL t q true else t)) ∧ Below base w w'
theorem rem_stay {base : Nat} {A : ByteArray → Nat} {S : ByteArray → Value} {t : List R} {q : ByteArray} {w w' : World} {c : Int} (hc : remC t q = c) (h0 : c ≠ 0) (h : Tr w base A S t) (hb : Below w.heap.size w w') (hbase : base ≤ w.heap.size) : RemPost base A t q w (.returned (.int .i64 c)) w' := by
  refine ⟨by rw [hc], ⟨S, ?_⟩, hb.mono hbase⟩
  rw [if_neg (by rw [hc]; exact h0)]
  exact h.below hb

set_option maxHeartbeats 3200000 in
theorem remove_any {w : World} {base : Nat} {A : ByteArray → Nat} {S : ByteArray → Value} {t : List R} (h : Tr w base A S t) (ht : IsTree t) (hl : t.length ≤ 1000) (q : ByteArray) (hqm : q.size ≤ maxLen) :
    Calls Tryz.prog 80 #[ptr (A ByteArray.empty), .string q] w (RemPost base A t q w) := by
  have hwb : base ≤ w.heap.size := Nat.le_of_lt (Nat.lt_of_le_of_lt (h.own _ root_mem) (h.lt root_mem))
  have HR := resolvePath_any h ht (by omega) q hqm
  have HTr := Lib.hid h
  have HIT := Lib.hid ht
  unfold resP at HR
  unfold ptr at HR ⊢
  cases hp : pathB q.data.toList with
  | false =>
    have HE : Hid (remC t q = 10) := by show _ = _; unfold remC; rw [hp]; rfl
    rw [hp] at HR
    clear h ht
    go_enter Tryz.func80, Tryz.ntmps80
    go_wp2_with fail
    refine HR.mono ?_
    rintro e w1 ⟨rfl, hb1⟩
    go_wp2_with fail
    go_ret
    exact rem_stay HE.out (by decide) HTr.out hb1 hwb
  | true =>
    rw [hp, if_pos rfl] at HR
    unfold resV at HR
    have HC : Hid (remC t q = (findT t q).2) := by show _ = _; unfold remC; rw [hp, if_pos rfl]
    cases hra : recAt t q with
    | none =>
      have e2 : (findT t q).2 ≠ 0 := fun e => by have := findT_zero.1 e; rw [hra] at this; cases this
      have hd : ((findT t q).2 != 0) = true := by simpa using e2
      rw [if_neg e2] at HR
      have H2 := Lib.hid e2
      clear e2 h ht
      generalize (findT t q).2 = c at *
      go_enter Tryz.func80, Tryz.ntmps80
      go_wp2_with fail
      refine HR.mono ?_
      rintro e w1 ⟨rfl, hb1⟩
      go_wp2_with fail
      go_ret
      exact rem_stay HC.out H2.out HTr.out hb1 hwb
    | some r =>
      have e2 : (findT t q).2 = 0 := findT_zero.2 (by rw [hra]; rfl)
      rw [e2, if_pos rfl] at HR
      rw [e2] at HC
      obtain ⟨hrm, hrp⟩ := recAt_mem hra
      obtain ⟨x, hx, hxp, hxf⟩ := parent_of ht hp hra
      obtain ⟨m, hm, _, hP⟩ := kid_place ht hrm (p := x.p) (by rw [hrp, hxp])
      rw [hrp] at hP
      have HX := Lib.hid hx
      have HXP := Lib.hid hxp
      have HXF := Lib.hid hxf
      have HM := Lib.hid hP
      have hN1 := cutAt_pos 47 q.data.toList
      have hN4 := (pathB_parts hp).1
      have hkl : (kids t x.p).length ≤ 1000 := Nat.le_trans (List.length_filter_le _ _) hl
      have HKB : Hid (kidsBut t x.p q = (kids t x.p).take m ++ (kids t x.p).drop (m + 1)) := by
        show _ = _
        unfold kidsBut
        refine filter_one (f := fun c => decide (lastB c.p = lastB q)) hm (fun i hi => ?_)
        have := hP i hi
        rw [str_eq_dec] at this
        exact this
      clear e2 h ht hx hxp hxf hP hrm hrp hra
      go_enter Tryz.func80, Tryz.ntmps80
      go_wp2_with fail
      refine HR.mono ?_
      rintro e w1 ⟨rfl, hb1⟩
      go_wp2_with fail
      refine (splitPath_any q _ hqm).mono ?_
      rintro e w2 ⟨v, rfl, hb2, ho, -, hnn⟩
      rw [partsOf_yes hp] at ho
      have hv := part_sl ho
      obtain ⟨g2, pcap, rfl, hgl2, hpc, hpm⟩ := own_some ho (hnn hp)
      obtain ⟨_, _, e1, _, hpv0⟩ := hv
      cases e1
      obtain ⟨g', e2, _, hpv⟩ := hpv0 (by omega)
      cases e2
      have cL := cut_lastR hpv
      have c2 := hb1.trans (hb2.mono hb1.size)
      have HPV : Hid (PartSl w2 (.slice (some ⟨g2, 0, none⟩) (cutAt 47 q.data.toList).length pcap) (cutAt 47 q.data.toList)) := part_sl ho
      have HOS := Lib.hid ho
      clear hpv hpv0 hnn ho
      have hb4 : Below w2.heap.size w2 ((w2.alloc (.cells #[.slice (some ⟨g2, 0, none⟩) (cutAt 47 q.data.toList).length pcap] 36)).alloc (.cells #[.int .i64 (((cutAt 47 q.data.toList).length : Int) - 1)] 3)) := ((Below.refl _ _).alloc (Nat.le_refl _) _).alloc (by simp) _
      obtain ⟨n1, n2⟩ := two_new w2 (.cells #[.slice (some ⟨g2, 0, none⟩) (cutAt 47 q.data.toList).length pcap] 36) (.cells #[.int .i64 (((cutAt 47 q.data.toList).length : Int) - 1)] 3)
      have c4 := c2.trans (hb4.mono c2.size)
      have hT4 := HTr.out.below c4
      obtain ⟨_, _, _, _, _, k5⟩ := hT4.cells HX.out
      obtain ⟨sA, cap, hS, hcap, hkk⟩ := hT4.kid HX.out
      have hf5 := hT4.frozen HX.out 5
      obtain ⟨g, rfl, hgl, _⟩ := hkk (by omega)
      have hrow := hT4.row x HX.out
      have hngA := fun (c : R) (hc : c ∈ rootR :: t) => hT4.apart_row hc HX.out
      rw [hS] at hrow k5 hngA
      have hgb : base ≤ g := (hrow.lt g rfl).1
      have hn1 := own_not hrow types_rm1 n1
      have hn2 := own_not hrow types_rm2 n2
      have hn3 : (Value.slice (some ⟨g, 0, none⟩) (kids t x.p).length cap).ownBlock ≠ some g2 := by
        obtain ⟨cur, hcur⟩ := own_type HOS.out (g := g2) rfl
        exact own_not hrow types_rm3 ((hb4.block _ hgl2).trans hcur)
      have HDEL := deleteB_any (base := base) (g := g) (n := (kids t x.p).length) (cap := cap) (A := A) (K := kids t x.p) (P := fun c => (lastB c.p).toList == (lastB q).toList) (cp := ptr w2.heap.size) (cl := ptr (w2.heap.size + 1)) m _ hrow rfl hkl hcap hm HM.out (by
        intro i hi w' hg'
        have hci := kid_mem (List.getElem_mem hi)
        have b0 := (hg'.block _ (hT4.lt hci) (fun e => hngA _ hci e.symm)).trans (hT4.block _ hci)
        have b1 := (hg'.block _ (Array.getElem?_eq_some_iff.1 n1).1 (fun e => hn1 e.symm)).trans n1
        have b2 := (hg'.block _ (Array.getElem?_eq_some_iff.1 n2).1 (fun e => hn2 e.symm)).trans n2
        have b3 := hg'.block g2 (Nat.lt_of_lt_of_le hgl2 hb4.size) (fun e => hn3 e.symm)
        rw [hb4.block _ hgl2] at b3
        refine del_test (A (kids t x.p)[i].p) w2.heap.size (w2.heap.size + 1) g2 _ pcap _ (lastB q) w' hN1 hN4 ?_ (block_cell b1).1 (block_cell b2).1 ?_
        · unfold World.cell?
          simp only [b0]
          rfl
        · exact (World.cell?_of_block (a := ⟨g2, (cutAt 47 q.data.toList).length - 1, none⟩) b3).trans cL)
      have HFIN : Hid (∀ w9, w9.ownsRow base 83 1 (.slice (some ⟨g, 0, none⟩) ((kids t x.p).length - 1) cap) ((kids t x.p).length - 1) (ptrs A ((kids t x.p).take m ++ (kids t x.p).drop (m + 1))) →
          ((w2.alloc (.cells #[.slice (some ⟨g2, 0, none⟩) (cutAt 47 q.data.toList).length pcap] 36)).alloc (.cells #[.int .i64 (((cutAt 47 q.data.toList).length : Int) - 1)] 3)).grownBy w9 (some g) →
          RemPost base A t q w (.returned (.int .i64 0)) (w9.setCell ⟨A x.p, 5, none⟩ (.slice (some ⟨g, 0, none⟩) ((kids t x.p).length - 1) cap)) ∧ w9.cell? ⟨A x.p, 5, none⟩ = some (.slice (some ⟨g, 0, none⟩) (kids t x.p).length cap) ∧ w9.frozen? ⟨A x.p, 5, none⟩ = false) := by
        intro w9 ho9 hg9
        have hlen : (kidsBut t x.p q).length = (kids t x.p).length - 1 := by
          rw [HKB.out, List.length_append, List.length_take, List.length_drop]
          omega
        have hcut := Tr.cut (q := q) hT4 HIT.out hp HX.out HXP.out (v' := .slice (some ⟨g, 0, none⟩) ((kids t x.p).length - 1) cap) (by rw [hlen, HKB.out]; exact ho9) (by rw [hS]; exact hg9) (by rw [hS]; rfl)
        have hb9 := hg9.block _ (hT4.lt HX.out) (fun e => hngA _ HX.out e.symm)
        refine ⟨⟨by rw [HC.out], ⟨_, by rw [if_pos HC.out]; exact hcut⟩, ?_⟩, (World.cell?_of_block (a := ⟨A x.p, 5, none⟩) hb9).trans k5, (World.frozen?_of_block (a := ⟨A x.p, 5, none⟩) hb9).trans hf5⟩
        exact ((c4.mono hwb).grown hg9 (Nat.le_trans hwb c4.size) (fun j hj => by cases hj; exact hgb)).setCell (hT4.own _ HX.out) _
      have HRES : Calls Tryz.prog 128 #[.pointer (some ⟨A ByteArray.empty, 0, none⟩), .slice (some ⟨g2, 0, none⟩) ((cutAt 47 q.data.toList).length - 1) pcap] ((w2.alloc (.cells #[.slice (some ⟨g2, 0, none⟩) (cutAt 47 q.data.toList).length pcap] 36)).alloc (.cells #[.int .i64 (((cutAt 47 q.data.toList).length : Int) - 1)] 3)) fun e w' => e = .returned (.tuple #[.pointer (some ⟨A x.p, 0, none⟩), .int .i64 0]) ∧ ((w2.alloc (.cells #[.slice (some ⟨g2, 0, none⟩) (cutAt 47 q.data.toList).length pcap] 36)).alloc (.cells #[.int .i64 (((cutAt 47 q.data.toList).length : Int) - 1)] 3)) = w' := by
        by_cases hpe : parO q = ByteArray.empty
        · have hone := cut_one hp hpe
          rw [HXP.out, hpe]
          have hps : PartSl ((w2.alloc (.cells #[.slice (some ⟨g2, 0, none⟩) (cutAt 47 q.data.toList).length pcap] 36)).alloc (.cells #[.int .i64 (((cutAt 47 q.data.toList).length : Int) - 1)] 3)) (.slice (some ⟨g2, 0, none⟩) ((cutAt 47 q.data.toList).length - 1) pcap) [] := ⟨some ⟨g2, 0, none⟩, pcap, by rw [hone]; rfl, Nat.zero_le _, fun h => by cases h⟩
          have := resolve_none (A ByteArray.empty) _ hps
          unfold ptr at this
          exact this
        · obtain ⟨hpp, hcut⟩ := cut_parO hp hpe
          have hvt : PartSl ((w2.alloc (.cells #[.slice (some ⟨g2, 0, none⟩) (cutAt 47 q.data.toList).length pcap] 36)).alloc (.cells #[.int .i64 (((cutAt 47 q.data.toList).length : Int) - 1)] 3)) (.slice (some ⟨g2, 0, none⟩) ((cutAt 47 q.data.toList).length - 1) pcap) (cutAt 47 (parO q).data.toList) := by
            rw [hcut]
            exact (HPV.out.below hb4).take (by omega)
          refine (resolve_any hT4 HIT.out (by omega) _ hpp hvt).mono ?_
          rintro e w' ⟨rfl, rfl⟩
          refine ⟨?_, rfl⟩
          unfold resV
          rw [HXF.out hpe, HXP.out]
          rfl
      have f1 := (block_cell n1).1
      have f2 := (block_cell n2).1
      have hw1 : IntKind.i64.wrap (((cutAt 47 q.data.toList).length : Int) - 1) = ((cutAt 47 q.data.toList).length : Int) - 1 := by rw [IntKind.wrap_i64]; omega
      have hi0 : (0 : Int) ≤ ((cutAt 47 q.data.toList).length : Int) - 1 := by omega
      have hi1 : ((cutAt 47 q.data.toList).length : Int) - 1 ≤ (pcap : Int) := by omega
      have hto : (((cutAt 47 q.data.toList).length : Int) - 1).toNat = (cutAt 47 q.data.toList).length - 1 := by omega
      have HB4 := Lib.hid hb4
      unfold ptr at HDEL
      clear hb4 hT4 hrow hngA hn1 hn2 hn3 n1 n2 hkk hS hb1 hb2
      generalize hL : (cutAt 47 q.data.toList).length = L at *
      go_wp2_with fail
      refine HRES.mono ?_
      rintro e w5 ⟨rfl, rfl⟩
      go_wp2_with fail
      refine HDEL.mono ?_
      rintro e w9 ⟨rfl, ho9, hg9⟩
      obtain ⟨hRP, hc9, hf9⟩ := HFIN.out w9 ho9 hg9
      have HRP := Lib.hid hRP
      clear ho9 hg9 hRP
      go_wp2_with fail
      go_ret
      exact HRP.out
end Go.Proofs.YtjiljnfiofmpaaaGreatDoor.Recs
