/- Several texts of mine in one file (each begins with its own remark). -/
import Derived.Test.YtjiljnfiofmpaaaGreatDoorBun12
import Derived.Test.YtjiljnfiofmpaaaGreatDoorBun13
import Derived.Test.YtjiljnfiofmpaaaGreatDoorBun10
import Derived.StillTailTactics
import Derived.Laws.EntriesVeiled
import Derived.Deep.AppendLies
import Derived.Deep.RegionLaw
/- A tree in memory: every node of it, one after the other, handed to a function value (each). -/

namespace Go.Proofs.YtjiljnfiofmpaaaGreatDoor.Recs
set_option maxRecDepth 100000
open Go.RowKit Paths

/-- The function value that visits. -/
def visV (dc vc : Nat) : Value := .func (.func 139) #[] #[ptr dc, ptr vc]
/-- What a function value that takes nodes must keep: the tree, the cells of the two function values; each node that it takes is one more. -/
structure Walker (Inv : List R → World → Prop) (base : Nat) (A : ByteArray → Nat) (S : ByteArray → Value) (t : List R) (dc vc : Nat) (F : FuncId) (c : Value) : Prop where
  tr : ∀ acc w, Inv acc w → Tr w base A S t
  cd : ∀ acc w, Inv acc w → w.cell? ⟨dc, 0, none⟩ = some (.func (.func F) #[] #[c])
  cv : ∀ acc w, Inv acc w → w.cell? ⟨vc, 0, none⟩ = some (visV dc vc)
  drew : ∀ acc w, Inv acc w → Inv acc w.drew
  step : ∀ acc w r, r ∈ t → acc.length < t.length → Inv acc w → Calls Tryz.prog F #[r.nod, c] w fun e w' => (∃ v, e = .returned v) ∧ Inv (acc ++ [r]) w'
theorem deep_dom {t : List R} (ht : IsTree t) {r : R} (hr : r ∈ rootR :: t) : deep r.p ≤ 4 := by
  rcases List.mem_cons.1 hr with rfl | hr
  · unfold deep; rw [if_pos rootR_p]; omega
  · exact (deep_kid (ht.path r hr)).2
theorem all_sub {t : List R} (ht : IsTree t) {c : R} (hc : c ∈ t) : allT t c.p = subT t c.p := if_neg (path_nonempty (ht.path c hc))
theorem all_root (t : List R) : allT t ByteArray.empty = t := if_pos rfl
/-- What has been visited before the k-th of those directly below. -/
def upto (t : List R) (K : List R) (k : Nat) : List R := (K.take k).flatMap fun c => c :: subT t c.p
theorem upto_zero (t K : List R) : upto t K 0 = [] := rfl
theorem upto_step {t K : List R} {k : Nat} (hk : k < K.length) : upto t K (k + 1) = upto t K k ++ [K[k]] ++ subT t K[k].p := by
  unfold upto
  rw [List.take_add_one, List.getElem?_eq_getElem hk, List.flatMap_append]
  simp
theorem upto_end {t : List R} (ht : IsTree t) (p : ByteArray) {k : Nat} (hk : (kids t p).length ≤ k) : upto t (kids t p) k = allT t p := by
  unfold upto
  rw [List.take_of_length_le hk, all_kids ht]
theorem all_len {t : List R} (p : ByteArray) : (allT t p).length ≤ t.length := by
  unfold allT
  split
  · exact Nat.le_refl _
  · exact List.length_filter_le _ _
theorem upto_len {t K : List R} (k : Nat) : (upto t K k).length ≤ (upto t K K.length).length := by
  have e : upto t K K.length = upto t K k ++ (K.drop k).flatMap fun c => c :: subT t c.p := by
    unfold upto
    rw [← List.flatMap_append, List.take_append_drop, List.take_length]
  rw [e, List.length_append]
  omega

set_option maxHeartbeats 1600000 in
theorem visitN_any {Inv : List R → World → Prop} {base : Nat} {A : ByteArray → Nat} {S : ByteArray → Value} {t : List R} {dc vc : Nat} {c : Value} (W : Walker Inv base A S t dc vc 130 c) (ht : IsTree t) (hl : t.length ≤ 1000) :
    ∀ n r, r ∈ rootR :: t → 5 ≤ deep r.p + n → ∀ acc w, Inv acc w → acc.length + (allT t r.p).length ≤ t.length →
      Calls Tryz.prog 139 #[ptr (A r.p), ptr dc, ptr vc] w fun e w' => (∃ v, e = .returned v) ∧ Inv (acc ++ allT t r.p) w' := by
  intro n
  induction n with
  | zero =>
    intro r hr hd
    have := deep_dom ht hr
    omega
  | succ n ih =>
    intro r hr hd acc w hI hlen
    obtain ⟨_, _, _, _, _, c5⟩ := (W.tr _ _ hI).cells hr
    obtain ⟨sA, cap, hS, hcap, _⟩ := (W.tr _ _ hI).kid hr
    have HKC : Hid (∀ acc' wr, Inv acc' wr → 0 < (kids t r.p).length → ∃ g, sA = some ⟨g, 0, none⟩ ∧ ∀ i (hi : i < (kids t r.p).length), wr.cell? ⟨g, i, none⟩ = some (ptr (A (kids t r.p)[i].p))) := by
      intro acc' wr hI' h0
      obtain ⟨sA', cap', hS', _, hk'⟩ := (W.tr _ _ hI').kid hr
      rw [hS] at hS'
      cases hS'
      obtain ⟨g, e, _, h3⟩ := hk' h0
      exact ⟨g, e, h3⟩
    rw [hS] at c5
    have hkl : (kids t r.p).length ≤ 1000 := Nat.le_trans (List.length_filter_le _ _) hl
    have HKD : Hid (∀ i (hi : i < (kids t r.p).length), (kids t r.p)[i] ∈ t ∧ 5 ≤ deep (kids t r.p)[i].p + n) := by
      intro i hi
      obtain ⟨h1, h2⟩ := mem_kids.1 (List.getElem_mem hi)
      have h3 := (deep_kid (ht.path _ h1)).1
      rw [h2] at h3
      exact ⟨h1, by omega⟩
    have HLE : Hid (∀ k, acc.length + (upto t (kids t r.p) k).length ≤ t.length) := by
      intro k
      have h1 := upto_len (t := t) (K := kids t r.p) k
      rw [upto_end ht r.p (Nat.le_refl _)] at h1
      omega
    have HFIN : Hid (∀ k, (kids t r.p).length ≤ k → upto t (kids t r.p) k = allT t r.p) := fun k hk => upto_end ht r.p hk
    have H0 : Hid (Inv (acc ++ upto t (kids t r.p) 0) w) := by rw [upto_zero, List.append_nil]; exact hI
    generalize hgo : allT t r.p = out at *
    generalize A r.p = a at *
    generalize kids t r.p = K at *
    clear hS hgo hI hlen hd hr
    unfold ptr
    go_enter Tryz.func139, Tryz.ntmps139
    go_wp2
    go_loopw [11] (fun i wr => ∃ k : Nat, k ≤ K.length ∧ i = .int .i64 k ∧ Hid (Inv (acc ++ upto t K k) wr)) (fun i _ => K.length - (intOf i).toNat)
    case atStart => exact ⟨0, by omega, rfl, H0⟩
    case round =>
      obtain ⟨k, hk, rfl, HI⟩ := hrel
      by_cases hlt : k < K.length
      · obtain ⟨g, rfl, hcell⟩ := HKC.out _ _ HI.out (by omega)
        have e1 := hcell k hlt
        obtain ⟨hm, hdk⟩ := HKD.out k hlt
        obtain ⟨_, d1, d2, d3, d4, _⟩ := (W.tr _ _ HI.out).cells (List.mem_cons_of_mem _ hm)
        have d0 := W.cd _ _ HI.out
        have hi1 : (k : Int) < (K.length : Int) := by omega
        have hi0 : (0 : Int) ≤ (k : Int) := by omega
        have hle := HLE.out (k + 1)
        rw [upto_step hlt] at hle
        simp only [List.length_append, List.length_cons, List.length_nil] at hle
        have HID := Lib.hid (W.drew _ _ HI.out)
        have HST := W.step (acc ++ upto t K k) wr.drew K[k] hm (by rw [List.length_append]; omega) HID.out
        have HUP := Lib.hid (upto_step (t := t) hlt)
        unfold R.nod at HST
        unfold ptr at e1
        clear hcell
        go_wp2_with fail
        go_still_tail 5, (by kernel_rfl)
        change wpList _ _ _ _ _ wr.drew
        clear d0 d1 d2 d3 d4 e1
        generalize wr.drew = W2 at *
        go_wp2_with fail
        refine HST.mono ?_
        rintro e w1 ⟨⟨v1, rfl⟩, hI1⟩
        have e2 := W.cv _ _ hI1
        have HRE := ih K[k] (List.mem_cons_of_mem _ hm) hdk _ w1 hI1 (by rw [all_sub ht hm]; simp only [List.length_append, List.length_cons, List.length_nil]; omega)
        unfold visV ptr at e2
        unfold ptr at HRE
        go_wp2_with fail
        refine HRE.mono ?_
        rintro e w2 ⟨⟨v2, rfl⟩, hI2⟩
        go_wp2_with fail
        refine ⟨⟨k + 1, by omega, by go_num, ?_⟩, by simp [intOf]; omega⟩
        show Inv _ _
        rw [HUP.out, ← all_sub ht hm]
        simpa [List.append_assoc] using hI2
      · have HE := Lib.hid (HFIN.out k (by omega))
        go_wp2
        go_end0
        exact ⟨⟨_, rfl⟩, by rw [← HE.out]; exact HI.out⟩
set_option maxHeartbeats 1600000 in
theorem visitR_any {Inv : List R → World → Prop} {base : Nat} {A : ByteArray → Nat} {S : ByteArray → Value} {t : List R} {dc vc : Nat} {c : Value} (W : Walker Inv base A S t dc vc 84 c) (ht : IsTree t) (hl : t.length ≤ 1000) :
    ∀ n r, r ∈ rootR :: t → 5 ≤ deep r.p + n → ∀ acc w, Inv acc w → acc.length + (allT t r.p).length ≤ t.length →
      Calls Tryz.prog 139 #[ptr (A r.p), ptr dc, ptr vc] w fun e w' => (∃ v, e = .returned v) ∧ Inv (acc ++ allT t r.p) w' := by
  intro n
  induction n with
  | zero =>
    intro r hr hd
    have := deep_dom ht hr
    omega
  | succ n ih =>
    intro r hr hd acc w hI hlen
    obtain ⟨_, _, _, _, _, c5⟩ := (W.tr _ _ hI).cells hr
    obtain ⟨sA, cap, hS, hcap, _⟩ := (W.tr _ _ hI).kid hr
    have HKC : Hid (∀ acc' wr, Inv acc' wr → 0 < (kids t r.p).length → ∃ g, sA = some ⟨g, 0, none⟩ ∧ ∀ i (hi : i < (kids t r.p).length), wr.cell? ⟨g, i, none⟩ = some (ptr (A (kids t r.p)[i].p))) := by
      intro acc' wr hI' h0
      obtain ⟨sA', cap', hS', _, hk'⟩ := (W.tr _ _ hI').kid hr
      rw [hS] at hS'
      cases hS'
      obtain ⟨g, e, _, h3⟩ := hk' h0
      exact ⟨g, e, h3⟩
    rw [hS] at c5
    have hkl : (kids t r.p).length ≤ 1000 := Nat.le_trans (List.length_filter_le _ _) hl
    have HKD : Hid (∀ i (hi : i < (kids t r.p).length), (kids t r.p)[i] ∈ t ∧ 5 ≤ deep (kids t r.p)[i].p + n) := by
      intro i hi
      obtain ⟨h1, h2⟩ := mem_kids.1 (List.getElem_mem hi)
      have h3 := (deep_kid (ht.path _ h1)).1
      rw [h2] at h3
      exact ⟨h1, by omega⟩
    have HLE : Hid (∀ k, acc.length + (upto t (kids t r.p) k).length ≤ t.length) := by
      intro k
      have h1 := upto_len (t := t) (K := kids t r.p) k
      rw [upto_end ht r.p (Nat.le_refl _)] at h1
      omega
    have HFIN : Hid (∀ k, (kids t r.p).length ≤ k → upto t (kids t r.p) k = allT t r.p) := fun k hk => upto_end ht r.p hk
    have H0 : Hid (Inv (acc ++ upto t (kids t r.p) 0) w) := by rw [upto_zero, List.append_nil]; exact hI
    generalize hgo : allT t r.p = out at *
    generalize A r.p = a at *
    generalize kids t r.p = K at *
    clear hS hgo hI hlen hd hr
    unfold ptr
    go_enter Tryz.func139, Tryz.ntmps139
    go_wp2
    go_loopw [11] (fun i wr => ∃ k : Nat, k ≤ K.length ∧ i = .int .i64 k ∧ Hid (Inv (acc ++ upto t K k) wr)) (fun i _ => K.length - (intOf i).toNat)
    case atStart => exact ⟨0, by omega, rfl, H0⟩
    case round =>
      obtain ⟨k, hk, rfl, HI⟩ := hrel
      by_cases hlt : k < K.length
      · obtain ⟨g, rfl, hcell⟩ := HKC.out _ _ HI.out (by omega)
        have e1 := hcell k hlt
        obtain ⟨hm, hdk⟩ := HKD.out k hlt
        obtain ⟨_, d1, d2, d3, d4, _⟩ := (W.tr _ _ HI.out).cells (List.mem_cons_of_mem _ hm)
        have d0 := W.cd _ _ HI.out
        have hi1 : (k : Int) < (K.length : Int) := by omega
        have hi0 : (0 : Int) ≤ (k : Int) := by omega
        have hle := HLE.out (k + 1)
        rw [upto_step hlt] at hle
        simp only [List.length_append, List.length_cons, List.length_nil] at hle
        have HID := Lib.hid (W.drew _ _ HI.out)
        have HST := W.step (acc ++ upto t K k) wr.drew K[k] hm (by rw [List.length_append]; omega) HID.out
        have HUP := Lib.hid (upto_step (t := t) hlt)
        unfold R.nod at HST
        unfold ptr at e1
        clear hcell
        go_wp2_with fail
        go_still_tail 5, (by kernel_rfl)
        change wpList _ _ _ _ _ wr.drew
        clear d0 d1 d2 d3 d4 e1
        generalize wr.drew = W2 at *
        go_wp2_with fail
        refine HST.mono ?_
        rintro e w1 ⟨⟨v1, rfl⟩, hI1⟩
        have e2 := W.cv _ _ hI1
        have HRE := ih K[k] (List.mem_cons_of_mem _ hm) hdk _ w1 hI1 (by rw [all_sub ht hm]; simp only [List.length_append, List.length_cons, List.length_nil]; omega)
        unfold visV ptr at e2
        unfold ptr at HRE
        go_wp2_with fail
        refine HRE.mono ?_
        rintro e w2 ⟨⟨v2, rfl⟩, hI2⟩
        go_wp2_with fail
        refine ⟨⟨k + 1, by omega, by go_num, ?_⟩, by simp [intOf]; omega⟩
        show Inv _ _
        rw [HUP.out, ← all_sub ht hm]
        simpa [List.append_assoc] using hI2
      · have HE := Lib.hid (HFIN.out k (by omega))
        go_wp2
        go_end0
        exact ⟨⟨_, rfl⟩, by rw [← HE.out]; exact HI.out⟩
end Go.Proofs.YtjiljnfiofmpaaaGreatDoor.Recs

/- A tree in memory: its nodes as a list, its nodes as records (nodes, of the program; what LayerOfTree hands to each). -/

namespace Go.Proofs.YtjiljnfiofmpaaaGreatDoor.Recs
set_option maxRecDepth 100000
open Go.RowKit Paths

theorem nodR_cells_new (w : World) (r : R) (t : TypeId) (j : Nat) (u : Value) (h : r.ns[j]? = some u) : (w.alloc (.cells #[.int .i64 r.k, .string r.p, .string r.b, .int .i64 r.m] t)).cell? ((⟨w.heap.size, 0, none⟩ : Addr).add j) = some u := by
  rw [Addr.add_lit]
  match j, h with
  | 0, h => cases h; go_simp
  | 1, h => cases h; go_simp
  | 2, h => cases h; go_simp
  | 3, h => cases h; go_simp
  | j + 4, h => simp [R.ns] at h
theorem nodR_one (r : R) : ∀ u ∈ r.ns, u.oneCell' = true := by
  intro u hu
  simp only [R.ns, List.mem_cons, List.not_mem_nil, or_false] at hu
  rcases hu with rfl | rfl | rfl | rfl <;> rfl
theorem flatN_snoc (M : List R) (r : R) : flatN (M ++ [r]) = flatN M ++ r.ns := by simp [flatN]
theorem rowN_snoc {w : World} {base : Nat} {v : Value} {M : List R} {r : R} (h : w.ownsRow base 29 4 v (M.length + 1) (flatN M ++ r.ns)) (hM : ∀ x ∈ M, x.o = false) (hr : r.o = false) : RowN w base v (M ++ [r]).length (M ++ [r]) :=
  ⟨rfl, by rw [flatN_snoc, List.length_append]; exact h, fun x hx => by
    rcases List.mem_append.1 hx with hx | hx
    · exact hM x hx
    · rw [List.mem_singleton.1 hx]; exact hr⟩
theorem typeN1 : (29 : TypeId) ≠ 92 := by decide
theorem typeN2 : (29 : TypeId) ≠ 154 := by decide
theorem typeN3 : (29 : TypeId) ≠ 23 := by decide
theorem typeR1 : (26 : TypeId) ≠ 92 := by decide
theorem typeR2 : (26 : TypeId) ≠ 154 := by decide
theorem typeR3 : (26 : TypeId) ≠ 45 := by decide
theorem own_not {w : World} {base : Nat} {e e' : TypeId} {size : Nat} {v : Value} {m : Nat} {xs : List Value} (h : w.ownsRow base e size v m xs) (he : e ≠ e') {g : Nat} {cur : Array Value} {fz : Nat × Nat} (hg : w.heap[g]? = some (.cells cur e' fz)) : v.ownBlock ≠ some g := fun e0 => by
  rcases h.2 with ⟨rfl, _⟩ | ⟨g', cap, cur', rfl, _, hh, _⟩
  · cases e0
  · cases e0
    rw [hg] at hh
    simp only [Option.some.injEq, Obj.cells.injEq] at hh
    exact he hh.2.1.symm

/-- While the nodes are gathered into a list of nodes: nothing below B turns, the list's variable holds the row, the two function values lie as they did. -/
structure Gath (w0 : World) (D : Value) (V : Value) (acc : List R) (w : World) : Prop where
  below : Below w0.heap.size w0 w
  list : ∃ v, w.heap[w0.heap.size]? = some (.cells #[v] 23 (0, 0)) ∧ RowN w w0.heap.size v acc.length acc
  cd : w.heap[w0.heap.size + 1]? = some (.cells #[D] 92 (0, 0))
  cv : w.heap[w0.heap.size + 2]? = some (.cells #[V] 154 (0, 0))
/-- The same, of records. -/
structure GathR (w0 : World) (D : Value) (V : Value) (acc : List R) (w : World) : Prop where
  below : Below w0.heap.size w0 w
  list : ∃ v, w.heap[w0.heap.size]? = some (.cells #[v] 45 (0, 0)) ∧ RowOf w w0.heap.size v acc.length acc
  cd : w.heap[w0.heap.size + 1]? = some (.cells #[D] 92 (0, 0))
  cv : w.heap[w0.heap.size + 2]? = some (.cells #[V] 154 (0, 0))
theorem block_cell {w : World} {g : Nat} {u : Value} {e : TypeId} (h : w.heap[g]? = some (.cells #[u] e (0, 0))) : w.cell? ⟨g, 0, none⟩ = some u ∧ w.frozen? ⟨g, 0, none⟩ = false := by
  constructor
  · unfold World.cell?; simp only [h]; rfl
  · unfold World.frozen?; simp only [h]; simp
theorem Gath.drew {w0 : World} {D V : Value} {acc : List R} {w : World} (h : Gath w0 D V acc w) : Gath w0 D V acc w.drew := by
  obtain ⟨h1, ⟨v, h2, h3⟩, h4, h5⟩ := h
  exact ⟨h1.drew, ⟨v, h2, h3.below (Below.refl _ _).drew⟩, h4, h5⟩
theorem GathR.drew {w0 : World} {D V : Value} {acc : List R} {w : World} (h : GathR w0 D V acc w) : GathR w0 D V acc w.drew := by
  obtain ⟨h1, ⟨v, h2, h3⟩, h4, h5⟩ := h
  exact ⟨h1.drew, ⟨v, h2, h3.below (Below.refl _ _).drew⟩, h4, h5⟩

set_option maxHeartbeats 1600000 in
theorem nodes1_any {w0 : World} {D V : Value} {acc : List R} {w : World} (r : R) (hro : r.o = false) (hacc : acc.length ≤ 1000) (h : Gath w0 D V acc w) :
    Calls Tryz.prog 130 #[r.nod, ptr w0.heap.size] w fun e w' => (∃ v, e = .returned v) ∧ Gath w0 D V (acc ++ [r]) w' := by
  obtain ⟨i0, hi, hI0, hI1, hI2⟩ := info_parts nodInfo
  obtain ⟨hb, ⟨v, hlist, hrow⟩, hcd, hcv⟩ := h
  have hlt : w0.heap.size < w.heap.size := (Array.getElem?_eq_some_iff.1 hlist).1
  have hlt1 : w0.heap.size + 1 < w.heap.size := (Array.getElem?_eq_some_iff.1 hcd).1
  have hlt2 : w0.heap.size + 2 < w.heap.size := (Array.getElem?_eq_some_iff.1 hcv).1
  obtain ⟨hc0, hf0⟩ := block_cell hlist
  have hbA : Below w.heap.size w (w.alloc (.cells #[.int .i64 r.k, .string r.p, .string r.b, .int .i64 r.m] 29)) := (Below.refl _ _).alloc (Nat.le_refl _) _
  have hbB : Below w.heap.size w ((w.alloc (.cells #[.int .i64 r.k, .string r.p, .string r.b, .int .i64 r.m] 29)).alloc (.cells #[.int .i64 r.k, .string r.p, .string r.b, .int .i64 r.m] 29)) := hbA.alloc (by simp) _
  have hr3 := (hrow.below hbB).2.1
  have hnews := nodR_cells_new (w.alloc (.cells #[.int .i64 r.k, .string r.p, .string r.b, .int .i64 r.m] 29)) r 29
  have hone := nodR_one r
  have hbz : w0.heap.size ≤ ((w.alloc (.cells #[.int .i64 r.k, .string r.p, .string r.b, .int .i64 r.m] 29)).alloc (.cells #[.int .i64 r.k, .string r.p, .string r.b, .int .i64 r.m] 29)).heap.size := Nat.le_trans (Nat.le_of_lt hlt) hbB.size
  have c2 := (hbA.cell (p := ⟨w0.heap.size, 0, none⟩) hlt).trans hc0
  have c3 := (hbB.cell (p := ⟨w0.heap.size, 0, none⟩) hlt).trans hc0
  have hnl := own_not hrow.2.1 typeN3 hlist
  have hnd := own_not hrow.2.1 typeN1 hcd
  have hnv := own_not hrow.2.1 typeN2 hcv
  obtain ⟨sA, cap, rfl⟩ := own_form hrow.2.1
  have HFIN : Hid (∀ v' w9, w9.ownsRow w0.heap.size 29 4 v' (acc.length + 1) (flatN acc ++ r.ns) →
      ((w.alloc (.cells #[.int .i64 r.k, .string r.p, .string r.b, .int .i64 r.m] 29)).alloc (.cells #[.int .i64 r.k, .string r.p, .string r.b, .int .i64 r.m] 29)).grownBy w9 (Value.slice sA acc.length cap).ownBlock →
      Gath w0 D V (acc ++ [r]) (w9.setCell ⟨w0.heap.size, 0, none⟩ v') ∧ w9.cell? ⟨w0.heap.size, 0, none⟩ = some (.slice sA acc.length cap) ∧ w9.frozen? ⟨w0.heap.size, 0, none⟩ = false) := by
    intro v' w9 ho hg
    have hle : w.heap.size ≤ _ := hbB.size
    have k1 := (hg.block w0.heap.size (Nat.lt_of_lt_of_le hlt hle) (fun e => hnl e.symm)).trans ((hbB.block _ hlt).trans hlist)
    have k2 := (hg.block (w0.heap.size + 1) (Nat.lt_of_lt_of_le hlt1 hle) (fun e => hnd e.symm)).trans ((hbB.block _ hlt1).trans hcd)
    have k3 := (hg.block (w0.heap.size + 2) (Nat.lt_of_lt_of_le hlt2 hle) (fun e => hnv e.symm)).trans ((hbB.block _ hlt2).trans hcv)
    have hne := own_not ho typeN3 k1
    have hcb := (hb.trans (hbB.mono hb.size)).grown hg hbz (fun j hj => (hrow.2.1.lt j hj).1)
    refine ⟨⟨hcb.setCell (Nat.le_refl _) _, ⟨v', ?_, ?_⟩, ?_, ?_⟩, (block_cell k1).1, (block_cell k1).2⟩
    · have := setCell_block k1 0 v'
      rw [this]
      rfl
    · have := rowN_snoc ho hrow.2.2 hro
      exact ⟨this.1, ownsRow_setCell_other this.2.1 hne _, this.2.2⟩
    · rw [Below.heap_setCell _ _ _ _ (by simp)]; exact k2
    · rw [Below.heap_setCell _ _ _ _ (by simp)]; exact k3
  unfold ptr R.nod
  clear hlist hcd hcv hnl hnd hnv
  go_enter Tryz.func130, Tryz.ntmps130
  go_wp2_with (first
    | (at_builtin; refine wpList_append_own _ rfl _ _ 23 rfl w0.heap.size 29 i0 (.agg #[.int .i64 0, .string ByteArray.empty, .string ByteArray.empty, .int .i64 0]) 4 48 Tryz.underlying23 hi hI0 hI1 hI2 rfl (by decide) _ _ _ rfl hr3 ⟨w.heap.size + 1, 0, none⟩ 1 1 (R.ns r) rfl rfl (by simpa using hnews) hone (by unfold maxLen; omega) (by omega) hbz ?_; intro v' w9 hown' hgrow9 hnil9; obtain ⟨HG9, hc9, hf9⟩ := HFIN.out v' w9 hown' hgrow9; have HGH := Lib.hid HG9; obtain ⟨vA, vc, rfl⟩ := own_form hown'; clear hown' hgrow9 HG9 hnil9))
  go_end0
  exact ⟨⟨_, rfl⟩, HGH.out⟩
end Go.Proofs.YtjiljnfiofmpaaaGreatDoor.Recs

/- A tree in memory: nodes, of the program. -/

namespace Go.Proofs.YtjiljnfiofmpaaaGreatDoor.Recs
set_option maxRecDepth 100000
open Go.RowKit Paths

def takeN (w0 : World) : Value := .func (.func 130) #[] #[ptr w0.heap.size]
theorem three_new (w0 : World) (a b c : Obj) : (((w0.alloc a).alloc b).alloc c).heap[w0.heap.size]? = some a ∧ (((w0.alloc a).alloc b).alloc c).heap[w0.heap.size + 1]? = some b ∧ (((w0.alloc a).alloc b).alloc c).heap[w0.heap.size + 2]? = some c := by
  have h1 := alloc_at (w0.alloc a) b
  have h2 := alloc_at ((w0.alloc a).alloc b) c
  rw [World.size_alloc] at h1 h2
  rw [World.size_alloc] at h2
  refine ⟨?_, ?_, h2⟩
  · rw [Below.heap_alloc _ _ _ (by simp; omega), Below.heap_alloc _ _ _ (by simp)]
    exact alloc_at w0 a
  · rw [Below.heap_alloc _ _ _ (by simp)]
    exact h1
theorem gath_start (w0 : World) (D V : Value) : Gath w0 D V [] (((w0.alloc (.cells #[.slice none 0 0] 23)).alloc (.cells #[D] 92)).alloc (.cells #[V] 154)) := by
  obtain ⟨h1, h2, h3⟩ := three_new w0 (.cells #[.slice none 0 0] 23) (.cells #[D] 92) (.cells #[V] 154)
  exact ⟨(((Below.refl _ _).alloc (Nat.le_refl _) _).alloc (by simp) _).alloc (by simp; omega) _, ⟨.slice none 0 0, h1, ⟨rfl, World.ownsRow_nil _ _ _ _, fun r hr => by cases hr⟩⟩, h2, h3⟩
theorem walkerN {w0 : World} {base : Nat} {A : ByteArray → Nat} {S : ByteArray → Value} {t : List R} (h : Tr w0 base A S t) (hl : t.length ≤ 1000) (ho : ∀ r ∈ t, r.o = false) :
    Walker (Gath w0 (takeN w0) (visV (w0.heap.size + 1) (w0.heap.size + 2))) base A S t (w0.heap.size + 1) (w0.heap.size + 2) 130 (ptr w0.heap.size) :=
  ⟨fun _ _ hg => h.below hg.below, fun _ _ hg => (block_cell hg.cd).1, fun _ _ hg => (block_cell hg.cv).1, fun _ _ hg => hg.drew, fun acc _ r hr hacc hg => nodes1_any r (ho r hr) (by omega) hg⟩

set_option maxHeartbeats 800000 in
theorem eachN_any {w0 : World} {base : Nat} {A : ByteArray → Nat} {S : ByteArray → Value} {t : List R} (h : Tr w0 base A S t) (ht : IsTree t) (hl : t.length ≤ 1000) (ho : ∀ r ∈ t, r.o = false) :
    Calls Tryz.prog 83 #[ptr (A ByteArray.empty), takeN w0] (w0.alloc (.cells #[.slice none 0 0] 23)) fun e w' => (∃ v, e = .returned v) ∧ Gath w0 (takeN w0) (visV (w0.heap.size + 1) (w0.heap.size + 2)) t w' := by
  have HV := visitN_any (walkerN h hl ho) ht hl 5 rootR root_mem (by omega) [] _ (gath_start w0 (takeN w0) (visV (w0.heap.size + 1) (w0.heap.size + 2))) (by rw [rootR_p, all_root]; simp)
  rw [rootR_p, all_root, List.nil_append] at HV
  unfold takeN visV ptr at HV ⊢
  have HVh := Lib.hid HV
  clear HV
  go_enter Tryz.func83, Tryz.ntmps83
  go_wp2_with fail
  refine HVh.out.mono ?_
  rintro e w2 ⟨⟨v2, rfl⟩, hG⟩
  go_wp2_with fail
  go_end0
  exact ⟨⟨_, rfl⟩, hG⟩

set_option maxHeartbeats 800000 in
theorem nodes_any {w : World} {base : Nat} {A : ByteArray → Nat} {S : ByteArray → Value} {t : List R} (h : Tr w base A S t) (ht : IsTree t) (hl : t.length ≤ 1000) (ho : ∀ r ∈ t, r.o = false) :
    Calls Tryz.prog 65 #[ptr (A ByteArray.empty)] w fun e w' => ∃ v, e = .returned v ∧ Below w.heap.size w w' ∧ RowN w' w.heap.size v t.length t := by
  have HE := eachN_any h ht hl ho
  unfold takeN visV ptr at HE
  unfold ptr
  go_enter Tryz.func65, Tryz.ntmps65
  go_wp2_with fail
  refine HE.mono ?_
  rintro e w2 ⟨⟨v2, rfl⟩, hG⟩
  obtain ⟨hb, ⟨v, hlist, hrow⟩, -, -⟩ := hG
  obtain ⟨hc0, hf0⟩ := block_cell hlist
  have HR := Lib.hid hrow
  obtain ⟨sA, cap, rfl⟩ := own_form hrow.2.1
  clear hlist hrow
  go_wp2_with fail
  go_ret
  exact ⟨_, rfl, hb, HR.out⟩
end Go.Proofs.YtjiljnfiofmpaaaGreatDoor.Recs

/- A tree in memory: its nodes as records (what LayerOfTree hands to each). -/

namespace Go.Proofs.YtjiljnfiofmpaaaGreatDoor.Recs
set_option maxRecDepth 100000
open Go.RowKit Paths

set_option maxHeartbeats 3200000 in
theorem layer1_any {w0 : World} {D V : Value} {acc : List R} {w : World} (r : R) (hro : r.o = false) (hacc : acc.length ≤ 1000) (h : GathR w0 D V acc w) :
    Calls Tryz.prog 84 #[r.nod, ptr w0.heap.size] w fun e w' => (∃ v, e = .returned v) ∧ GathR w0 D V (acc ++ [r]) w' := by
  obtain ⟨i0, hi, hI0, hI1, hI2⟩ := info_parts recInfo
  obtain ⟨hb, ⟨v, hlist, hrow⟩, hcd, hcv⟩ := h
  have hlt : w0.heap.size < w.heap.size := (Array.getElem?_eq_some_iff.1 hlist).1
  have hlt1 : w0.heap.size + 1 < w.heap.size := (Array.getElem?_eq_some_iff.1 hcd).1
  have hlt2 : w0.heap.size + 2 < w.heap.size := (Array.getElem?_eq_some_iff.1 hcv).1
  obtain ⟨hc0, hf0⟩ := block_cell hlist
  have hbA : Below w.heap.size w (w.alloc (.cells #[.int .i64 r.k, .string r.p, .string r.b, .int .i64 r.m] 29)) := (Below.refl _ _).alloc (Nat.le_refl _) _
  have c2 := (hbA.cell (p := ⟨w0.heap.size, 0, none⟩) hlt).trans hc0
  have a0 : (w.alloc (.cells #[.int .i64 r.k, .string r.p, .string r.b, .int .i64 r.m] 29)).cell? ⟨w.heap.size, 0, none⟩ = some (.int .i64 r.k) := by go_simp
  have a1 : (w.alloc (.cells #[.int .i64 r.k, .string r.p, .string r.b, .int .i64 r.m] 29)).cell? ⟨w.heap.size, 1, none⟩ = some (.string r.p) := by go_simp
  have a2 : (w.alloc (.cells #[.int .i64 r.k, .string r.p, .string r.b, .int .i64 r.m] 29)).cell? ⟨w.heap.size, 2, none⟩ = some (.string r.b) := by go_simp
  have a3 : (w.alloc (.cells #[.int .i64 r.k, .string r.p, .string r.b, .int .i64 r.m] 29)).cell? ⟨w.heap.size, 3, none⟩ = some (.int .i64 r.m) := by go_simp
  have hzA : (w.alloc (.cells #[.int .i64 r.k, .string r.p, .string r.b, .int .i64 r.m] 29)).heap.size = w.heap.size + 1 := by simp
  have hnl := own_not hrow.2 typeR3 hlist
  have hnd := own_not hrow.2 typeR1 hcd
  have hnv := own_not hrow.2 typeR2 hcv
  obtain ⟨sA, cap, rfl⟩ := own_form hrow.2
  have HREC := fun w' => recordOfNode_any r hro w'
  have HFIN : Hid (∀ W9 v' w9, Below w.heap.size w W9 → w9.ownsRow w0.heap.size 26 5 v' (acc.length + 1) (flat acc ++ r.cs) → W9.grownBy w9 (Value.slice sA acc.length cap).ownBlock →
      GathR w0 D V (acc ++ [r]) (w9.setCell ⟨w0.heap.size, 0, none⟩ v') ∧ w9.cell? ⟨w0.heap.size, 0, none⟩ = some (.slice sA acc.length cap) ∧ w9.frozen? ⟨w0.heap.size, 0, none⟩ = false) := by
    intro W9 v' w9 hbB ho hg
    have hle : w.heap.size ≤ W9.heap.size := hbB.size
    have hbz : w0.heap.size ≤ W9.heap.size := Nat.le_trans (Nat.le_of_lt hlt) hle
    have k1 := (hg.block w0.heap.size (Nat.lt_of_lt_of_le hlt hle) (fun e => hnl e.symm)).trans ((hbB.block _ hlt).trans hlist)
    have k2 := (hg.block (w0.heap.size + 1) (Nat.lt_of_lt_of_le hlt1 hle) (fun e => hnd e.symm)).trans ((hbB.block _ hlt1).trans hcd)
    have k3 := (hg.block (w0.heap.size + 2) (Nat.lt_of_lt_of_le hlt2 hle) (fun e => hnv e.symm)).trans ((hbB.block _ hlt2).trans hcv)
    have hne := own_not ho typeR3 k1
    have hcb := (hb.trans (hbB.mono hb.size)).grown hg hbz (fun j hj => (hrow.2.lt j hj).1)
    refine ⟨⟨hcb.setCell (Nat.le_refl _) _, ⟨v', ?_, ?_⟩, ?_, ?_⟩, (block_cell k1).1, (block_cell k1).2⟩
    · have := setCell_block k1 0 v'
      rw [this]
      rfl
    · have := row_snoc ho
      exact ⟨this.1, ownsRow_setCell_other this.2 hne _⟩
    · rw [Below.heap_setCell _ _ _ _ (by simp)]; exact k2
    · rw [Below.heap_setCell _ _ _ _ (by simp)]; exact k3
  have HROW := Lib.hid hrow
  have HR3 : Hid (∀ w1, Below (w.heap.size + 1) (w.alloc (.cells #[.int .i64 r.k, .string r.p, .string r.b, .int .i64 r.m] 29)).drew w1 →
      Below w.heap.size w (w1.alloc (.cells #[.int .i64 r.k, .string r.p, .string r.b, .int .i64 r.m, .bool false] 26)) ∧ w1.cell? ⟨w0.heap.size, 0, none⟩ = some (.slice sA acc.length cap) ∧ w0.heap.size < w1.heap.size ∧
      (w1.alloc (.cells #[.int .i64 r.k, .string r.p, .string r.b, .int .i64 r.m, .bool false] 26)).ownsRow w0.heap.size 26 5 (.slice sA acc.length cap) acc.length (flat acc) ∧
      w0.heap.size ≤ (w1.alloc (.cells #[.int .i64 r.k, .string r.p, .string r.b, .int .i64 r.m, .bool false] 26)).heap.size ∧
      ∀ j u, r.cs[j]? = some u → (w1.alloc (.cells #[.int .i64 r.k, .string r.p, .string r.b, .int .i64 r.m, .bool false] 26)).cell? ((⟨w1.heap.size, 0, none⟩ : Addr).add j) = some u) := by
    intro w1 hb1
    have e1 : Below w.heap.size w w1 := hbA.drew.trans (hb1.mono (Nat.le_succ _))
    have e2 : Below w.heap.size w (w1.alloc (.cells #[.int .i64 r.k, .string r.p, .string r.b, .int .i64 r.m, .bool false] 26)) := e1.alloc e1.size _
    have hle := e1.size
    refine ⟨e2, (e1.cell (p := ⟨w0.heap.size, 0, none⟩) hlt).trans hc0, by omega, (HROW.out.below e2).2, by have := e2.size; omega, ?_⟩
    have := rec_cells_new w1 r 26
    rw [hro] at this
    exact this
  have hone := rec_one r
  unfold ptr R.nod
  unfold R.nod R.val at HREC
  rw [hro] at HREC
  have HRECh := Lib.hid HREC
  clear hlist hcd hcv hnl hnd hnv hrow HREC
  go_enter Tryz.func84, Tryz.ntmps84
  go_wp2_with fail
  go_region_law (first
    | (refine step_append_lies _ (by rfl) (.tmp 3) (.tmp 6) 45 (by rfl) w0.heap.size 26 i0 (.agg #[.int .i64 0, .string ByteArray.empty, .string ByteArray.empty, .int .i64 0, .bool false]) 5 56 Tryz.underlying45 hi hI0 hI1 hI2 rfl (by decide) (.slice sA acc.length cap) acc.length (flat acc) (by simp [Act.eval]) hr3 ⟨w1.heap.size, 0, none⟩ 1 1 (R.cs r) (by simp [Act.eval]) rfl hnews hone (by decide) (by unfold maxLen; omega) (by omega) hbz _ rfl ?_; intro g9 cap9 w9 hown9 hgrow9 hat9 hlt9; obtain ⟨HG9, hc9, hf9⟩ := HFIN.out _ _ w9 e2 hown9 hgrow9; have HGH := Lib.hid HG9; clear hown9 hgrow9 HG9 hat9)
    | (go_simp; go_at_call 85; refine (HRECh.out _).mono ?_; rintro e w1 ⟨rfl, hb1⟩; obtain ⟨e2, hcl, hll, hr3, hbz, hnews⟩ := HR3.out w1 (by simpa using hb1)))
  all_goals (go_wp2; go_end0; exact ⟨⟨_, rfl⟩, HGH.out⟩)
end Go.Proofs.YtjiljnfiofmpaaaGreatDoor.Recs
