/- Several texts of mine in one file (each begins with its own remark). -/
import Derived.Test.YtjiljnfiofmpaaaDoorBun12
import Derived.Test.YtjiljnfiofmpaaaDoorBun13
import Derived.Test.YtjiljnfiofmpaaaDoorBun10
import Derived.StillTailTactics
/- A tree in memory: every node of it, one after the other, handed to a function value (each). -/

namespace Go.Proofs.YtjiljnfiofmpaaaDoor.Recs
set_option maxRecDepth 100000
open Go.RowKit Paths

theorem deep_dom {t : List R} (ht : IsTree t) {r : R} (hr : r ∈ rootR :: t) : deep r.p ≤ 4 := by
  rcases List.mem_cons.1 hr with rfl | hr
  · unfold deep; rw [if_pos rootR_p]; omega
  · exact (deep_kid (ht.path r hr)).2
theorem all_sub {t : List R} (ht : IsTree t) {c : R} (hc : c ∈ t) : allT t c.p = subT t c.p := if_neg (path_nonempty (ht.path c hc))
theorem all_root (t : List R) : allT t ByteArray.empty = t := if_pos rfl
/-- What has been visited before the k-th of those directly below. -/
def upto (t : List R) (K : List R) (k : Nat) : List R := (K.take k).flatMap fun c => c :: subT t c.p
theorem upto_zero (t K : List R) : upto t K 0 = [] := rfl
theorem upto_step {t K : List R} {k : Nat} (hk : k < K.length) : upto t K (k + 1) = upto t K k ++ [K[k]] ++ subT t K[k].p := by
  unfold upto
  rw [List.take_add_one, List.getElem?_eq_getElem hk, List.flatMap_append]
  simp
theorem upto_end {t : List R} (ht : IsTree t) (p : ByteArray) {k : Nat} (hk : (kids t p).length ≤ k) : upto t (kids t p) k = allT t p := by
  unfold upto
  rw [List.take_of_length_le hk, all_kids ht]
theorem all_len {t : List R} (p : ByteArray) : (allT t p).length ≤ t.length := by
  unfold allT
  split
  · exact Nat.le_refl _
  · exact List.length_filter_le _ _
theorem upto_len {t K : List R} (k : Nat) : (upto t K k).length ≤ (upto t K K.length).length := by
  have e : upto t K K.length = upto t K k ++ (K.drop k).flatMap fun c => c :: subT t c.p := by
    unfold upto
    rw [← List.flatMap_append, List.take_append_drop, List.take_length]
  rw [e, List.length_append]
  omega

end Go.Proofs.YtjiljnfiofmpaaaDoor.Recs

/- A tree in memory: its nodes as a list, its nodes as records (nodes, of the program; what LayerOfTree hands to each). -/

namespace Go.Proofs.YtjiljnfiofmpaaaDoor.Recs
set_option maxRecDepth 100000
open Go.RowKit Paths

theorem nodR_cells_new (w : World) (r : R) (t : TypeId) (j : Nat) (u : Value) (h : r.ns[j]? = some u) : (w.alloc (.cells #[.int .i64 r.k, .string r.p, .string r.b, .int .i64 r.m] t)).cell? ((⟨w.heap.size, 0, none⟩ : Addr).add j) = some u := by
  rw [Addr.add_lit]
  match j, h with
  | 0, h => cases h; go_simp
  | 1, h => cases h; go_simp
  | 2, h => cases h; go_simp
  | 3, h => cases h; go_simp
  | j + 4, h => simp [R.ns] at h
theorem nodR_one (r : R) : ∀ u ∈ r.ns, u.oneCell' = true := by
  intro u hu
  simp only [R.ns, List.mem_cons, List.not_mem_nil, or_false] at hu
  rcases hu with rfl | rfl | rfl | rfl <;> rfl
theorem flatN_snoc (M : List R) (r : R) : flatN (M ++ [r]) = flatN M ++ r.ns := by simp [flatN]
theorem rowN_snoc {w : World} {base : Nat} {v : Value} {M : List R} {r : R} (h : w.ownsRow base 40 4 v (M.length + 1) (flatN M ++ r.ns)) (hM : ∀ x ∈ M, x.o = false) (hr : r.o = false) : RowN w base v (M ++ [r]).length (M ++ [r]) :=
  ⟨rfl, by rw [flatN_snoc, List.length_append]; exact h, fun x hx => by
    rcases List.mem_append.1 hx with hx | hx
    · exact hM x hx
    · rw [List.mem_singleton.1 hx]; exact hr⟩
theorem typeN1 : (40 : TypeId) ≠ 76 := by decide
theorem typeN3 : (40 : TypeId) ≠ 25 := by decide
theorem typeR1 : (54 : TypeId) ≠ 76 := by decide
theorem typeR3 : (54 : TypeId) ≠ 48 := by decide
theorem own_not {w : World} {base : Nat} {e e' : TypeId} {size : Nat} {v : Value} {m : Nat} {xs : List Value} (h : w.ownsRow base e size v m xs) (he : e ≠ e') {g : Nat} {cur : Array Value} {fz : Nat × Nat} (hg : w.heap[g]? = some (.cells cur e' fz)) : v.ownBlock ≠ some g := fun e0 => by
  rcases h.2 with ⟨rfl, _⟩ | ⟨g', cap, cur', rfl, _, hh, _⟩
  · cases e0
  · cases e0
    rw [hg] at hh
    simp only [Option.some.injEq, Obj.cells.injEq] at hh
    exact he hh.2.1.symm

theorem block_cell {w : World} {g : Nat} {u : Value} {e : TypeId} (h : w.heap[g]? = some (.cells #[u] e (0, 0))) : w.cell? ⟨g, 0, none⟩ = some u ∧ w.frozen? ⟨g, 0, none⟩ = false := by
  constructor
  · unfold World.cell?; simp only [h]; rfl
  · unfold World.frozen?; simp only [h]; simp
end Go.Proofs.YtjiljnfiofmpaaaDoor.Recs
