/- Parts of several texts of mine in one file (each begins with its own remark). -/
import Derived.Test.YtciflchaepchiabGreatDoorUA1
import Derived.Test.YtciflchaepchiabGreatDoorUA12
import Derived.Test.YtciflchaepchiabGreatDoorUA13
import Derived.Test.YtciflchaepchiabGreatDoorUA14
import Derived.Test.YtciflchaepchiabGreatDoorUA2
import Derived.Test.YtciflchaepchiabGreatDoorUA3
import Derived.Test.YtciflchaepchiabGreatDoorUA4
import Derived.Test.YtciflchaepchiabGreatDoorUA5
import Derived.Test.YtciflchaepchiabGreatDoorUA6
import Derived.Test.YtciflchaepchiabGreatDoorUA7
import Derived.Test.YtciflchaepchiabGreatDoorUA9
import Derived.Test.YtciflchaepchiabGreatDoorChecked
import Derived.Test.YtciflchaepchiabGreatDoorRows
import Derived.Test.YtciflchaepchiabGreatDoorProg
import Derived.Test.YtciflchaepchiabGreatDoorShelf
import Derived.Deep.RegionWith
import Derived.OneCell
import Derived.Lib.SliceRun
import Derived.Laws.OwnMore
import Derived.Deep.Slices
import Derived.OpenShut
import Derived.ShutString
import Derived.ChangeArms
import Derived.WideShapes
import Derived.Lib.LaidTab
import Derived.BigQuiet
import Derived.Deep.QuietTactic
import Derived.Deep.RegionHeld3
import Derived.StillTailTactics
import Derived.Deep.Draws
import Derived.Deep.LoopGhost
import Derived.WalkKit
import Derived.WalkSpells
import Derived.WalkSmall
import Derived.Lib.OthersKept
import Derived.Lib.Hide
import Derived.Lib.Strings
import Derived.Lib.Join
import Derived.Laws.BytesArg
import Derived.BigRegion
import Derived.Lib.Overlaps
import Derived.Lib.AppendZerosOnto
import Derived.Laws.NewBlocks
import Derived.Laws.IdiomCopy
import Derived.Deep.RegionLaw
import Derived.ChangeVars
import Derived.Deep.DeepHandedRow
import Derived.LaidEql
import Derived.Stop.Asserts
import Derived.Below
import Derived.Stop.LaidErr
import Derived.Stop.LaidTwo
import Derived.WalkLawsBesides
/- Growing a tree: what it comes to, plain; a node's own check, of the program. -/
namespace Go.Proofs.YtciflchaepchiabGreatDoor.Recs
set_option maxRecDepth 100000
open Go.RowKit Paths Errs

theorem blocked_code {t : List R} {q : ByteArray} (h : recAt t q = none) : (findT t q).2 = if blocked t q then 13 else 5 := by unfold findT; rw [h]
theorem place_ok {t : List R} {q : ByteArray} (h : placeC t q = 0) : recAt t q = none ∧ blocked t q = false ∧ (parO q = ByteArray.empty ∨ ∃ x, recAt t (parO q) = some x) := by
  unfold placeC at h
  split at h
  · omega
  · rename_i h0
    have hn : recAt t q = none := by
      cases hr : recAt t q with
      | none => rfl
      | some r => exact absurd (findT_zero.2 (by rw [hr]; rfl)) h0
    split at h
    · omega
    · rename_i h1
      have hb : blocked t q = false := by
        rw [blocked_code hn] at h1
        cases hb : blocked t q with
        | false => rfl
        | true => rw [hb] at h1; exact absurd rfl h1
      split at h
      · rename_i h2
        refine ⟨hn, hb, h2.imp id fun h3 => ?_⟩
        exact Option.isSome_iff_exists.1 h3
      · omega
theorem place_of {t : List R} {q : ByteArray} (h1 : recAt t q = none) (h2 : blocked t q = false) (h3 : parO q = ByteArray.empty ∨ ∃ x, recAt t (parO q) = some x) : placeC t q = 0 := by
  unfold placeC
  rw [blocked_code h1, h2, if_neg (by decide), if_neg (by decide), if_pos]
  exact h3.imp id fun ⟨x, hx⟩ => by rw [hx]; rfl
theorem place_home {t : List R} {q : ByteArray} (hq : pathB q.data.toList = true) (h : placeC t q = 0) : (∃ x ∈ rootR :: t, x.p = parO q) ∧ (parentL q.data.toList ≠ [] → ∃ x ∈ t, x.p = parO q ∧ x.k = 3) := by
  obtain ⟨_, hb, hp⟩ := place_ok h
  constructor
  · rcases hp with hp | ⟨x, hx⟩
    · exact ⟨rootR, root_mem, hp.symm⟩
    · exact ⟨x, List.mem_cons_of_mem _ (recAt_mem hx).1, (recAt_mem hx).2⟩
  · intro hne
    rcases hp with hp | ⟨x, hx⟩
    · exact absurd (parO_empty.1 hp) hne
    · refine ⟨x, (recAt_mem hx).1, (recAt_mem hx).2, ?_⟩
      by_cases hk : x.k = 3
      · exact hk
      · have : blocked t q = true := blocked_iff.2 ⟨parO q, by rw [ups_step hq, if_neg hne]; exact List.mem_cons_self .., x, hx, hk⟩
        rw [hb] at this; cases this
theorem put_last {T : List R} {n : R} (h : ∀ x ∈ T, lessR x n = true) : putL T n = T ++ [n] := by
  unfold putL
  rw [List.filter_eq_self.2 h, List.filter_eq_nil_iff.2 (fun x hx => by rw [lessR_asymm (h x hx)]; decide)]
theorem less_all {T : List R} (hs : Sorted T) {n y : R} (hy : T.getLast? = some y) (h : lessR y n = true) : ∀ x ∈ T, lessR x n = true := by
  intro x hx
  obtain ⟨ys, rfl⟩ := List.getLast?_eq_some_iff.1 hy
  rcases List.mem_append.1 hx with hx | hx
  · exact lessR_trans ((sorted_snoc hs).2 x hx) h
  · rw [List.mem_singleton.1 hx]; exact h
theorem take_last {l : List R} {i : Nat} (h0 : 0 < i) (hi : i ≤ l.length) : (l.take i).getLast? = some (l[i - 1]'(by omega)) := by
  rw [List.getLast?_eq_getElem?, List.length_take, Nat.min_eq_left hi, List.getElem?_take, if_pos (by omega), List.getElem?_eq_getElem]
/-- One node more. -/
theorem grow_good {l : List R} {i : Nat} (hi : i < l.length) (hT : Tree (l.take i)) (h24 : l.length ≤ 24) (hless : i = 0 ∨ ∃ h : 0 < i, lessB (l[i - 1]'(by omega)).p l[i].p = true) (hk : l[i].k ≠ 4) (hf : l[i].fault = 0) (hp : placeC (l.take i) l[i].p = 0) :
    Tree (l.take (i + 1)) ∧ putL (l.take i) l[i] = l.take (i + 1) := by
  have hq := (fault_path hf).1
  have hall : ∀ x ∈ l.take i, lessR x l[i] = true := by
    rcases hless with rfl | ⟨h0, hl⟩
    · intro x hx; simp at hx
    · refine less_all hT.sorted (take_last h0 (by omega)) ?_
      unfold lessB at hl
      rw [Bool.and_eq_true] at hl
      exact hl.2
  have e := put_last hall
  have e2 : l.take (i + 1) = l.take i ++ [l[i]] := by rw [List.take_add_one, List.getElem?_eq_getElem hi]; rfl
  have := put_tree hT hk hf (place_ok hp).1 (place_home hq hp).2 (by rw [List.length_take]; omega)
  rw [e] at this
  rw [e2]
  exact ⟨this, e⟩
/-- In a tree, each node finds its place. -/
theorem grow_all {l : List R} (h : Tree l) {i : Nat} (hi : i < l.length) : (i = 0 ∨ ∃ h : 0 < i, lessB (l[i - 1]'(by omega)).p l[i].p = true) ∧ l[i].k ≠ 4 ∧ l[i].fault = 0 ∧ placeC (l.take i) l[i].p = 0 := by
  have hm := List.getElem_mem hi
  have hq := (fault_path (h.fault _ hm)).1
  refine ⟨?_, h.kind _ hm, h.fault _ hm, place_of ?_ ?_ ?_⟩
  · rcases Nat.eq_zero_or_pos i with h0 | h0
    · exact .inl h0
    · refine .inr ⟨h0, ?_⟩
      have h1 := (fault_path (h.fault _ (List.getElem_mem (show i - 1 < l.length by omega)))).1
      rw [lessB_yes h1 hq]
      exact sorted_get h.sorted hi (by omega)
  · cases hr : recAt (l.take i) l[i].p with
    | none => rfl
    | some r =>
      obtain ⟨h1, h2⟩ := recAt_mem hr
      obtain ⟨k, hk, rfl⟩ := List.getElem_of_mem h1
      rw [List.length_take] at hk
      have := sorted_once h.sorted (show k < l.length by omega) hi (by simpa using h2)
      omega
  · rw [Bool.eq_false_iff]
    intro hb
    obtain ⟨a, ha, r, hr, hk⟩ := blocked_iff.1 hb
    obtain ⟨n, hn, hnp, hnk⟩ := housed_ups h.housed hq _ hm rfl a ha
    obtain ⟨h1, h2⟩ := recAt_mem hr
    have := sorted_mem_once h.sorted (List.mem_of_mem_take h1) hn (h2.trans hnp.symm)
    subst this
    exact hk hnk
  · by_cases hp : parO l[i].p = ByteArray.empty
    · exact .inl hp
    · right
      have hpn : parentL l[i].p.data.toList ≠ [] := fun e => hp (parO_empty.2 e)
      obtain ⟨x, hx, hxp, _⟩ := h.housed _ hm hpn
      obtain ⟨k, hk, rfl⟩ := List.getElem_of_mem hx
      have hki : k < i := by
        rcases Nat.lt_trichotomy k i with h1 | h1 | h1
        · exact h1
        · subst h1
          have h2 := parent_less hq hpn
          rw [← hxp, lessP_irrefl] at h2
          cases h2
        · have h2 := parent_less hq hpn
          have h3 := sorted_get h.sorted hk h1
          unfold lessR at h3
          rw [hxp, lessP_asymm _ _ h2] at h3
          cases h3
      have hmk : l[k] ∈ l.take i := List.mem_take_iff_getElem.2 ⟨k, by omega, rfl⟩
      have hst : Sorted (l.take i) := List.Pairwise.sublist (List.take_sublist _ _) h.sorted
      exact ⟨_, by rw [← hxp]; exact recAt_of hst hmk⟩
theorem tree_nil : Tree ([] : List R) := ⟨by simp, fun r hr => (by cases hr), fun r hr => (by cases hr), List.Pairwise.nil, fun r hr => (by cases hr)⟩

/-- The record of a node, of the program. -/
theorem recordOfNode_any (n : R) (ho : n.o = false) (w : World) :
    Calls Tryz.prog 160 #[n.nod] w fun e w' => e = .returned n.val ∧ Below w.heap.size w w' := by
  unfold R.nod R.val
  rw [ho]
  go_enter Tryz.func160, Tryz.ntmps160
  go_wp2_with fail
  refine bodyPost_ret (v := .agg #[.int .i64 n.k, .string n.p, .string n.b, .int .i64 n.m, .bool false]) (by simp [results, Tryz.results160, go_sem]) rfl ⟨rfl, ?_⟩
  exact ((Below.refl _ _).alloc (Nat.le_refl _) _).alloc (by simp) _

/-- What checkNode answers. -/
def nodeK (n : R) : Bool := decide (n.k ≠ 4) && (n.fault == 0)
def nodeV (n : R) (y : Addr) : Value := if nodeK n then .nilIface else errV y
theorem checkNode_any (n : R) (ho : n.o = false) (hp : n.p.size ≤ maxLen) (x y : Addr) (w : World) (hT : Three w x y) :
    Calls Tryz.prog 193 #[n.nod] w fun e w' => e = .returned (nodeV n y) ∧ Below w.heap.size w w' := by
  have hb0 : Below w.heap.size w (w.alloc (.cells #[.int .i64 n.k, .string n.p, .string n.b, .int .i64 n.m] 84)) := (Below.refl _ _).alloc (Nat.le_refl _) _
  have hT0 := hT.below hb0 (Nat.le_refl _)
  have HR := recordOfNode_any n ho (w.alloc (.cells #[.int .i64 n.k, .string n.p, .string n.b, .int .i64 n.m] 84))
  unfold R.nod R.val at HR
  rw [ho] at HR
  unfold R.nod
  by_cases h4 : n.k = 4
  · have HE : Hid (nodeK n = false) := by show _ = _; unfold nodeK; simp [h4]
    have hd : (n.k == 4) = true := by simpa using h4
    have hy := hT0.bad
    unfold errV at hy
    clear h4
    go_enter Tryz.func193, Tryz.ntmps193
    go_wp2_with fail
    go_ret
    exact ⟨by unfold nodeV; rw [HE.out]; rfl, hb0⟩
  · have hd : (n.k == 4) = false := by simpa using h4
    have HE : Hid (nodeK n = (faultI n.k n.p.data.toList n.b.size n.m false == 0)) := by show _ = _; unfold nodeK R.fault; rw [decide_eq_true h4, ho]; rfl
    clear h4 ho
    go_enter Tryz.func193, Tryz.ntmps193
    go_wp2_with fail
    refine HR.mono ?_
    rintro e w1 ⟨rfl, hb1⟩
    have c1 := hb0.trans (hb1.mono hb0.size)
    have hT1 := hT.below c1 (Nat.le_refl _)
    go_wp2_with fail
    refine (recordOK_impl n.k n.m n.p n.b false _ hp hT1.tab).mono ?_
    rintro e w2 ⟨rfl, hb2⟩
    have c2 := c1.trans (hb2.mono c1.size)
    have hy := (hT.below c2 (Nat.le_refl _)).bad
    unfold errV at hy
    rcases Bool.eq_false_or_eq_true (faultI n.k n.p.data.toList n.b.size n.m false == 0) with hf | hf
    · rw [hf] at HE ⊢
      go_wp2_with fail
      go_ret
      exact ⟨by unfold nodeV; rw [HE.out]; rfl, c2⟩
    · rw [hf] at HE ⊢
      go_wp2_with fail
      go_ret
      exact ⟨by unfold nodeV; rw [HE.out]; rfl, c2⟩
end Go.Proofs.YtciflchaepchiabGreatDoor.Recs

/- growTree, of the program: the errors, or the tree in memory. Conditions: the table of kinds, the two sentinels. -/
namespace Go.Proofs.YtciflchaepchiabGreatDoor.Recs
set_option maxRecDepth 100000
open Go.RowKit Paths Errs

/-- An error that a check hands back: none, the sentinel of long arguments, the one of invalid ones. -/
inductive EN where
  | fine
  | long
  | inv
def EN.val (x y : Addr) : EN → Value
  | .fine => .nilIface
  | .long => errV x
  | .inv => errV y
def growK (l : List R) : EN := if 4096 < l.length then .long else if treeOK l then .fine else .inv
theorem grow_long {l : List R} (h : 4096 < l.length) : growK l = .long := if_pos h
theorem grow_inv {l : List R} (h : ¬ 4096 < l.length) (hb : ¬ Tree l) : growK l = .inv := by
  unfold growK
  rw [if_neg h, if_neg (fun e => hb (tree_of e))]
theorem grow_fine {l : List R} (h : Tree l) : growK l = .fine := by
  unfold growK
  have := h.len
  rw [if_neg (by omega), if_pos (treeOK_of h)]
/-- What growTree leaves. -/
def GrowPost (l : List R) (x y : Addr) (w : World) (e : Ending) (w' : World) : Prop :=
  Below w.heap.size w w' ∧ ((growK l ≠ .fine ∧ e = .returned (.tuple #[.pointer none, (growK l).val x y])) ∨
    (growK l = .fine ∧ ∃ A S, e = .returned (.tuple #[ptr (A ByteArray.empty), .nilIface]) ∧ Tr w' w.heap.size A S l))
theorem tr_start (w : World) : Tr (w.alloc (.cells #[.string ⟨#[]⟩, .int .i64 3, .string ⟨#[]⟩, .string ⟨#[]⟩, .int .i64 0, .slice none 0 0] 209)) w.heap.size (fun _ => w.heap.size) (fun _ => .slice none 0 0) [] := by
  have one : ∀ r ∈ rootR :: ([] : List R), r = rootR := fun r hr => by simpa using hr
  refine ⟨fun r hr => ?_, fun _ _ => Nat.le_refl _, fun r hr => World.ownsRow_nil _ _ _ _, fun r hr x hx hne => absurd (by rw [one r hr, one x hx]) hne⟩
  rw [one r hr]
  exact alloc_at w _
set_option maxHeartbeats 3200000 in
theorem growTree_any (v : Value) (l : List R) (x y : Addr) (w : World) (h : NodSl w v l) (hl : l.length ≤ 1048576) (hr : ∀ r ∈ l, r.p.size ≤ maxLen) (hT : Three w x y) :
    Calls Tryz.prog 157 #[v] w (GrowPost l x y w) := by
  obtain ⟨ho, sA, cap, rfl, hcap, h⟩ := h
  have hx := hT.long
  have hy := hT.bad
  unfold errV at hx hy
  by_cases h4 : 4096 < l.length
  · have HP : Hid (∀ w', Below w.heap.size w w' → GrowPost l x y w (.returned (.tuple #[.pointer none, errV x])) w') := fun w' hb => ⟨hb, .inl ⟨by rw [grow_long h4]; simp, by rw [grow_long h4]; rfl⟩⟩
    have hd : decide ((4096 : Int) < (l.length : Int)) = true := by simp; omega
    go_enter Tryz.func157, Tryz.ntmps157
    go_wp2
    go_quiet (fail)
    go_wp2
    go_ret2
    exact HP.out _ (below_drewN (Below.refl _ _) _)
  have hd4 : decide ((4096 : Int) < (l.length : Int)) = false := by simp; omega
  by_cases h24 : 24 < l.length
  · have hg := grow_inv h4 (fun h : Tree l => by have := h.len; omega)
    have HP : Hid (∀ w', Below w.heap.size w w' → GrowPost l x y w (.returned (.tuple #[.pointer none, errV y])) w') := fun w' hb => ⟨hb, .inl ⟨by rw [hg]; simp, by rw [hg]; rfl⟩⟩
    have hd : decide ((24 : Int) < (l.length : Int)) = true := by simp; omega
    clear hg
    go_enter Tryz.func157, Tryz.ntmps157
    go_wp2
    go_quiet (fail)
    go_wp2
    go_ret2
    exact HP.out _ (below_drewN (Below.refl _ _) _)
  have hd24 : decide ((24 : Int) < (l.length : Int)) = false := by simp; omega
  have HP : Hid (∀ w', ¬ Tree l → Below w.heap.size w w' → GrowPost l x y w (.returned (.tuple #[.pointer none, errV y])) w') := fun w' hb hbw => by
    have hg := grow_inv h4 hb
    exact ⟨hbw, .inl ⟨by rw [hg]; simp, by rw [hg]; rfl⟩⟩
  have H := Lib.hid h
  have HO := Lib.hid ho
  have HT := Lib.hid hT
  have HR := Lib.hid hr
  have h24' : l.length ≤ 24 := by omega
  have hb0 : Below w.heap.size w (w.alloc (.cells #[.string ⟨#[]⟩, .int .i64 3, .string ⟨#[]⟩, .string ⟨#[]⟩, .int .i64 0, .slice none 0 0] 209)) := (Below.refl _ _).alloc (Nat.le_refl _) _
  clear h ho hT hr h4 h24 hx hy
  go_enter Tryz.func157, Tryz.ntmps157
  go_wp2
  go_loopw [23] (fun i wr => ∃ (k : Nat) (A : ByteArray → Nat) (S : ByteArray → Value), k ≤ l.length ∧ i = .int .i64 k ∧ Hid (Tree (l.take k)) ∧ Hid (Tr wr w.heap.size A S (l.take k)) ∧ Hid (A ByteArray.empty = w.heap.size) ∧ Below w.heap.size w wr) (fun i _ => l.length - (intOf i).toNat)
  case atStart => exact ⟨0, _, _, by omega, rfl, tree_nil, tr_start w, rfl, hb0⟩
  case round =>
    obtain ⟨k, A, S, hk, rfl, HTk, HTr, HA, hbw⟩ := hrel
    by_cases hlt : k < l.length
    · obtain ⟨b, off, rfl, hb, hcell⟩ := H.out (by omega)
      obtain ⟨c0, c1, c2, c3⟩ := (hcell k l[k] (by simp [hlt])).below hbw hb
      have hi1 : (k : Int) < (l.length : Int) := by omega
      have hi0 : (0 : Int) ≤ (k : Int) := by omega
      have hm := List.getElem_mem hlt
      have hq := HR.out _ hm
      have hko := HO.out _ hm
      go_wp2_with fail
      have a0 : (wr.alloc (.cells #[.int .i64 l[k].k, .string l[k].p, .string l[k].b, .int .i64 l[k].m] 84)).cell? ⟨wr.heap.size, 0, none⟩ = some (.int .i64 l[k].k) := by go_simp
      have a1 : (wr.alloc (.cells #[.int .i64 l[k].k, .string l[k].p, .string l[k].b, .int .i64 l[k].m] 84)).cell? ⟨wr.heap.size, 1, none⟩ = some (.string l[k].p) := by go_simp
      have a2 : (wr.alloc (.cells #[.int .i64 l[k].k, .string l[k].p, .string l[k].b, .int .i64 l[k].m] 84)).cell? ⟨wr.heap.size, 2, none⟩ = some (.string l[k].b) := by go_simp
      have a3 : (wr.alloc (.cells #[.int .i64 l[k].k, .string l[k].p, .string l[k].b, .int .i64 l[k].m] 84)).cell? ⟨wr.heap.size, 3, none⟩ = some (.int .i64 l[k].m) := by go_simp
      have hbA : Below wr.heap.size wr (wr.alloc (.cells #[.int .i64 l[k].k, .string l[k].p, .string l[k].b, .int .i64 l[k].m] 84)) := (Below.refl _ _).alloc (Nat.le_refl _) _
      have hzA : (wr.alloc (.cells #[.int .i64 l[k].k, .string l[k].p, .string l[k].b, .int .i64 l[k].m] 84)).heap.size = wr.heap.size + 1 := by simp
      generalize wr.alloc (.cells #[.int .i64 l[k].k, .string l[k].p, .string l[k].b, .int .i64 l[k].m] 84) = W at *
      clear c0 c1 c2 c3
      rcases Nat.eq_zero_or_pos k with h0 | h0
      · have hgt0 : decide ((0 : Int) < (k : Int)) = false := by simp; omega
        have hgt1 : decide (0 < k) = false := by simp; omega
        have hgt2 : ¬ 0 < k := by omega
        have H0 := Lib.hid h0
        clear h0
        go_wp2
        go_quiet (fail)
        have hbD : Below W.heap.size W (W.drewN nq) := below_drewN (Below.refl _ _) nq
        have hTW := HT.out.below (hbw.trans ((hbA.trans (hbD.mono hbA.size)).mono hbw.size)) (Nat.le_refl _)
        have hzW : wr.heap.size < W.heap.size := by omega
        have b0 := (hbD.cell (p := ⟨wr.heap.size, 0, none⟩) hzW).trans a0
        have b1 := (hbD.cell (p := ⟨wr.heap.size, 1, none⟩) hzW).trans a1
        have b2 := (hbD.cell (p := ⟨wr.heap.size, 2, none⟩) hzW).trans a2
        have b3 := (hbD.cell (p := ⟨wr.heap.size, 3, none⟩) hzW).trans a3
        have d1 := hbA.trans (hbD.mono hbA.size)
        have HCN := checkNode_any l[k] hko hq x y _ hTW
        unfold R.nod at HCN
        clear hTW
        go_wp2_with fail
        refine HCN.mono ?_
        rintro e w2 ⟨rfl, hb2⟩
        have d2 := d1.trans (hb2.mono d1.size)
        have e2 := hbw.trans (d2.mono hbw.size)
        rcases Bool.eq_false_or_eq_true (nodeK l[k]) with hnk | hnk
        case inr =>
          have HV : Hid (nodeV l[k] y = errV y) := by show _ = _; unfold nodeV; rw [hnk]; rfl
          have HB : Hid (¬ Tree l) := fun ht => by
            obtain ⟨_, g1, g2, _⟩ := grow_all ht hlt
            unfold nodeK at hnk
            rw [decide_eq_true g1, g2] at hnk
            cases hnk
          have HPF := Lib.hid (HP.out w2 HB.out e2)
          rw [HV.out]
          unfold errV at HPF ⊢
          clear hnk
          go_wp2_with fail
          go_ret2
          exact HPF.out
        have HV : Hid (nodeV l[k] y = .nilIface) := by show _ = _; unfold nodeV; rw [hnk]; rfl
        have hnk4 : l[k].k ≠ 4 ∧ l[k].fault = 0 := by
          unfold nodeK at hnk
          simpa using hnk
        have HNK := Lib.hid hnk4
        have hpath := (fault_path hnk4.2).1
        clear hnk hnk4
        rw [HV.out]
        have hzw2 : wr.heap.size < W.heap.size := by omega
        have r1 := (hb2.cell (p := ⟨wr.heap.size, 1, none⟩) (Nat.lt_of_lt_of_le hzW hbD.size)).trans b1
        have hTr2 := HTr.out.below d2
        have HPL := placeFor_any hTr2 HTk.out.is (by rw [List.length_take]; omega) l[k].p hq hpath
        rw [HA.out] at HPL
        unfold ptr at HPL
        clear b0 b2 b3
        go_wp2_with fail
        refine HPL.mono ?_
        rintro e w3 ⟨rfl, hb3⟩
        have d3 := d2.trans (hb3.mono d2.size)
        have e3 := hbw.trans (d3.mono hbw.size)
        by_cases hpc : placeC (l.take k) l[k].p = 0
        case neg =>
          have HB : Hid (¬ Tree l) := fun ht => hpc (grow_all ht hlt).2.2.2
          have HPF := Lib.hid (HP.out w3.drew HB.out e3.drew)
          have hd : (placeC (l.take k) l[k].p != 0) = true := by simpa using hpc
          have hy3 := (HT.out.below e3 (Nat.le_refl _)).bad
          unfold placeV
          rw [if_neg hpc]
          unfold errV at hy3 HPF
          clear hpc
          go_wp2
          go_quiet (fail)
          go_wp2
          go_ret2
          exact ⟨⟨HPF.out.1.os, HPF.out.1.tape, HPF.out.1.output, HPF.out.1.size, HPF.out.1.block⟩, HPF.out.2.imp id (fun h => by have h1 := h.2; obtain ⟨_, _, h2, _⟩ := h1; cases h2)⟩
        obtain ⟨xr, hxm, hxp⟩ := (place_home hpath hpc).1
        obtain ⟨hTk1, hput⟩ := grow_good hlt HTk.out h24' (.inl H0.out) HNK.out.1 HNK.out.2 hpc
        have hnew := (place_ok hpc).1
        have s0 := (hbD.cell (p := ⟨wr.heap.size, 0, none⟩) hzW).trans a0
        have hTr3 := hTr2.below hb3
        have hzw3 : wr.heap.size < w2.heap.size := Nat.lt_of_lt_of_le hzW (Nat.le_trans hbD.size hb2.size)
        have hww : W.heap.size ≤ w3.heap.size := Nat.le_trans hbD.size (Nat.le_trans hb2.size hb3.size)
        have hbW3 : Below W.heap.size W w3 := (hbD.trans (hb2.mono hbD.size)).trans (hb3.mono (Nat.le_trans hbD.size hb2.size))
        have q0 := (hbW3.cell (p := ⟨wr.heap.size, 0, none⟩) hzW).trans a0
        have q1 := (hbW3.cell (p := ⟨wr.heap.size, 1, none⟩) hzW).trans a1
        have q2 := (hbW3.cell (p := ⟨wr.heap.size, 2, none⟩) hzW).trans a2
        have q3 := (hbW3.cell (p := ⟨wr.heap.size, 3, none⟩) hzW).trans a3
        have HAT := attach_any hTr3 HTk.out.is (by rw [List.length_take]; omega) hpath hq hxm hxp hnew
        rw [hxp] at HAT
        unfold ptr R.nod at HAT
        have HPUT := Lib.hid hput
        have HTK1 := Lib.hid hTk1
        unfold placeV
        rw [hpc, if_pos rfl]
        clear hpc hput hTk1 hxm hxp hnew s0
        go_wp2_with fail
        refine HAT.mono ?_
        rintro e w4 ⟨⟨v4, rfl⟩, A', S', hTr4, hb4, hA4⟩
        rw [HPUT.out] at hTr4
        go_wp2_with fail
        exact ⟨⟨k + 1, A', S', by omega, by go_num, HTK1, hTr4, hA4.trans HA.out, e3.trans hb4⟩, by simp [intOf]; omega⟩
      · obtain ⟨j, rfl⟩ : ∃ j, k = j + 1 := ⟨k - 1, by omega⟩
        obtain ⟨_, p1, _, _⟩ := (hcell j (l[j]'(by omega)) (List.getElem?_eq_getElem (by omega))).below (hbw.trans (hbA.mono hbw.size)) hb
        have hq0 := HR.out _ (List.getElem_mem (show j < l.length by omega))
        have HPL := fun w' => pathLess_impl (l[j]'(by omega)).p l[j + 1].p w' hq0 hq
        have hbl : b < W.heap.size := Nat.lt_of_lt_of_le hb (hbw.trans (hbA.mono hbw.size)).size
        have hzl : wr.heap.size < W.heap.size := by omega
        have hj1 : (j : Int) < (l.length : Int) := by omega
        have hj0 : (0 : Int) ≤ (j : Int) := by omega
        have hgt : decide ((0 : Int) < (j : Int) + 1) = true := decide_eq_true (by omega)
        have hw1 : IntKind.i64.wrap ((j : Int) + 1 - 1) = (j : Int) := by rw [IntKind.wrap_i64]; omega
        have hw2 : IntKind.i64.wrap (j : Int) = (j : Int) := by rw [IntKind.wrap_i64]; omega
        rcases Bool.eq_false_or_eq_true (lessB (l[j]'(by omega)).p l[j + 1].p) with hls | hls
        case inr =>
          have HB : Hid (¬ Tree l) := fun ht => by
            rcases (grow_all ht hlt).1 with h | ⟨_, h⟩
            · omega
            · have e : (l[j + 1 - 1]'(by omega)) = l[j]'(by omega) := rfl
              rw [e, hls] at h; cases h
          rw [hls] at HPL
          go_wp2
          go_region_held3 (fun w' => w'.cell? ⟨b, off + j * 4 + 1, none⟩ = some (.string (l[j]'(by omega)).p) ∧ w'.cell? ⟨wr.heap.size, 1, none⟩ = some (.string l[j + 1].p)) (first | exact ⟨p1, a1⟩ | exact ⟨(hb1.cell (p := ⟨b, off + j * 4 + 1, none⟩) hbl).trans p1, (hb1.cell (p := ⟨wr.heap.size, 1, none⟩) hzl).trans a1⟩ | go_keep) (first | (go_at_call 41; refine (HPL _).mono ?_; rintro e w1 ⟨rfl, hb1⟩))
          replace hb1 : Below W.heap.size W w1 := ((Below.refl W.heap.size W).drew).trans hb1
          have d1 := hbA.trans (hb1.mono hbA.size)
          have e1 := hbw.trans (d1.mono hbw.size)
          have hy1 := (HT.out.below e1 (Nat.le_refl _)).bad
          have HPF := Lib.hid (HP.out w1.drew HB.out e1.drew)
          unfold errV at hy1 HPF
          go_wp2
          go_quiet (fail)
          go_wp2
          go_ret2
          exact ⟨⟨HPF.out.1.os, HPF.out.1.tape, HPF.out.1.output, HPF.out.1.size, HPF.out.1.block⟩, HPF.out.2.imp id (fun h => by have h1 := h.2; obtain ⟨_, _, h2, _⟩ := h1; cases h2)⟩
        rw [hls] at HPL
        have HLS : Hid (j + 1 = 0 ∨ ∃ h : 0 < j + 1, lessB (l[j + 1 - 1]'(by omega)).p l[j + 1].p = true) := .inr ⟨by omega, hls⟩
        clear hls
        go_wp2
        go_region_held3 (fun w' => w'.cell? ⟨b, off + j * 4 + 1, none⟩ = some (.string (l[j]'(by omega)).p) ∧ w'.cell? ⟨wr.heap.size, 1, none⟩ = some (.string l[j + 1].p)) (first | exact ⟨p1, a1⟩ | exact ⟨(hb1.cell (p := ⟨b, off + j * 4 + 1, none⟩) hbl).trans p1, (hb1.cell (p := ⟨wr.heap.size, 1, none⟩) hzl).trans a1⟩ | go_keep) (first | (go_at_call 41; refine (HPL _).mono ?_; rintro e w1 ⟨rfl, hb1⟩))
        replace hb1 : Below W.heap.size W w1 := ((Below.refl W.heap.size W).drew).trans hb1
        have hTW := HT.out.below (hbw.trans ((hbA.trans (hb1.mono hbA.size)).mono hbw.size)) (Nat.le_refl _)
        have hzW : wr.heap.size < W.heap.size := by omega
        have b0 := (hb1.cell (p := ⟨wr.heap.size, 0, none⟩) hzW).trans a0
        have b1 := (hb1.cell (p := ⟨wr.heap.size, 1, none⟩) hzW).trans a1
        have b2 := (hb1.cell (p := ⟨wr.heap.size, 2, none⟩) hzW).trans a2
        have b3 := (hb1.cell (p := ⟨wr.heap.size, 3, none⟩) hzW).trans a3
        have d1 := hbA.trans (hb1.mono hbA.size)
        have HCN := checkNode_any l[j + 1] hko hq x y _ hTW
        unfold R.nod at HCN
        clear hTW
        go_wp2_with fail
        refine HCN.mono ?_
        rintro e w2 ⟨rfl, hb2⟩
        have d2 := d1.trans (hb2.mono d1.size)
        have e2 := hbw.trans (d2.mono hbw.size)
        rcases Bool.eq_false_or_eq_true (nodeK l[j + 1]) with hnk | hnk
        case inr =>
          have HV : Hid (nodeV l[j + 1] y = errV y) := by show _ = _; unfold nodeV; rw [hnk]; rfl
          have HB : Hid (¬ Tree l) := fun ht => by
            obtain ⟨_, g1, g2, _⟩ := grow_all ht hlt
            unfold nodeK at hnk
            rw [decide_eq_true g1, g2] at hnk
            cases hnk
          have HPF := Lib.hid (HP.out w2 HB.out e2)
          rw [HV.out]
          unfold errV at HPF ⊢
          clear hnk
          go_wp2_with fail
          go_ret2
          exact HPF.out
        have HV : Hid (nodeV l[j + 1] y = .nilIface) := by show _ = _; unfold nodeV; rw [hnk]; rfl
        have hnk4 : l[j + 1].k ≠ 4 ∧ l[j + 1].fault = 0 := by
          unfold nodeK at hnk
          simpa using hnk
        have HNK := Lib.hid hnk4
        have hpath := (fault_path hnk4.2).1
        clear hnk hnk4
        rw [HV.out]
        have hzw2 : wr.heap.size < W.heap.size := by omega
        have r1 := (hb2.cell (p := ⟨wr.heap.size, 1, none⟩) (Nat.lt_of_lt_of_le hzW hb1.size)).trans b1
        have hTr2 := HTr.out.below d2
        have HPL := placeFor_any hTr2 HTk.out.is (by rw [List.length_take]; omega) l[j + 1].p hq hpath
        rw [HA.out] at HPL
        unfold ptr at HPL
        clear b0 b2 b3
        go_wp2_with fail
        refine HPL.mono ?_
        rintro e w3 ⟨rfl, hb3⟩
        have d3 := d2.trans (hb3.mono d2.size)
        have e3 := hbw.trans (d3.mono hbw.size)
        by_cases hpc : placeC (l.take (j + 1)) l[j + 1].p = 0
        case neg =>
          have HB : Hid (¬ Tree l) := fun ht => hpc (grow_all ht hlt).2.2.2
          have HPF := Lib.hid (HP.out w3.drew HB.out e3.drew)
          have hd : (placeC (l.take (j + 1)) l[j + 1].p != 0) = true := by simpa using hpc
          have hy3 := (HT.out.below e3 (Nat.le_refl _)).bad
          unfold placeV
          rw [if_neg hpc]
          unfold errV at hy3 HPF
          clear hpc
          go_wp2
          go_quiet (fail)
          go_wp2
          go_ret2
          exact ⟨⟨HPF.out.1.os, HPF.out.1.tape, HPF.out.1.output, HPF.out.1.size, HPF.out.1.block⟩, HPF.out.2.imp id (fun h => by have h1 := h.2; obtain ⟨_, _, h2, _⟩ := h1; cases h2)⟩
        obtain ⟨xr, hxm, hxp⟩ := (place_home hpath hpc).1
        obtain ⟨hTk1, hput⟩ := grow_good hlt HTk.out h24' HLS.out HNK.out.1 HNK.out.2 hpc
        have hnew := (place_ok hpc).1
        have s0 := (hb1.cell (p := ⟨wr.heap.size, 0, none⟩) hzW).trans a0
        have hTr3 := hTr2.below hb3
        have hzw3 : wr.heap.size < w2.heap.size := Nat.lt_of_lt_of_le hzW (Nat.le_trans hb1.size hb2.size)
        have hww : W.heap.size ≤ w3.heap.size := Nat.le_trans hb1.size (Nat.le_trans hb2.size hb3.size)
        have hbW3 : Below W.heap.size W w3 := (hb1.trans (hb2.mono hb1.size)).trans (hb3.mono (Nat.le_trans hb1.size hb2.size))
        have q0 := (hbW3.cell (p := ⟨wr.heap.size, 0, none⟩) hzW).trans a0
        have q1 := (hbW3.cell (p := ⟨wr.heap.size, 1, none⟩) hzW).trans a1
        have q2 := (hbW3.cell (p := ⟨wr.heap.size, 2, none⟩) hzW).trans a2
        have q3 := (hbW3.cell (p := ⟨wr.heap.size, 3, none⟩) hzW).trans a3
        have HAT := attach_any hTr3 HTk.out.is (by rw [List.length_take]; omega) hpath hq hxm hxp hnew
        rw [hxp] at HAT
        unfold ptr R.nod at HAT
        have HPUT := Lib.hid hput
        have HTK1 := Lib.hid hTk1
        unfold placeV
        rw [hpc, if_pos rfl]
        clear hpc hput hTk1 hxm hxp hnew s0
        go_wp2_with fail
        refine HAT.mono ?_
        rintro e w4 ⟨⟨v4, rfl⟩, A', S', hTr4, hb4, hA4⟩
        rw [HPUT.out] at hTr4
        go_wp2_with fail
        exact ⟨⟨j + 1 + 1, A', S', by omega, by go_num, HTK1, hTr4, hA4.trans HA.out, e3.trans hb4⟩, by simp [intOf]; omega⟩
    · obtain rfl : k = l.length := by omega
      have hTl : Tree l := by have := HTk.out; rwa [List.take_length] at this
      have hTrl : Tr wr w.heap.size A S l := by have := HTr.out; rwa [List.take_length] at this
      have HF : Hid (GrowPost l x y w (.returned (.tuple #[.pointer (some ⟨w.heap.size, 0, none⟩), .nilIface])) wr) := by
        refine ⟨hbw, .inr ⟨grow_fine hTl, A, S, ?_, hTrl⟩⟩
        unfold ptr
        rw [HA.out]
      clear hTl hTrl
      go_wp2
      go_ret2
      exact HF.out
end Go.Proofs.YtciflchaepchiabGreatDoor.Recs
