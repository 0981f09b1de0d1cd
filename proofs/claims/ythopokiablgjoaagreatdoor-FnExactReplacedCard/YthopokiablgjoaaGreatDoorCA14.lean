/- Parts of several texts of mine in one file (each begins with its own remark). -/
import Derived.Test.YthopokiablgjoaaGreatDoorCA1
import Derived.Test.YthopokiablgjoaaGreatDoorCA10
import Derived.Test.YthopokiablgjoaaGreatDoorCA11
import Derived.Test.YthopokiablgjoaaGreatDoorCA12
import Derived.Test.YthopokiablgjoaaGreatDoorCA13
import Derived.Test.YthopokiablgjoaaGreatDoorCA2
import Derived.Test.YthopokiablgjoaaGreatDoorCA3
import Derived.Test.YthopokiablgjoaaGreatDoorCA4
import Derived.Test.YthopokiablgjoaaGreatDoorCA5
import Derived.Test.YthopokiablgjoaaGreatDoorCA6
import Derived.Test.YthopokiablgjoaaGreatDoorCA7
import Derived.Test.YthopokiablgjoaaGreatDoorCA8
import Derived.Test.YthopokiablgjoaaGreatDoorCA9
import Derived.Test.YthopokiablgjoaaGreatDoorChecked
import Derived.Test.YthopokiablgjoaaGreatDoorRows
import Derived.Test.YthopokiablgjoaaGreatDoorProg
import Derived.Test.YthopokiablgjoaaGreatDoorShelf
import Derived.Laws.AppendOwnNone
import Derived.StillTailTactics
import Derived.Laws.OwnMore
import Derived.BigQuiet
import Derived.BigRegion
import Derived.Deep.QuietTactic
import Derived.Deep.RegionHeld3
import Derived.Deep.Slices
import Derived.OpenShut
import Derived.ShutString
import Derived.ChangeArms
import Derived.WideShapes
import Derived.Lib.LaidTab
import Derived.Deep.Draws
import Derived.Deep.LoopGhost
import Derived.WalkKit
import Derived.WalkSpells
import Derived.WalkSmall
import Derived.Lib.OthersKept
import Derived.Lib.Hide
import Derived.Lib.Strings
import Derived.Lib.Join
import Derived.Laws.BytesArg
import Derived.Deep.RegionWith
import Derived.OneCell
import Derived.Lib.SliceRun
import Derived.Lib.Overlaps
import Derived.Lib.AppendZerosOnto
import Derived.Laws.NewBlocks
import Derived.Laws.IdiomCopy
import Derived.Deep.RegionLaw
import Derived.ChangeVars
import Derived.Deep.DeepHandedRow
import Derived.LaidEql
import Derived.Stop.Asserts
import Derived.Below
import Derived.Stop.LaidErr
import Derived.Stop.LaidTwo
import Derived.WalkLawsBesides
/- A stack with layers in its middle replaced by one, of the model. -/
namespace Go.Proofs.YthopokiablgjoaaGreatDoor.Recs
set_option maxRecDepth 100000
open Go.RowKit Paths

theorem drop_take_snoc {LL : List (List R)} {t k : Nat} (h : k < LL.length) (htk : t ≤ k) : (LL.take k).drop t ++ [LL[k]] = (LL.take (k + 1)).drop t := by
  rw [List.take_succ_eq_append_getElem h, List.drop_append_of_le_length (by rw [List.length_take]; omega)]

set_option maxHeartbeats 6400000 in
theorem l06Put_any (v x0 : Value) (LL : List (List R)) (X : List R) (f t base : Nat) (w : World) (h : StkGood w v LL) (hl : LL.length ≤ 5) (hll : ∀ l ∈ LL, l.length ≤ 16) (hf : f ≤ LL.length) (ht : t ≤ LL.length) (hx : RowOf w base x0 X.length X) (hbase : base ≤ w.heap.size) :
    Calls Tryz.prog 103 #[v, .int .i64 f, .int .i64 t, x0] w fun e w' => ∃ z, e = .returned z ∧ Below w.heap.size w w' ∧ StkOwn w' w.heap.size base z (LL.take f ++ [X] ++ LL.drop t) := by
  obtain ⟨i0, hi, hI0, hI1, hI2⟩ := info_parts recInfo
  obtain ⟨s0, hs, hS0, hS1, hS2⟩ := info_parts ssInfo
  obtain ⟨sA, cap, rfl, hcap, h⟩ := h
  have H := Lib.hid h
  have HLL := Lib.hid hll
  have HX := Lib.hid hx
  obtain ⟨xA0, xc0, rfl⟩ := hx.form
  clear h hll hx
  have hb0 : Below w.heap.size w (w.alloc (.cells #[] 23)) := (Below.refl _ _).alloc (Nat.le_refl _) _
  have HS0 : Hid (StkOwn (w.alloc (.cells #[] 23)) w.heap.size w.heap.size (.slice (some ⟨w.heap.size, 0, none⟩) 0 0) []) := ⟨[], rfl, World.ownsRow_lit w #[] 0 (Nat.le_refl _) (Nat.zero_le _) rfl, fun i u l h => by simp at h, fun i k u u' c h => by simp at h⟩
  go_enter Tryz.func103, Tryz.ntmps103
  go_wp2
  go_loopw [9, 10] (fun o i wr => ∃ k : Nat, k ≤ f ∧ i = .int .i64 k ∧ Hid (StkOwn wr w.heap.size w.heap.size o (LL.take k)) ∧ Below w.heap.size w wr) (fun _ i _ => f - (intOf i).toNat)
  case atStart => exact ⟨0, by omega, rfl, HS0, hb0⟩
  case round =>
    obtain ⟨k, hk, rfl, HS, hbw⟩ := hrel
    by_cases hkf : k < f
    · have hlt : k < LL.length := by omega
      have hdf : decide ((k : Int) < (f : Int)) = true := decide_eq_true (by omega)
      have hpf : (k : Int) < (f : Int) := by omega
      have HTK := Lib.hid (stk_take hlt)
      obtain ⟨us, hn, ho, h1, h2⟩ := HS.out
      have hkl : (LL.take k).length = k := by rw [List.length_take]; omega
      rw [hkl] at hn ho
      obtain ⟨fA, fcap, rfl⟩ := own_form ho
      obtain ⟨b, off, rfl, hb, hcell⟩ := H.out (by omega)
      obtain ⟨u, hu0, hur, hpl⟩ := hcell k LL[k] (by simp [hlt])
      have hu : wr.cell? ⟨b, off + k, none⟩ = some u := (hbw.cell (p := ⟨b, off + k, none⟩) hb).trans hu0
      have hur2 := hur.below hbw
      have hl16 := HLL.out LL[k] (List.getElem_mem hlt)
      have hi1 : (k : Int) < (LL.length : Int) := by omega
      have hi0 : (0 : Int) ≤ (k : Int) := by omega
      have eL : Below wr.heap.size wr (wr.alloc (.cells #[] 52)) := (Below.refl _ _).alloc (Nat.le_refl _) _
      have hE0 : (wr.alloc (.cells #[] 52)).ownsRow wr.heap.size 52 5 (.slice (some ⟨wr.heap.size, 0, none⟩) 0 0) 0 [] := World.ownsRow_lit wr #[] 0 (Nat.le_refl _) (Nat.zero_le _) rfl
      have huL : (wr.alloc (.cells #[] 52)).cell? ⟨b, off + k, none⟩ = some u := cell?_alloc_old _ hu
      have hurL := hur2.below eL
      have hszr := hbw.size
      clear hcell hu0 hur
      have HMID : Hid (∀ x w5, w5.ownsRow wr.heap.size 52 5 x LL[k].length (flat LL[k]) → Below wr.heap.size wr w5 → (∃ A c, x = .slice A LL[k].length c) ∧ (w5.alloc (.cells #[x] 23)).ownsRow w.heap.size 23 1 (.slice fA (k) fcap) (k) us ∧ w.heap.size ≤ (w5.alloc (.cells #[x] 23)).heap.size ∧ (∀ y ∈ [x], y.oneCell' = true) ∧
          ∀ v' w9, w9.ownsRow w.heap.size 23 1 v' (k + 1) (us ++ [x]) → (w5.alloc (.cells #[x] 23)).grownBy w9 (Value.slice fA (k) fcap).ownBlock → StkOwn w9 w.heap.size w.heap.size v' (LL.take k ++ [LL[k]]) ∧ Below w.heap.size w w9) := fun x w5 hx hb5 => by
        have eA : Below w5.heap.size w5 (w5.alloc (.cells #[x] 23)) := (Below.refl _ _).alloc (Nat.le_refl _) _
        have bA := hb5.trans (eA.mono hb5.size)
        have hbA := hbw.trans (bA.mono hbw.size)
        have hoA := own_below ho bA
        have hxr : RowOf w5 wr.heap.size x LL[k].length LL[k] := ⟨rfl, hx⟩
        refine ⟨hxr.form, hoA, hbA.size, ?_, fun v' w9 hown hg => ⟨?_, hbA.grown hg hbA.size (fun j hj => (ho.lt j hj).1)⟩⟩
        · intro y hy
          rw [List.mem_singleton.1 hy]
          obtain ⟨A, c, rfl⟩ := hxr.form
          rfl
        · have hxA := hxr.below eA
          refine stk_snoc (LL := LL.take k) (l := LL[k]) (by rw [hkl]; exact hn) (by rw [hkl]; exact hoA) (fun i u l hi hl => (h1 i u l hi hl).below bA) h2 ⟨rfl, own_down hxA.2 (by omega)⟩ (fun i u c hi hc e => ?_) (by rw [hkl]; exact hown) hg
          have e1 := (hxr.2.lt c e).1
          have hil : i < (LL.take k).length := by have := (List.getElem?_eq_some_iff.1 hi).1; rw [hkl]; omega
          have e2 := ((h1 i u _ hi (List.getElem?_eq_getElem hil)).2.lt c hc).2
          omega
      clear h1 h2 HS hur2
      rcases hpl with rfl | ⟨ad, m, c, rfl⟩
      · have hz := sl_none hurL
        have hk0 : LL[k].length = 0 := by rw [hz]; rfl
        obtain ⟨-, m1, m2, m3, m4⟩ := HMID.out (.slice (some ⟨wr.heap.size, 0, none⟩) 0 0) _ (by rw [hz]; exact hE0) eL
        clear hz hk0
        go_wp2_with (first
          | (at_builtin; refine wpList_append_own_none rfl _ _ 23 rfl wr.heap.size 52 i0 5 Tryz.underlying23 hi (.slice (some ⟨wr.heap.size, 0, none⟩) 0 0) 0 [] rfl hE0 rfl ?_)
          | (at_builtin; refine wpList_append_own _ rfl _ _ 36 rfl w.heap.size 23 s0 (.slice none 0 0) 1 24 Tryz.underlying36 hs hS0 hS1 hS2 rfl (by decide) _ _ _ rfl m1 ⟨(wr.alloc (.cells #[] 52)).heap.size, 0, none⟩ 1 1 [.slice (some ⟨wr.heap.size, 0, none⟩) 0 0] (by simp [Act.eval]) rfl (cell_one_new _ _ _) m3 (by unfold maxLen; omega) (by omega) m2 ?_; intro v' w9 hown' hgrow9 hnil9))
        obtain ⟨r1, r2⟩ := m4 _ _ hown' hgrow9
        exact ⟨⟨k + 1, by omega, by go_num, by have q := r1; rw [HTK.out] at q; exact q, r2⟩, by simp [intOf]; omega⟩
      · obtain ⟨rfl, hsrc⟩ := sl_srcs hurL
        have hfl := flat_len LL[k]
        have hone : ∀ u ∈ flat LL[k], u.oneCell' = true := fun u hu => by
          unfold flat at hu
          obtain ⟨r, _, hr⟩ := List.mem_flatMap.1 hu
          exact rec_one r u hr
        have HM5 : Hid (∀ x w5, w5.ownsRow wr.heap.size 52 5 x (0 + LL[k].length) ([] ++ flat LL[k]) → (wr.alloc (.cells #[] 52)).grownBy w5 (Value.slice (some ⟨wr.heap.size, 0, none⟩) 0 0).ownBlock → w5.ownsRow wr.heap.size 52 5 x LL[k].length (flat LL[k]) ∧ Below wr.heap.size wr w5) := fun x w5 hx hg5 => ⟨by simpa using hx, eL.grown hg5 eL.size (fun j hj => (hE0.lt j hj).1)⟩
        clear hurL
        go_wp2_with (first
          | (at_builtin; refine wpList_append_own _ rfl _ _ 23 rfl wr.heap.size 52 i0 (.agg #[.int .i64 0, .string ByteArray.empty, .string ByteArray.empty, .int .i64 0, .bool false]) 5 56 Tryz.underlying23 hi hI0 hI1 hI2 rfl (by decide) _ _ _ rfl hE0 ad LL[k].length c (flat LL[k]) rfl hfl hsrc hone (by unfold maxLen; omega) (by omega) eL.size ?_; intro x w5 hx5 hg5 hn5; obtain ⟨q1, q2⟩ := HM5.out x w5 hx5 hg5; obtain ⟨⟨xA, xc, rfl⟩, m1, m2, m3, m4⟩ := HMID.out x w5 q1 q2)
          | (at_builtin; refine wpList_append_own _ rfl _ _ 36 rfl w.heap.size 23 s0 (.slice none 0 0) 1 24 Tryz.underlying36 hs hS0 hS1 hS2 rfl (by decide) _ _ _ rfl m1 ⟨w5.heap.size, 0, none⟩ 1 1 [.slice xA LL[k].length xc] rfl rfl (cell_one_new _ _ _) m3 (by unfold maxLen; omega) (by omega) m2 ?_; intro v' w9 hown' hgrow9 hnil9))
        obtain ⟨r1, r2⟩ := m4 _ _ hown' hgrow9
        exact ⟨⟨k + 1, by omega, by go_num, by have q := r1; rw [HTK.out] at q; exact q, r2⟩, by simp [intOf]; omega⟩
    · have hkf2 : k = f := by omega
      obtain ⟨k0, hk00⟩ : ∃ k0, k0 = k := ⟨_, rfl⟩
      subst hk00
      subst hkf2
      have hdf : decide ((k0 : Int) < (k0 : Int)) = false := by simp
      obtain ⟨us, hn, ho, h1, h2⟩ := HS.out
      have hkl : (LL.take k0).length = k0 := by rw [List.length_take]; omega
      rw [hkl] at hn ho
      obtain ⟨fA, fcap, rfl⟩ := own_form ho
      have eA : Below wr.heap.size wr (wr.alloc (.cells #[.slice xA0 X.length xc0] 23)) := (Below.refl _ _).alloc (Nat.le_refl _) _
      have hbA := hbw.trans (eA.mono hbw.size)
      have hoA := own_below ho eA
      have hszA := hbA.size
      have HFIN : Hid (∀ v' w9, w9.ownsRow w.heap.size 23 1 v' (k0 + 1) (us ++ [.slice xA0 X.length xc0]) → (wr.alloc (.cells #[.slice xA0 X.length xc0] 23)).grownBy w9 (Value.slice fA k0 fcap).ownBlock → StkOwn w9 w.heap.size base v' (LL.take k0 ++ [X]) ∧ Below w.heap.size w w9) := fun v' w9 hown hg => by
        refine ⟨?_, hbA.grown hg hbA.size (fun j hj => (ho.lt j hj).1)⟩
        refine stk_snoc (LL := LL.take k0) (l := X) (by rw [hkl]; exact hn) (by rw [hkl]; exact hoA) (fun i u l hi hl => ⟨rfl, own_down ((h1 i u l hi hl).below eA).2 hbase⟩) h2 (HX.out.below hbA) (fun i u c hi hc e => ?_) (by rw [hkl]; exact hown) hg
        have hil : i < (LL.take k0).length := by have := (List.getElem?_eq_some_iff.1 hi).1; rw [hkl]; omega
        have e2 := ((h1 i u _ hi (List.getElem?_eq_getElem hil)).2.lt c hc).1
        have e1 := (HX.out.2.lt c e).2
        omega
      clear h1 h2 HS
      go_wp2_with (first
        | (at_builtin; refine wpList_append_own _ rfl _ _ 36 rfl w.heap.size 23 s0 (.slice none 0 0) 1 24 Tryz.underlying36 hs hS0 hS1 hS2 rfl (by decide) _ _ _ rfl hoA ⟨wr.heap.size, 0, none⟩ 1 1 [.slice xA0 X.length xc0] rfl rfl (cell_one_new _ _ _) (fun y hy => by rw [List.mem_singleton.1 hy]; rfl) (by unfold maxLen; omega) (by omega) hszA ?_; intro v' w9 hown' hgrow9 hnil9))
      obtain ⟨r1, r2⟩ := HFIN.out _ _ hown' hgrow9
      have HS1 := Lib.hid r1
      have HB1 := Lib.hid r2
      clear hown' hgrow9 hnil9 HFIN hoA eA hbA hszA ho hn
      go_loopw [9, 11] (fun o i wr => ∃ j : Nat, t ≤ j ∧ j ≤ LL.length ∧ i = .int .i64 j ∧ Hid (StkOwn wr w.heap.size base o (LL.take k0 ++ [X] ++ (LL.take j).drop t)) ∧ Below w.heap.size w wr) (fun _ i _ => LL.length - (intOf i).toNat)
      case atStart => exact ⟨t, Nat.le_refl _, ht, rfl, by have e : (LL.take t).drop t = [] := List.drop_eq_nil_of_le (by rw [List.length_take]; omega); rw [e, List.append_nil]; exact HS1, HB1.out⟩
      case round =>
        obtain ⟨k, htk, hk, rfl, HS, hbw⟩ := hrel
        by_cases hlt : k < LL.length
        · have HTK := Lib.hid (drop_take_snoc hlt htk)
          obtain ⟨us, hn, ho, h1, h2⟩ := HS.out
          have hkl : (LL.take k0 ++ [X] ++ (LL.take k).drop t).length = k0 + 1 + (k - t) := by simp [List.length_take]; omega
          rw [hkl] at hn ho
          obtain ⟨fA, fcap, rfl⟩ := own_form ho
          obtain ⟨b, off, rfl, hb, hcell⟩ := H.out (by omega)
          obtain ⟨u, hu0, hur, hpl⟩ := hcell k LL[k] (by simp [hlt])
          have hu : wr.cell? ⟨b, off + k, none⟩ = some u := (hbw.cell (p := ⟨b, off + k, none⟩) hb).trans hu0
          have hur2 := hur.below hbw
          have hl16 := HLL.out LL[k] (List.getElem_mem hlt)
          have hi1 : (k : Int) < (LL.length : Int) := by omega
          have hi0 : (0 : Int) ≤ (k : Int) := by omega
          have eL : Below wr.heap.size wr (wr.alloc (.cells #[] 52)) := (Below.refl _ _).alloc (Nat.le_refl _) _
          have hE0 : (wr.alloc (.cells #[] 52)).ownsRow wr.heap.size 52 5 (.slice (some ⟨wr.heap.size, 0, none⟩) 0 0) 0 [] := World.ownsRow_lit wr #[] 0 (Nat.le_refl _) (Nat.zero_le _) rfl
          have huL : (wr.alloc (.cells #[] 52)).cell? ⟨b, off + k, none⟩ = some u := cell?_alloc_old _ hu
          have hurL := hur2.below eL
          have hszr := hbw.size
          clear hcell hu0 hur
          have HMID : Hid (∀ x w5, w5.ownsRow wr.heap.size 52 5 x LL[k].length (flat LL[k]) → Below wr.heap.size wr w5 → (∃ A c, x = .slice A LL[k].length c) ∧ (w5.alloc (.cells #[x] 23)).ownsRow w.heap.size 23 1 (.slice fA (k0 + 1 + (k - t)) fcap) (k0 + 1 + (k - t)) us ∧ w.heap.size ≤ (w5.alloc (.cells #[x] 23)).heap.size ∧ (∀ y ∈ [x], y.oneCell' = true) ∧
              ∀ v' w9, w9.ownsRow w.heap.size 23 1 v' (k0 + 1 + (k - t) + 1) (us ++ [x]) → (w5.alloc (.cells #[x] 23)).grownBy w9 (Value.slice fA (k0 + 1 + (k - t)) fcap).ownBlock → StkOwn w9 w.heap.size base v' (LL.take k0 ++ [X] ++ (LL.take k).drop t ++ [LL[k]]) ∧ Below w.heap.size w w9) := fun x w5 hx hb5 => by
            have eA : Below w5.heap.size w5 (w5.alloc (.cells #[x] 23)) := (Below.refl _ _).alloc (Nat.le_refl _) _
            have bA := hb5.trans (eA.mono hb5.size)
            have hbA := hbw.trans (bA.mono hbw.size)
            have hoA := own_below ho bA
            have hxr : RowOf w5 wr.heap.size x LL[k].length LL[k] := ⟨rfl, hx⟩
            refine ⟨hxr.form, hoA, hbA.size, ?_, fun v' w9 hown hg => ⟨?_, hbA.grown hg hbA.size (fun j hj => (ho.lt j hj).1)⟩⟩
            · intro y hy
              rw [List.mem_singleton.1 hy]
              obtain ⟨A, c, rfl⟩ := hxr.form
              rfl
            · have hxA := hxr.below eA
              refine stk_snoc (LL := LL.take k0 ++ [X] ++ (LL.take k).drop t) (l := LL[k]) (by rw [hkl]; exact hn) (by rw [hkl]; exact hoA) (fun i u l hi hl => (h1 i u l hi hl).below bA) h2 ⟨rfl, own_down hxA.2 (by omega)⟩ (fun i u c hi hc e => ?_) (by rw [hkl]; exact hown) hg
              have e1 := (hxr.2.lt c e).1
              have hil : i < (LL.take k0 ++ [X] ++ (LL.take k).drop t).length := by have := (List.getElem?_eq_some_iff.1 hi).1; rw [hkl]; omega
              have e2 := ((h1 i u _ hi (List.getElem?_eq_getElem hil)).2.lt c hc).2
              omega
          clear h1 h2 HS hur2
          rcases hpl with rfl | ⟨ad, m, c, rfl⟩
          · have hz := sl_none hurL
            have hk0 : LL[k].length = 0 := by rw [hz]; rfl
            obtain ⟨-, m1, m2, m3, m4⟩ := HMID.out (.slice (some ⟨wr.heap.size, 0, none⟩) 0 0) _ (by rw [hz]; exact hE0) eL
            clear hz hk0
            go_wp2_with (first
              | (at_builtin; refine wpList_append_own_none rfl _ _ 23 rfl wr.heap.size 52 i0 5 Tryz.underlying23 hi (.slice (some ⟨wr.heap.size, 0, none⟩) 0 0) 0 [] rfl hE0 rfl ?_)
              | (at_builtin; refine wpList_append_own _ rfl _ _ 36 rfl w.heap.size 23 s0 (.slice none 0 0) 1 24 Tryz.underlying36 hs hS0 hS1 hS2 rfl (by decide) _ _ _ rfl m1 ⟨(wr.alloc (.cells #[] 52)).heap.size, 0, none⟩ 1 1 [.slice (some ⟨wr.heap.size, 0, none⟩) 0 0] (by simp [Act.eval]) rfl (cell_one_new _ _ _) m3 (by unfold maxLen; omega) (by omega) m2 ?_; intro v' w9 hown' hgrow9 hnil9))
            obtain ⟨r1, r2⟩ := m4 _ _ hown' hgrow9
            exact ⟨⟨k + 1, by omega, by omega, by go_num, by have q := r1; rw [List.append_assoc, HTK.out] at q; exact q, r2⟩, by simp [intOf]; omega⟩
          · obtain ⟨rfl, hsrc⟩ := sl_srcs hurL
            have hfl := flat_len LL[k]
            have hone : ∀ u ∈ flat LL[k], u.oneCell' = true := fun u hu => by
              unfold flat at hu
              obtain ⟨r, _, hr⟩ := List.mem_flatMap.1 hu
              exact rec_one r u hr
            have HM5 : Hid (∀ x w5, w5.ownsRow wr.heap.size 52 5 x (0 + LL[k].length) ([] ++ flat LL[k]) → (wr.alloc (.cells #[] 52)).grownBy w5 (Value.slice (some ⟨wr.heap.size, 0, none⟩) 0 0).ownBlock → w5.ownsRow wr.heap.size 52 5 x LL[k].length (flat LL[k]) ∧ Below wr.heap.size wr w5) := fun x w5 hx hg5 => ⟨by simpa using hx, eL.grown hg5 eL.size (fun j hj => (hE0.lt j hj).1)⟩
            clear hurL
            go_wp2_with (first
              | (at_builtin; refine wpList_append_own _ rfl _ _ 23 rfl wr.heap.size 52 i0 (.agg #[.int .i64 0, .string ByteArray.empty, .string ByteArray.empty, .int .i64 0, .bool false]) 5 56 Tryz.underlying23 hi hI0 hI1 hI2 rfl (by decide) _ _ _ rfl hE0 ad LL[k].length c (flat LL[k]) rfl hfl hsrc hone (by unfold maxLen; omega) (by omega) eL.size ?_; intro x w5 hx5 hg5 hn5; obtain ⟨q1, q2⟩ := HM5.out x w5 hx5 hg5; obtain ⟨⟨xA, xc, rfl⟩, m1, m2, m3, m4⟩ := HMID.out x w5 q1 q2)
              | (at_builtin; refine wpList_append_own _ rfl _ _ 36 rfl w.heap.size 23 s0 (.slice none 0 0) 1 24 Tryz.underlying36 hs hS0 hS1 hS2 rfl (by decide) _ _ _ rfl m1 ⟨w5.heap.size, 0, none⟩ 1 1 [.slice xA LL[k].length xc] rfl rfl (cell_one_new _ _ _) m3 (by unfold maxLen; omega) (by omega) m2 ?_; intro v' w9 hown' hgrow9 hnil9))
            obtain ⟨r1, r2⟩ := m4 _ _ hown' hgrow9
            exact ⟨⟨k + 1, by omega, by omega, by go_num, by have q := r1; rw [List.append_assoc, HTK.out] at q; exact q, r2⟩, by simp [intOf]; omega⟩
        · have HF : Hid ((LL.take k).drop t = LL.drop t) := by show _ = _; rw [List.take_of_length_le (by omega)]
          go_wp2
          go_ret
          exact ⟨_, rfl, hbw, by have q := HS.out; rw [HF.out] at q; exact q⟩
end Go.Proofs.YthopokiablgjoaaGreatDoor.Recs

/- Layers: comparison of two lists of records, of the program and of its model. -/
namespace Go.Proofs.YthopokiablgjoaaGreatDoor.Recs
set_option maxRecDepth 100000
open Go.RowKit Paths

instance decR : DecidableEq R := fun x y =>
  if h : x.k = y.k ∧ x.m = y.m ∧ x.p = y.p ∧ x.b = y.b ∧ x.o = y.o then isTrue (by cases x; cases y; simp_all) else isFalse (fun e => h (by subst e; simp))
/-- Two records are alike, or one field is the first that is not. -/
theorem five (x y : R) : (x.k == y.k) = false ∨ ((x.k == y.k) = true ∧ (x.p.toList == y.p.toList) = false) ∨ ((x.k == y.k) = true ∧ (x.p.toList == y.p.toList) = true ∧ (x.b.toList == y.b.toList) = false) ∨
    ((x.k == y.k) = true ∧ (x.p.toList == y.p.toList) = true ∧ (x.b.toList == y.b.toList) = true ∧ (x.m == y.m) = false) ∨ ((x.k == y.k) = true ∧ (x.p.toList == y.p.toList) = true ∧ (x.b.toList == y.b.toList) = true ∧ (x.m == y.m) = true ∧ (x.o == y.o) = false) ∨
    ((x.k == y.k) = true ∧ (x.p.toList == y.p.toList) = true ∧ (x.b.toList == y.b.toList) = true ∧ (x.m == y.m) = true ∧ (x.o == y.o) = true) := by
  cases (x.k == y.k) <;> cases (x.p.toList == y.p.toList) <;> cases (x.b.toList == y.b.toList) <;> cases (x.m == y.m) <;> cases (x.o == y.o) <;> simp
end Go.Proofs.YthopokiablgjoaaGreatDoor.Recs

/- The code of the errors of a call's arguments. Conditions: the table of kinds, the two sentinels. -/
namespace Go.Proofs.YthopokiablgjoaaGreatDoor.Recs
set_option maxRecDepth 100000
open Go.RowKit Paths Errs

/-- An error that a check hands back: none, the sentinel of long arguments, or the one that names a record. -/
inductive EK where
  | fine
  | long
  | bad (i c : Int)
def EK.val (x : Addr) : EK → Value
  | .fine => .nilIface
  | .long => errV x
  | .bad i c => recV i c
end Go.Proofs.YthopokiablgjoaaGreatDoor.Recs

/- Layers: UnderOpaque, of the program and of its model. Conditions (of the program's): the table of kinds, the two sentinels. -/
namespace Go.Proofs.YthopokiablgjoaaGreatDoor.Recs
set_option maxRecDepth 100000
open Go.RowKit Paths Errs

def pm : Value → Nat
  | .string s => if s.size = 0 then 0 else (cutAt 47 s.data.toList).length
  | _ => 0
theorem parO_size {p : ByteArray} (h : parentL p.data.toList = []) : (parO p).size = 0 := by rw [Lib.size_eq, parO_data, h]; rfl
theorem path_pos {p : ByteArray} (h : pathB p.data.toList = true) : p.size ≠ 0 := fun e => by rw [pathB_empty e] at h; cases h
theorem pm_down {p : ByteArray} (h : pathB p.data.toList = true) : pm (.string (parO p)) < pm (.string p) := by
  have h0 := path_pos h
  have h1 : 0 < (cutAt 47 p.data.toList).length := cutAt_pos 47 _
  show (if (parO p).size = 0 then 0 else (cutAt 47 (parO p).data.toList).length) < (if p.size = 0 then 0 else (cutAt 47 p.data.toList).length)
  rw [if_neg h0]
  by_cases hp : parentL p.data.toList = []
  · rw [if_pos (parO_size hp)]; exact h1
  · obtain ⟨h2, h3⟩ := parts_parent h hp
    rw [if_neg (path_pos h2)]
    omega
/-- What is still to look at: none, or the path and what is above it. -/
def Left (l : List R) (u : Bool) (p : ByteArray) : Prop := (p.size = 0 ∧ u = false) ∨ (pathB p.data.toList = true ∧ u = (opaqueAt l p || underL l p))
theorem left_start {l : List R} {q : ByteArray} (h : pathB q.data.toList = true) : Left l (underL l q) (parO q) := by
  by_cases hp : parentL q.data.toList = []
  · exact .inl ⟨parO_size hp, by rw [underL_step l h, if_pos hp]⟩
  · exact .inr ⟨(parts_parent h hp).1, by rw [underL_step l h, if_neg hp]⟩
theorem left_next {l : List R} {u : Bool} {p : ByteArray} (h : pathB p.data.toList = true) (hu : u = (opaqueAt l p || underL l p)) (ho : opaqueAt l p = false) : Left l u (parO p) := by
  rw [ho, Bool.false_or] at hu
  rw [hu]
  exact left_start h
theorem opaque_none {l : List R} {p : ByteArray} (h : atL l p = -1) : opaqueAt l p = false := by unfold opaqueAt; rw [h]; rfl
theorem opaque_at {l : List R} {p : ByteArray} {j : Nat} (hj : j < l.length) (h : atL l p = (j : Int)) : opaqueAt l p = l[j].o := by
  unfold opaqueAt; rw [h]; simp [hj]

set_option maxHeartbeats 800000 in
theorem l03Under_any (v : Value) (l : List R) (q : ByteArray) (w : World) (h : RecSl w v l) (hl : l.length ≤ 1048576) (hq : pathB q.data.toList = true) :
    Calls Tryz.prog 120 #[v, .string q] w fun e w' => e = .returned (.bool (underL l q)) ∧ w = w' := by
  have hsl := h
  obtain ⟨A, cap, rfl, hcap, h⟩ := h
  have HS := Lib.hid hsl
  have H := Lib.hid h
  have HL0 := Lib.hid (left_start (l := l) hq)
  have hqs := path_short hq
  clear h hsl
  go_enter Tryz.func120, Tryz.ntmps120
  go_wp2_with fail
  refine (l01Parent_any q _ (by unfold maxLen; omega)).mono ?_
  rintro e w1 ⟨rfl, rfl⟩
  go_wp2_with fail
  go_loop [5] (fun p => ∃ P : ByteArray, p = .string P ∧ Hid (Left l (underL l q) P)) (fun p => pm p)
  case atStart => exact ⟨parO q, rfl, HL0⟩
  case round =>
    obtain ⟨P, rfl, HP⟩ := hrel
    rcases HP.out with ⟨h0, hu⟩ | ⟨hp, hu⟩
    · have HU := Lib.hid hu
      have he := isEmpty_true h0
      clear h0 hu
      go_wp2_with fail
      go_ret
      exact ⟨ret_bool HU.out.symm, rfl⟩
    · have HU := Lib.hid hu
      have he := isEmpty_false (Nat.pos_of_ne_zero (path_pos hp))
      have hps := path_short hp
      have HM := Lib.hid (pm_down hp)
      clear hu
      go_wp2_with fail
      refine (l03At_any _ l _ _ HS.out hl).mono ?_
      rintro e w1 ⟨rfl, rfl⟩
      rcases atL_cases l P with ⟨ha, -⟩ | ⟨j, hj, ha, -⟩
      · have HN := Lib.hid (left_next hp HU.out (opaque_none ha))
        rw [ha]
        go_wp2_with fail
        refine (l01Parent_any P _ (by unfold maxLen; omega)).mono ?_
        rintro e w1 ⟨rfl, rfl⟩
        go_wp2_with fail
        exact ⟨⟨parO P, rfl, HN⟩, HM.out⟩
      · have HO := Lib.hid (opaque_at hj ha)
        obtain ⟨b, off, rfl, hb, hcell⟩ := H.out (by omega)
        obtain ⟨_, _, _, _, f4⟩ := hcell j l[j] (by simp [hj])
        have j1 : (0 : Int) ≤ (j : Int) := by omega
        have j2 : (j : Int) < (l.length : Int) := by omega
        have j3 : decide ((0 : Int) ≤ (j : Int)) = true := by simp
        rw [ha]
        clear ha hcell
        rcases Bool.eq_false_or_eq_true l[j].o with ho | ho
        · have HF : Hid (underL l q = true) := by show _ = _; rw [HU.out, HO.out, ho]; rfl
          rw [ho] at f4
          go_wp2_with fail
          go_ret
          exact ⟨ret_bool HF.out.symm, rfl⟩
        · have HN := Lib.hid (left_next hp HU.out (HO.out.trans ho))
          rw [ho] at f4
          go_wp2_with fail
          refine (l01Parent_any P _ (by unfold maxLen; omega)).mono ?_
          rintro e w1 ⟨rfl, rfl⟩
          go_wp2_with fail
          exact ⟨⟨parO P, rfl, HN⟩, HM.out⟩

/-- The program's way to look comes to the same. -/
theorem under_gen {l : List R} (hs : Sorted l) (hf : ∀ r ∈ l, r.fault = 0) {q : ByteArray} (hq : pathB q.data.toList = true) : underI l q = underL l q := by
  rw [underL_any]
  unfold underI
  rw [Bool.eq_iff_iff, List.any_eq_true, List.any_eq_true]
  constructor
  · rintro ⟨r, hm, hr⟩
    have hp := (fault_path (hf r hm)).1
    simp only [Bool.and_eq_true] at hr
    rw [below_two (path_pos hp) hq hp, ← isUp_below hq, isUp_iff] at hr
    refine ⟨r.p, hr.2, ?_⟩
    rw [opaqueAt_eq, recAt_of (hs) hm]
    exact hr.1
  · rintro ⟨a, ha, ho⟩
    rw [opaqueAt_eq] at ho
    cases hr : recAt l a with
    | none => rw [hr] at ho; cases ho
    | some r =>
      rw [hr] at ho
      obtain ⟨hm, rfl⟩ := recAt_mem hr
      have hp := (fault_path (hf r hm)).1
      refine ⟨r, hm, ?_⟩
      simp only [Bool.and_eq_true]
      refine ⟨ho, ?_⟩
      rw [below_two (path_pos hp) hq hp, ← isUp_below hq, isUp_iff]
      exact ha
end Go.Proofs.YthopokiablgjoaaGreatDoor.Recs
