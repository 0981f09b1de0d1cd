/- Parts of several texts of mine in one file (each begins with its own remark). -/
import Derived.Test.YtciflchaepchiaaDoorFA10
import Derived.Test.YtciflchaepchiaaDoorFA11
import Derived.Test.YtciflchaepchiaaDoorFA2
import Derived.Test.YtciflchaepchiaaDoorFA3
import Derived.Test.YtciflchaepchiaaDoorFA4
import Derived.Test.YtciflchaepchiaaDoorFA5
import Derived.Test.YtciflchaepchiaaDoorFA6
import Derived.Test.YtciflchaepchiaaDoorFA7
import Derived.Test.YtciflchaepchiaaDoorFA8
import Derived.Test.YtciflchaepchiaaDoorFA9
import Derived.Test.YtciflchaepchiaaDoorChecked
import Derived.Test.YtciflchaepchiaaDoorShelf
import Derived.Test.YtciflchaepchiaaDoorProg
import Derived.Test.YtciflchaepchiaaDoorRows
import Derived.WalkMore
import Derived.ScopeJumps
import Derived.Deep.Cut
import Derived.Deep.RegionHeld3
import Derived.Laws.BytesArg
import Derived.Lib.ConvBytes
import Derived.Deep.Slices
import Derived.OpenShut
import Derived.ShutString
import Derived.ChangeArms
import Derived.WideShapes
import Derived.Lib.LaidTab
import Derived.BigQuiet
import Derived.Deep.QuietTactic
import Derived.StillTailTactics
import Derived.Deep.Draws
import Derived.Deep.LoopGhost
import Derived.WalkKit
import Derived.WalkSpells
import Derived.WalkSmall
import Derived.Lib.OthersKept
import Derived.Lib.Hide
import Derived.Lib.Strings
import Derived.Lib.Join
import Derived.WalkLawsBesides
import Derived.Below
import Derived.Shelf.Strings.Builder1
import Derived.Stop.LaidErr
import Derived.Laws.OwnMore
import Derived.BigRegion
import Derived.LaidEql
import Derived.Stop.Asserts
import Derived.Stop.LaidTwo
import Derived.ChangeVars
import Derived.Deep.DeepHandedRow
/- The layer in a text, or its first error: layerIn, DecodeLayer and FirstFault of the program. Condition: the table of kinds. -/
namespace Go.Proofs.YtciflchaepchiaaDoor.Recs
set_option maxRecDepth 100000
open Go.RowKit Paths

theorem dec_head {t : ByteArray} (h : headC t ≠ 0) : decL t = [] ∧ decA t = 0 ∧ decC t = headC t := by
  unfold headC at h ⊢
  unfold decL decA decC
  by_cases h1 : 65536 < t.size
  · simp only [if_pos h1]; simp
  · simp only [if_neg h1] at h ⊢
    have hs := Lib.size_eq t
    by_cases h2 : t.size < 4 ∨ t.data.toList.take 3 ≠ [76, 89, 82]
    · have e : wholeL t.data.toList = ([], 0, 3) := by unfold wholeL; rw [← hs]; exact if_pos h2
      rw [e, if_pos h2]; simp
    · rw [if_neg h2] at h; exact absurd rfl h
theorem dec_body {t : ByteArray} (h : headC t = 0) : t.size ≤ 65536 ∧ 4 ≤ t.size ∧ decL t = (wholeF (byAt t.data.toList 3) t.data.toList 4 []).1 ∧ decA t = (wholeF (byAt t.data.toList 3) t.data.toList 4 []).2.1 ∧ decC t = (wholeF (byAt t.data.toList 3) t.data.toList 4 []).2.2 := by
  unfold headC at h
  by_cases h1 : 65536 < t.size
  · rw [if_pos h1] at h; cases h
  · rw [if_neg h1] at h
    by_cases h2 : t.size < 4 ∨ t.data.toList.take 3 ≠ [76, 89, 82]
    · rw [if_pos h2] at h; cases h
    · have e : wholeL t.data.toList = wholeF (byAt t.data.toList 3) t.data.toList 4 [] := by
        unfold wholeL
        rw [← Lib.size_eq, if_neg h2]
      refine ⟨by omega, by omega, ?_, ?_, ?_⟩
      · unfold decL; rw [if_neg h1, e]
      · unfold decA; rw [if_neg h1, e]
      · unfold decC; rw [if_neg h1, e]
theorem whole_end (t : List UInt8) (a : Nat) (L : List R) : wholeF 0 t a L = if endC t a = 0 then (L, 0, 0) else ([], a, endC t a) := by
  unfold wholeF endC
  by_cases h1 : t.length ≠ a + 2
  · rw [if_pos h1, if_pos h1, if_neg (by decide)]
  · rw [if_neg h1, if_neg h1]
    by_cases h2 : t.drop a ≠ twoB (sumL (t.take a))
    · rw [if_pos h2, if_pos h2, if_neg (by decide)]
    · rw [if_neg h2, if_neg h2, if_pos rfl]
theorem whole_step {n a : Nat} {t : List UInt8} {L : List R} : wholeF (n + 1) t a L = if (nxR L (t.drop a)).2.2 ≠ 0 then ([], a, (nxR L (t.drop a)).2.2) else wholeF n t (a + sizT (t.drop a) + 2) (L ++ [recT (t.drop a)]) := by
  rw [wholeF]
  have hl : (t.drop a).length = t.length - a := List.length_drop
  by_cases h1 : fitT (t.drop a) = false ∨ t.length < a + sizT (t.drop a) + 2
  · have e : nxR L (t.drop a) = (zR, 0, 3) := nx_form (by rcases h1 with h | h; exact .inl h; exact .inr (by have := (siz_lt (t.drop a)).2; omega))
    rw [e, if_pos h1, if_pos (by decide)]
  · rw [if_neg h1]
    have hf : fitT (t.drop a) = true := by cases hq : fitT (t.drop a) with | true => rfl | false => exact absurd (.inl hq) h1
    have hz : sizT (t.drop a) + 2 ≤ (t.drop a).length := by have := (fit_sizes hf).1; rw [hl] at this ⊢; have : ¬ t.length < a + sizT (t.drop a) + 2 := fun h => h1 (.inr h); omega
    have hs := @sum_step_take (t.drop a) (sizT (t.drop a))
    rw [List.drop_drop] at hs
    by_cases h2 : ((t.drop (a + sizT (t.drop a))).take 2) ≠ twoB (sumL ((t.drop a).take (sizT (t.drop a))))
    · have e : nxR L (t.drop a) = (zR, 0, 15) := nx_sum hf hz (fun h => h2 (hs.1 h))
      rw [e, if_pos h2, if_pos (by decide)]
    · have e : nxR L (t.drop a) = (recT (t.drop a), (sizT (t.drop a) : Int) + 2, nxtC L (recT (t.drop a))) := nx_rec hf hz (hs.2 (by simpa using h2))
      rw [e, if_neg h2]
theorem nx_zero {L : List R} {t : List UInt8} (h : (nxR L t).2.2 = 0) : nxR L t = (recT t, (sizT t : Int) + 2, 0) ∧ sizT t + 2 ≤ t.length ∧ nxtC L (recT t) = 0 := by
  unfold nxR at h ⊢
  by_cases h1 : fitT t = false ∨ t.length < sizT t + 2
  · rw [if_pos h1] at h; cases h
  · rw [if_neg h1] at h ⊢
    by_cases h2 : withSumL (t.take (sizT t)) ≠ t.take (sizT t + 2)
    · rw [if_pos h2] at h; cases h
    · rw [if_neg h2] at h ⊢
      exact ⟨by rw [show nxtC L (recT t) = 0 from h], by have : ¬ t.length < sizT t + 2 := fun h => h1 (.inr h); omega, h⟩

/-- What holds at the jump. -/
def LJ (t : ByteArray) (w : World) (a' : Act) (w' : World) : Prop := ∃ (x c : Int) (u0 u1 u2 u3 u4 u5 u6 u8 u10 u11 u12 u13 u14 u15 u16 u17 u18 u19 u20 u21 u22 u23 u24 u25 u26 u27 u28 u29 u30 u31 u32 u33 u34 u35 u36 u37 u38 u39 u40 u41 u42 u43 u44 u45 : Value), a' = { tmps := #[u0, u1, u2, u3, u4, u5, u6, .int .i64 x, u8, .int .i64 c, u10, u11, u12, u13, u14, u15, u16, u17, u18, u19, u20, u21, u22, u23, u24, u25, u26, u27, u28, u29, u30, u31, u32, u33, u34, u35, u36, u37, u38, u39, u40, u41, u42, u43, u44, u45], defers := [] } ∧ Hid (decL t = [] ∧ (decA t : Int) = x ∧ decC t = c) ∧ Below w.heap.size w w'

set_option maxHeartbeats 6400000 in
theorem layerIn_any (t : ByteArray) (w : World) (ht : Tab w) :
    Calls Tryd.prog 42 #[.string t] w fun e w' => ∃ v, e = .returned (.tuple #[v, .int .i64 (decA t), .int .i64 (decC t)]) ∧ RowOf w' w.heap.size v (decL t).length (decL t) ∧ Below w.heap.size w w' := by
  obtain ⟨i0, hi, hI0, hI1, hI2⟩ := info_parts recInfo
  have eA : Below w.heap.size w (w.alloc (.cells #[.int .i64 0, .string ⟨#[]⟩, .string ⟨#[]⟩, .int .i64 0, .bool false] 27)) := (Below.refl _ _).alloc (Nat.le_refl _) _
  have HBX : Hid (RBox (w.alloc (.cells #[.int .i64 0, .string ⟨#[]⟩, .string ⟨#[]⟩, .int .i64 0, .bool false] 27)) w.heap.size zR) := heap_alloc_new w _
  go_enter Tryd.func42, Tryd.ntmps42
  go_wp2_with fail
  refine wp_scope_jumps 0 (LJ t w) (fun _ _ => 0) rfl ?_ ?_
  case refine_2 =>
    rintro a' w' ⟨x, c, u0, u1, u2, u3, u4, u5, u6, u8, u10, u11, u12, u13, u14, u15, u16, u17, u18, u19, u20, u21, u22, u23, u24, u25, u26, u27, u28, u29, u30, u31, u32, u33, u34, u35, u36, u37, u38, u39, u40, u41, u42, u43, u44, u45, rfl, HD, hb⟩
    obtain ⟨hl, ha, hc⟩ := HD.out
    go_wp2_with fail
    simp only [Exit.jump]
    refine bodyPost_ret (v := .tuple #[.slice none 0 0, .int .i64 x, .int .i64 c]) (by simp [results, Tryd.results42, go_sem]) rfl ⟨.slice none 0 0, by rw [ha, hc], by rw [hl]; exact ⟨rfl, World.ownsRow_nil _ _ _ _⟩, hb⟩
  · go_wp2_with fail
    generalize w.alloc (.cells #[.int .i64 0, .string ⟨#[]⟩, .string ⟨#[]⟩, .int .i64 0, .bool false] 27) = W at *
    by_cases hc : headC t = 0
    · have HC := headFault_any t W
      rw [hc] at HC
      obtain ⟨hs, h4, dl, da, dc⟩ := dec_body hc
      have HDL := Lib.hid dl
      have HDA := Lib.hid da
      have HDC := Lib.hid dc
      have i3 : (3 : Int) < (t.size : Int) := by omega
      have i3' : 3 < t.size := by omega
      have HBY := Lib.hid (byAt_of t i3')
      clear dl da dc hc
      refine HC.mono ?_
      rintro e w1 ⟨rfl, rfl⟩
      clear HC
      go_wp2_with fail
      obtain ⟨n, hn⟩ : ∃ n, t[3].toNat = n := ⟨_, rfl⟩
      (try rw [hn])
      have hn8 : n < 256 := by rw [← hn]; exact t[3].toNat_lt
      rw [hn] at HBY
      clear hn
      have hwn : wrap64 (n : Int) = (n : Int) := by unfold wrap64; omega
      (try rw [hwn])
      rw [HBY.out] at HDL HDA HDC
      clear hwn
      go_loopw [5, 7, 8, 9, 17] (fun f a s c i wr => ∃ (k m z : Nat) (L : List R) (r : R), k ≤ n ∧ i = .int .i64 k ∧ a = .int .i64 m ∧ s = .int .i64 z ∧ c = .int .i64 0 ∧ m ≤ t.size ∧ RowOf wr (w.heap.size + 1) f L.length L ∧ RBox wr w.heap.size r ∧ Hid (layerOK L = true ∧ wholeF n t.data.toList 4 [] = wholeF (n - k) t.data.toList m L) ∧ Below w.heap.size w wr) (fun _ _ _ _ i _ => n - (intOf i).toNat)
      case atStart => exact ⟨0, 4, 0, [], zR, by omega, rfl, rfl, rfl, rfl, h4, ⟨rfl, World.ownsRow_nil _ _ _ _⟩, HBX.out, ⟨by unfold layerOK layerFaultL; rw [faultFrom_end (by simp)]; rfl, rfl⟩, eA⟩
      case round =>
        obtain ⟨k, m, z, L, r, hk, rfl, rfl, rfl, rfl, hm, hrow, hbox, HWF, hbw⟩ := hrel
        obtain ⟨fA, fcap, rfl⟩ := hrow.form
        by_cases hlt : k < n
        · have hi1 : (k : Int) < (n : Int) := by omega
          have j0 : (0 : Int) ≤ (m : Int) := by omega
          have j1 : (m : Int) ≤ (t.size : Int) := by omega
          have hsz : m ≤ t.size := hm
          have HNX := nextRecord_any (.slice fA L.length fcap) L (t.extract m t.size) wr hrow.sl HWF.out.1 (by simp; omega) (ht.below hbw (Nat.le_refl _))
          rw [ext_drop] at HNX
          have HST : Hid (wholeF n t.data.toList 4 [] = wholeF ((n - k - 1) + 1) t.data.toList m L) := by show _ = _; rw [HWF.out.2]; congr 1; omega
          have HS2 := Lib.hid (@whole_step (n - k - 1) m t.data.toList L)
          have HN0 := Lib.hid (@nx_zero L (t.data.toList.drop m))
          have hdl : (t.data.toList.drop m).length = t.size - m := by rw [List.length_drop, ← Lib.size_eq]
          have hL16 := layer_len HWF.out.1
          have HBH := Lib.hid (fun r h => @behind_ok L r HWF.out.1 h)
          clear HWF
          obtain ⟨X, hX⟩ : ∃ X, nxR L (t.data.toList.drop m) = X := ⟨_, rfl⟩
          rw [hX] at HNX HS2 HN0
          clear hX
          obtain ⟨⟨k1, m1, p1, b1, o1⟩, s1, c1⟩ := X
          simp only at HNX HS2 HN0
          unfold R.val at HNX
          simp only at HNX
          by_cases hc1 : c1 = 0
          · subst hc1
            obtain ⟨hx0, hx1, hx2⟩ := HN0.out rfl
            obtain ⟨z1, hz1⟩ : ∃ z1, sizT (t.data.toList.drop m) = z1 := ⟨_, rfl⟩
            obtain ⟨r1, hr1⟩ : ∃ r1, recT (t.data.toList.drop m) = r1 := ⟨_, rfl⟩
            have hS3 := HS2.out
            rw [if_neg (by simp)] at hS3
            rw [hz1, hr1] at hS3
            rw [hz1, hr1] at hx0
            rw [hz1] at hx1
            rw [hr1] at hx2
            clear hz1 hr1 HN0 HS2
            obtain ⟨er, es⟩ : r1 = ⟨k1, m1, p1, b1, o1⟩ ∧ s1 = (z1 : Int) + 2 := by
              have h1 := congrArg Prod.fst hx0
              have h2 := congrArg (fun x => x.2.1) hx0
              exact ⟨h1.symm, h2⟩
            subst er
            subst es
            have HWN : Hid (layerOK (L ++ [⟨k1, m1, p1, b1, o1⟩]) = true ∧ wholeF n t.data.toList 4 [] = wholeF (n - (k + 1)) t.data.toList (m + z1 + 2) (L ++ [⟨k1, m1, p1, b1, o1⟩])) := ⟨HBH.out _ hx2, by rw [HST.out, hS3]; congr 1⟩
            have hmz : m + z1 + 2 ≤ t.size := by omega
            have hwr : IntKind.i64.wrap ((m : Int) + ((z1 : Int) + 2)) = (m : Int) + ((z1 : Int) + 2) := IntWalk.i64_in _ (by omega)
            clear hx0 hx1 hx2 hS3 HST HBH hdl
            go_wp2_with fail
            refine HNX.mono ?_
            rintro e w1 ⟨rfl, hb1⟩
            have c1 := hbw.trans (hb1.mono hbw.size)
            have hbox1 : RBox w1 w.heap.size r := (hb1.block _ hbox.lt).trans hbox
            have hbl := hbox1.lt
            have hrow1 := hrow.below hb1
            have hne1 : (Value.slice fA L.length fcap).ownBlock ≠ some w.heap.size := fun e => by have := (hrow.2.lt _ e).1; omega
            have hrw0 := hrow1.2
            have hrw1 := ownsRow_setCell_other (w := w1) (a := ⟨w.heap.size, 0, none⟩) hrw0 hne1 (.int .i64 k1)
            have hrw2 := ownsRow_setCell_other (w := (w1.setCell ⟨w.heap.size, 0, none⟩ (.int .i64 k1))) (a := ⟨w.heap.size, 1, none⟩) hrw1 hne1 (.string p1)
            have hrw3 := ownsRow_setCell_other (w := ((w1.setCell ⟨w.heap.size, 0, none⟩ (.int .i64 k1)).setCell ⟨w.heap.size, 1, none⟩ (.string p1))) (a := ⟨w.heap.size, 2, none⟩) hrw2 hne1 (.string b1)
            have hrw4 := ownsRow_setCell_other (w := (((w1.setCell ⟨w.heap.size, 0, none⟩ (.int .i64 k1)).setCell ⟨w.heap.size, 1, none⟩ (.string p1)).setCell ⟨w.heap.size, 2, none⟩ (.string b1))) (a := ⟨w.heap.size, 3, none⟩) hrw3 hne1 (.int .i64 m1)
            have hrw5 := ownsRow_setCell_other (w := ((((w1.setCell ⟨w.heap.size, 0, none⟩ (.int .i64 k1)).setCell ⟨w.heap.size, 1, none⟩ (.string p1)).setCell ⟨w.heap.size, 2, none⟩ (.string b1)).setCell ⟨w.heap.size, 3, none⟩ (.int .i64 m1))) (a := ⟨w.heap.size, 4, none⟩) hrw4 hne1 (.bool o1)
            have hbx0 := hbox1
            have hbx1 := heap_setCell_same w1 w.heap.size 0 _ _ (.int .i64 k1) hbx0
            have hbx2 := heap_setCell_same (w1.setCell ⟨w.heap.size, 0, none⟩ (.int .i64 k1)) w.heap.size 1 _ _ (.string p1) hbx1
            have hbx3 := heap_setCell_same ((w1.setCell ⟨w.heap.size, 0, none⟩ (.int .i64 k1)).setCell ⟨w.heap.size, 1, none⟩ (.string p1)) w.heap.size 2 _ _ (.string b1) hbx2
            have hbx4 := heap_setCell_same (((w1.setCell ⟨w.heap.size, 0, none⟩ (.int .i64 k1)).setCell ⟨w.heap.size, 1, none⟩ (.string p1)).setCell ⟨w.heap.size, 2, none⟩ (.string b1)) w.heap.size 3 _ _ (.int .i64 m1) hbx3
            have hbx5 := heap_setCell_same ((((w1.setCell ⟨w.heap.size, 0, none⟩ (.int .i64 k1)).setCell ⟨w.heap.size, 1, none⟩ (.string p1)).setCell ⟨w.heap.size, 2, none⟩ (.string b1)).setCell ⟨w.heap.size, 3, none⟩ (.int .i64 m1)) w.heap.size 4 _ _ (.bool o1) hbx4
            have hbx : RBox (((((w1.setCell ⟨w.heap.size, 0, none⟩ (.int .i64 k1)).setCell ⟨w.heap.size, 1, none⟩ (.string p1)).setCell ⟨w.heap.size, 2, none⟩ (.string b1)).setCell ⟨w.heap.size, 3, none⟩ (.int .i64 m1)).setCell ⟨w.heap.size, 4, none⟩ (.bool o1)) w.heap.size ⟨k1, m1, p1, b1, o1⟩ := hbx5
            obtain ⟨s0, s1, s2, s3, s4⟩ := hbx.cells
            obtain ⟨o0, o1', o2, o3, o4⟩ := hbox1.cells
            have u0 := hbox1.frozen 0
            have u1 := hbox1.frozen 1
            have u2 := hbox1.frozen 2
            have u3 := hbox1.frozen 3
            have u4 := hbox1.frozen 4
            have cW : Below w.heap.size w (((((w1.setCell ⟨w.heap.size, 0, none⟩ (.int .i64 k1)).setCell ⟨w.heap.size, 1, none⟩ (.string p1)).setCell ⟨w.heap.size, 2, none⟩ (.string b1)).setCell ⟨w.heap.size, 3, none⟩ (.int .i64 m1)).setCell ⟨w.heap.size, 4, none⟩ (.bool o1)) := by
              repeat (refine Below.setCell ?_ (by simp) _)
              exact c1
            have hsz5 : (((((w1.setCell ⟨w.heap.size, 0, none⟩ (.int .i64 k1)).setCell ⟨w.heap.size, 1, none⟩ (.string p1)).setCell ⟨w.heap.size, 2, none⟩ (.string b1)).setCell ⟨w.heap.size, 3, none⟩ (.int .i64 m1)).setCell ⟨w.heap.size, 4, none⟩ (.bool o1)).heap.size = w1.heap.size := by simp [World.setCell]
            have hr3 : ((((((w1.setCell ⟨w.heap.size, 0, none⟩ (.int .i64 k1)).setCell ⟨w.heap.size, 1, none⟩ (.string p1)).setCell ⟨w.heap.size, 2, none⟩ (.string b1)).setCell ⟨w.heap.size, 3, none⟩ (.int .i64 m1)).setCell ⟨w.heap.size, 4, none⟩ (.bool o1)).alloc (.cells #[.int .i64 k1, .string p1, .string b1, .int .i64 m1, .bool o1] 27)).ownsRow (w.heap.size + 1) 27 5 (.slice fA L.length fcap) L.length (flat L) := hrw5.alloc _
            have hnews := rec_cells_new (((((w1.setCell ⟨w.heap.size, 0, none⟩ (.int .i64 k1)).setCell ⟨w.heap.size, 1, none⟩ (.string p1)).setCell ⟨w.heap.size, 2, none⟩ (.string b1)).setCell ⟨w.heap.size, 3, none⟩ (.int .i64 m1)).setCell ⟨w.heap.size, 4, none⟩ (.bool o1)) ⟨k1, m1, p1, b1, o1⟩ 27
            rw [hsz5] at hnews
            have hone := rec_one ⟨k1, m1, p1, b1, o1⟩
            have hbz : w.heap.size + 1 ≤ ((((((w1.setCell ⟨w.heap.size, 0, none⟩ (.int .i64 k1)).setCell ⟨w.heap.size, 1, none⟩ (.string p1)).setCell ⟨w.heap.size, 2, none⟩ (.string b1)).setCell ⟨w.heap.size, 3, none⟩ (.int .i64 m1)).setCell ⟨w.heap.size, 4, none⟩ (.bool o1)).alloc (.cells #[.int .i64 k1, .string p1, .string b1, .int .i64 m1, .bool o1] 27)).heap.size := by rw [show ((((((w1.setCell ⟨w.heap.size, 0, none⟩ (.int .i64 k1)).setCell ⟨w.heap.size, 1, none⟩ (.string p1)).setCell ⟨w.heap.size, 2, none⟩ (.string b1)).setCell ⟨w.heap.size, 3, none⟩ (.int .i64 m1)).setCell ⟨w.heap.size, 4, none⟩ (.bool o1)).alloc (.cells #[.int .i64 k1, .string p1, .string b1, .int .i64 m1, .bool o1] 27)).heap.size = w1.heap.size + 1 by simp [World.setCell]]; omega
            have HBX9 : Hid (RBox ((((((w1.setCell ⟨w.heap.size, 0, none⟩ (.int .i64 k1)).setCell ⟨w.heap.size, 1, none⟩ (.string p1)).setCell ⟨w.heap.size, 2, none⟩ (.string b1)).setCell ⟨w.heap.size, 3, none⟩ (.int .i64 m1)).setCell ⟨w.heap.size, 4, none⟩ (.bool o1)).alloc (.cells #[.int .i64 k1, .string p1, .string b1, .int .i64 m1, .bool o1] 27)) w.heap.size ⟨k1, m1, p1, b1, o1⟩) := (((Below.refl _ _).alloc (Nat.le_refl _) _).block _ hbx.lt).trans hbx
            have HCW := Lib.hid (cW.alloc cW.size (.cells #[.int .i64 k1, .string p1, .string b1, .int .i64 m1, .bool o1] 27))
            clear hbx0 hbx1 hbx2 hbx3 hbx4 hbx5 hrw0 hrw1 hrw2 hrw3 hrw4 hrw5 cW c1 hbx hrow1 hbox1
            go_wp2_with (first
              | (at_builtin; refine wpList_append_own _ rfl _ _ 37 rfl (w.heap.size + 1) 27 i0 (.agg #[.int .i64 0, .string ByteArray.empty, .string ByteArray.empty, .int .i64 0, .bool false]) 5 56 Tryd.underlying37 hi hI0 hI1 hI2 rfl (by decide) _ _ _ rfl hr3 ⟨w1.heap.size, 0, none⟩ 1 1 (R.cs ⟨k1, m1, p1, b1, o1⟩) rfl rfl hnews hone (by unfold maxLen; omega) (by omega) hbz ?_; intro v' w9 hown' hgrow9 hnil9))
            have HB9 : Hid (RBox w9 w.heap.size ⟨k1, m1, p1, b1, o1⟩) := HBX9.out.grown hgrow9 (fun e => hne1 e)
            have HC9 : Hid (Below w.heap.size w w9) := HCW.out.grown hgrow9 HCW.out.size (fun j hj => by have := (hrow.2.lt j hj).1; omega)
            exact ⟨⟨k + 1, m + z1 + 2, z1 + 2, L ++ [⟨k1, m1, p1, b1, o1⟩], ⟨k1, m1, p1, b1, o1⟩, by omega, by go_num, by go_num, by go_num, rfl, hmz, row_snoc hown', HB9.out, HWN, HC9.out⟩, by simp [intOf]; omega⟩
          · have hne : (c1 != 0) = true := by simpa using hc1
            have HD : Hid (decL t = [] ∧ (decA t : Int) = (m : Int) ∧ decC t = c1) := by
              have h1 := HS2.out
              rw [if_pos (by simpa using hc1)] at h1
              have h2 := HST.out.trans h1
              refine ⟨?_, ?_, ?_⟩
              · rw [HDL.out, h2]
              · rw [HDA.out, h2]
              · rw [HDC.out, h2]
            clear HS2 HST HN0 HBH hdl
            go_wp2_with fail
            refine HNX.mono ?_
            rintro e w1 ⟨rfl, hb1⟩
            have cc1 := hbw.trans (hb1.mono hbw.size)
            have hbox1 : RBox w1 w.heap.size r := (hb1.block _ hbox.lt).trans hbox
            obtain ⟨o0, o1', o2, o3, o4⟩ := hbox1.cells
            have u0 := hbox1.frozen 0
            have u1 := hbox1.frozen 1
            have u2 := hbox1.frozen 2
            have u3 := hbox1.frozen 3
            have u4 := hbox1.frozen 4
            go_wp2_with fail
            go_step3
            refine ⟨rfl, ⟨(m : Int), c1, _, _, _, _, _, _, _, _, _, _, _, _, _, _, _, _, _, _, _, _, _, _, _, _, _, _, _, _, _, _, _, _, _, _, _, _, _, _, _, _, _, _, _, _, rfl, HD, ?_⟩⟩
            repeat (refine Below.setCell ?_ (by simp) _)
            exact cc1
        · have hkn : k = n := by omega
          subst hkn
          have HST : Hid (wholeF k t.data.toList 4 [] = wholeF 0 t.data.toList m L) := by show _ = _; rw [HWF.out.2]; congr 1; omega
          have HEN := endFault_any t m wr hm hs
          have HWE := Lib.hid (whole_end t.data.toList m L)
          by_cases he : endC t.data.toList m = 0
          · rw [he] at HEN
            have HD : Hid (decL t = L ∧ (decA t : Int) = 0 ∧ decC t = 0) := by
              have h1 := HWE.out
              rw [if_pos he] at h1
              have h2 := HST.out.trans h1
              refine ⟨?_, ?_, ?_⟩
              · rw [HDL.out, h2]
              · rw [HDA.out, h2]; rfl
              · rw [HDC.out, h2]
            clear he HWE HST HWF
            go_wp2_with fail
            refine HEN.mono ?_
            rintro e w1 ⟨rfl, hb1⟩
            go_wp2_with fail
            (try simp only [Exit.jump])
            refine bodyPost_ret (v := .tuple #[.slice fA L.length fcap, .int .i64 0, .int .i64 0]) (by simp [results, Tryd.results42, go_sem]) rfl ⟨_, by rw [HD.out.2.1, HD.out.2.2], ?_, ?_⟩
            · rw [HD.out.1]
              exact ⟨rfl, own_le (hrow.below hb1).2 (by omega)⟩
            · exact hbw.trans (hb1.mono hbw.size)
          · have hne : (endC t.data.toList m != 0) = true := by simpa using he
            have HD : Hid (decL t = [] ∧ (decA t : Int) = (m : Int) ∧ decC t = endC t.data.toList m) := by
              have h1 := HWE.out
              rw [if_neg he] at h1
              have h2 := HST.out.trans h1
              refine ⟨?_, ?_, ?_⟩
              · rw [HDL.out, h2]
              · rw [HDA.out, h2]
              · rw [HDC.out, h2]
            clear he HWE HST HWF
            go_wp2_with fail
            refine HEN.mono ?_
            rintro e w1 ⟨rfl, hb1⟩
            go_wp2_with fail
            go_step3
            exact ⟨rfl, ⟨(m : Int), _, _, _, _, _, _, _, _, _, _, _, _, _, _, _, _, _, _, _, _, _, _, _, _, _, _, _, _, _, _, _, _, _, _, _, _, _, _, _, _, _, _, _, _, _, rfl, HD, hbw.trans (hb1.mono hbw.size)⟩⟩
    · have hne : (headC t != 0) = true := by simpa using hc
      obtain ⟨dl, da, dc⟩ := dec_head hc
      refine (headFault_any t W).mono ?_
      rintro e w1 ⟨rfl, rfl⟩
      have H0 := Lib.hid (show decL t = [] ∧ (decA t : Int) = 0 ∧ decC t = headC t from ⟨dl, by rw [da]; rfl, dc⟩)
      clear dl da dc
      go_wp2_with fail
      go_step3
      exact ⟨rfl, ⟨0, headC t, _, _, _, _, _, _, _, _, _, _, _, _, _, _, _, _, _, _, _, _, _, _, _, _, _, _, _, _, _, _, _, _, _, _, _, _, _, _, _, _, _, _, _, _, rfl, H0, eA⟩⟩

theorem firstFault_impl (t : ByteArray) (w : World) (ht : Tab w) :
    Calls Tryd.prog 25 #[.string t] w fun e w' => e = .returned (.tuple #[.int .i64 (decA t), .int .i64 (decC t)]) ∧ Below w.heap.size w w' := by
  go_enter Tryd.func25, Tryd.ntmps25
  go_wp2_with fail
  refine (layerIn_any t _ ht).mono ?_
  rintro e w1 ⟨v, rfl, hr, hb⟩
  go_wp2_with fail
  go_ret2
  exact ⟨rfl, hb⟩
end Go.Proofs.YtciflchaepchiaaDoor.Recs
