/- Several texts of mine in one file (each begins with its own remark). -/
import Derived.Test.YtjiljnfiofmpaaaDoorBun14
import Derived.Test.YtjiljnfiofmpaaaDoorBun13
/- Trees: TreeOK and SameTree, of the program and of its model. Conditions (of the program's): the table of kinds, the two sentinels. -/

namespace Go.Proofs.YtjiljnfiofmpaaaDoor.Recs
set_option maxRecDepth 100000
open Go.RowKit Paths Errs

theorem tree_long {l : List R} (h : 4096 < l.length) : treeOK l = false := by
  unfold treeOK
  rw [decide_eq_false (by omega)]
  rfl
theorem treeOK_spec (v : Value) (l : List R) (w : World) (h : NodSl w v l) (hl : l.length ≤ 1048576) :
    Calls Tryd.prog 7 #[v] w fun e w' => e = .returned (.bool (treeOK l)) ∧ Below w.heap.size w w' := by
  have HC := l04OK_any v l w h hl
  obtain ⟨_, A, cap, rfl, hcap, _⟩ := h
  by_cases h4 : 4096 < l.length
  · have HE := Lib.hid (tree_long h4)
    have hd : decide ((4096 : Int) < (l.length : Int)) = true := by simp; omega
    go_enter Tryd.func7, Tryd.ntmps7
    go_wp2_with fail
    go_ret
    exact ⟨ret_bool HE.out.symm, Below.refl _ _⟩
  · have hd : decide ((4096 : Int) < (l.length : Int)) = false := by simp; omega
    go_enter Tryd.func7, Tryd.ntmps7
    go_wp2_with fail
    refine HC.mono ?_
    rintro e w1 ⟨rfl, hb1⟩
    go_wp2_with fail
    go_ret
    exact ⟨rfl, hb1⟩

def sameT (A B : List R) : Bool := treeOK A && (treeOK B && decide (A = B))

set_option maxHeartbeats 1600000 in
theorem equalN_any (v1 v2 : Value) (A B : List R) (w : World) (h1 : NodSl w v1 A) (h2 : NodSl w v2 B) (hl : A.length ≤ 1048576) :
    Calls Tryd.prog 24 #[v1, v2] w fun e w' => e = .returned (.bool (decide (A = B))) ∧ ∃ n, w' = w.drewN n := by
  obtain ⟨ho1, a1, cap1, rfl, hcap1, h1⟩ := h1
  obtain ⟨ho2, a2, cap2, rfl, hcap2, h2⟩ := h2
  by_cases hL : A.length = B.length
  · have hne : ((A.length : Int) != (B.length : Int)) = false := by simp [hL]
    have HL := Lib.hid hL
    have H1 := Lib.hid h1
    have H2 := Lib.hid h2
    clear hL h1 h2
    go_enter Tryd.func24, Tryd.ntmps24
    go_wp2
    go_loopw [13] (fun i wr => ∃ k n : Nat, k ≤ A.length ∧ i = .int .i64 k ∧ wr = w.drewN n ∧ Hid (A.take k = B.take k)) (fun i _ => A.length - (intOf i).toNat)
    case atStart => exact ⟨0, 0, by omega, rfl, rfl, rfl⟩
    case round =>
      obtain ⟨k, n, hk, rfl, rfl, HK⟩ := hrel
      by_cases hlt : k < A.length
      · obtain ⟨b1, o1, rfl, hb1, hcell1⟩ := H1.out (by omega)
        have hL2 := HL.out
        have hlt2 : k < B.length := by omega
        obtain ⟨b2, o2, rfl, hb2, hcell2⟩ := H2.out (by omega)
        obtain ⟨c0, c1, c2, c3⟩ := hcell1 k A[k] (by simp [hlt])
        obtain ⟨d0, d1, d2, d3⟩ := hcell2 k B[k] (by simp [hlt2])
        clear hcell1 hcell2 hL2 H1 H2
        have hi1 : (k : Int) < (A.length : Int) := by omega
        have hi2 : (k : Int) < (B.length : Int) := by omega
        have hi0 : (0 : Int) ≤ (k : Int) := by omega
        have f4 : (A[k].o == B[k].o) = true := by rw [ho1 A[k] (List.getElem_mem hlt), ho2 B[k] (List.getElem_mem hlt2)]; rfl
        rcases four A[k] B[k] with f0 | ⟨f0, f1⟩ | ⟨f0, f1, f2⟩ | ⟨f0, f1, f2, f3⟩ | ⟨f0, f1, f2, f3⟩
        · have HF := ne_at hlt hlt2 (fun e => by rw [e] at f0; simp at f0)
          go_wp2
          go_quiet (fail)
          go_wp2
          go_ret
          exact ⟨ret_bool (by simp [HF.out]), n + nq, World.drewN_drewN _ _ _⟩
        · have HF := ne_at hlt hlt2 (fun e => by rw [e] at f1; simp at f1)
          go_wp2
          go_quiet (fail)
          go_wp2
          go_ret
          exact ⟨ret_bool (by simp [HF.out]), n + nq, World.drewN_drewN _ _ _⟩
        · have HF := ne_at hlt hlt2 (fun e => by rw [e] at f2; simp at f2)
          go_wp2
          go_quiet (fail)
          go_wp2
          go_ret
          exact ⟨ret_bool (by simp [HF.out]), n + nq, World.drewN_drewN _ _ _⟩
        · have HF := ne_at hlt hlt2 (fun e => by rw [e] at f3; simp at f3)
          go_wp2
          go_quiet (fail)
          go_wp2
          go_ret
          exact ⟨ret_bool (by simp [HF.out]), n + nq, World.drewN_drewN _ _ _⟩
        · have HT := Lib.hid (take_snoc_eq hlt hlt2 HK.out (rec_eq f0 f1 f2 f3 f4))
          go_wp2
          go_quiet (fail)
          go_wp2
          exact ⟨⟨k + 1, _, by omega, by go_num, rfl, HT⟩, by simp [intOf]; omega⟩
      · have HE : Hid (A = B) := by
          have hL2 := HL.out
          have := HK.out
          rw [List.take_of_length_le (by omega), List.take_of_length_le (by omega)] at this
          exact this
        go_wp2
        go_ret
        exact ⟨ret_bool (by simp [HE.out]), _, rfl⟩
  · have hne : ((A.length : Int) != (B.length : Int)) = true := by simp; omega
    have HE : Hid (¬ A = B) := fun e => hL (by rw [e])
    clear hL
    go_enter Tryd.func24, Tryd.ntmps24
    go_wp2
    go_ret
    exact ⟨ret_bool (by simp [HE.out]), 0, rfl⟩

set_option maxHeartbeats 800000 in
theorem sameTree_impl (v1 v2 : Value) (A B : List R) (x y : Addr) (w : World) (h1 : NodSl w v1 A) (h2 : NodSl w v2 B) (hl1 : A.length ≤ 1048576) (hl2 : B.length ≤ 1048576)
    (hr1 : ∀ r ∈ A, r.p.size ≤ maxLen) (hr2 : ∀ r ∈ B, r.p.size ≤ maxLen) (hT : Three w x y) :
    Calls Tryd.prog 12 #[v1, v2] w fun e w' => e = .returned (.bool (sameT A B)) ∧ Below w.heap.size w w' := by
  have HA := treeOK_impl v1 A x y w h1 hl1 hr1 hT
  have HB : ∀ w', Below w.heap.size w w' → Calls Tryd.prog 9 #[v2] w' fun e w'' => e = .returned (.bool (treeOK B)) ∧ Below w'.heap.size w' w'' := fun w' hb =>
    treeOK_impl v2 B x y w' (h2.below hb) hl2 hr2 (hT.below hb (Nat.le_refl _))
  have HE : ∀ w', Below w.heap.size w w' → Calls Tryd.prog 24 #[v1, v2] w' fun e w'' => e = .returned (.bool (decide (A = B))) ∧ ∃ n, w'' = w'.drewN n := fun w' hb => equalN_any v1 v2 A B w' (h1.below hb) (h2.below hb) hl1
  have HBh := Lib.hid HB
  have HEh := Lib.hid HE
  clear HB HE
  rcases Bool.eq_false_or_eq_true (treeOK A) with ha | ha
  case inr =>
    have HF : Hid (sameT A B = false) := by show _ = _; unfold sameT; rw [ha]; rfl
    rw [ha] at HA
    go_enter Tryd.func12, Tryd.ntmps12
    go_wp2_with fail
    refine HA.mono ?_
    rintro e w1 ⟨rfl, hb1⟩
    go_wp2_with fail
    go_ret
    exact ⟨ret_bool HF.out.symm, hb1⟩
  rw [ha] at HA
  rcases Bool.eq_false_or_eq_true (treeOK B) with hb | hb
  case inr =>
    have HF : Hid (sameT A B = false) := by show _ = _; unfold sameT; rw [ha, hb]; rfl
    rw [hb] at HBh
    go_enter Tryd.func12, Tryd.ntmps12
    go_wp2_with fail
    refine HA.mono ?_
    rintro e w1 ⟨rfl, hb1⟩
    go_wp2_with fail
    refine (HBh.out _ hb1).mono ?_
    rintro e w2 ⟨rfl, hb2⟩
    go_wp2_with fail
    go_ret
    exact ⟨ret_bool HF.out.symm, hb1.trans (hb2.mono hb1.size)⟩
  have HF : Hid (sameT A B = decide (A = B)) := by show _ = _; unfold sameT; rw [ha, hb]; rfl
  rw [hb] at HBh
  go_enter Tryd.func12, Tryd.ntmps12
  go_wp2_with fail
  refine HA.mono ?_
  rintro e w1 ⟨rfl, hb1⟩
  go_wp2_with fail
  refine (HBh.out _ hb1).mono ?_
  rintro e w2 ⟨rfl, hb2⟩
  have c2 := hb1.trans (hb2.mono hb1.size)
  go_wp2_with fail
  refine (HEh.out _ c2).mono ?_
  rintro e w3 ⟨rfl, n3, rfl⟩
  go_wp2_with fail
  go_ret
  exact ⟨ret_bool HF.out.symm, below_drewN c2 n3⟩

set_option maxHeartbeats 800000 in
theorem sameTree_spec (v1 v2 : Value) (A B : List R) (w : World) (h1 : NodSl w v1 A) (h2 : NodSl w v2 B) (hl1 : A.length ≤ 1048576) (hl2 : B.length ≤ 1048576) :
    Calls Tryd.prog 11 #[v1, v2] w fun e w' => e = .returned (.bool (sameT A B)) ∧ Below w.heap.size w w' := by
  have HA := l04OK_any v1 A w h1 hl1
  have HB : ∀ w', Below w.heap.size w w' → Calls Tryd.prog 19 #[v2] w' fun e w'' => e = .returned (.bool (treeOK B)) ∧ Below w'.heap.size w' w'' := fun w' hb => l04OK_any v2 B w' (h2.below hb) hl2
  have HE : ∀ w', Below w.heap.size w w' → Calls Tryd.prog 23 #[v1, v2] w' fun e w'' => e = .returned (.bool (decide (A = B))) ∧ ∃ n, w'' = w'.drewN n := fun w' hb => l04Same_any v1 v2 A B w' (h1.below hb) (h2.below hb) hl1
  have HBh := Lib.hid HB
  have HEh := Lib.hid HE
  clear HB HE
  obtain ⟨_, a1, cap1, rfl, _, _⟩ := h1
  obtain ⟨_, a2, cap2, rfl, _, _⟩ := h2
  by_cases h4 : 4096 < A.length
  · have HF : Hid (sameT A B = false) := by show _ = _; unfold sameT; rw [tree_long h4]; rfl
    have hd : decide ((4096 : Int) < (A.length : Int)) = true := by simp; omega
    go_enter Tryd.func11, Tryd.ntmps11
    go_wp2_with fail
    go_ret
    exact ⟨ret_bool HF.out.symm, Below.refl _ _⟩
  have hd4 : decide ((4096 : Int) < (A.length : Int)) = false := by simp; omega
  by_cases h5 : 4096 < B.length
  · have HF : Hid (sameT A B = false) := by show _ = _; unfold sameT; rw [tree_long h5]; simp
    have hd : decide ((4096 : Int) < (B.length : Int)) = true := by simp; omega
    go_enter Tryd.func11, Tryd.ntmps11
    go_wp2_with fail
    go_ret
    exact ⟨ret_bool HF.out.symm, Below.refl _ _⟩
  have hd5 : decide ((4096 : Int) < (B.length : Int)) = false := by simp; omega
  rcases Bool.eq_false_or_eq_true (treeOK A) with ha | ha
  case inr =>
    have HF : Hid (sameT A B = false) := by show _ = _; unfold sameT; rw [ha]; rfl
    rw [ha] at HA
    go_enter Tryd.func11, Tryd.ntmps11
    go_wp2_with fail
    refine HA.mono ?_
    rintro e w1 ⟨rfl, hb1⟩
    go_wp2_with fail
    go_ret
    exact ⟨ret_bool HF.out.symm, hb1⟩
  rw [ha] at HA
  rcases Bool.eq_false_or_eq_true (treeOK B) with hb | hb
  case inr =>
    have HF : Hid (sameT A B = false) := by show _ = _; unfold sameT; rw [ha, hb]; rfl
    rw [hb] at HBh
    go_enter Tryd.func11, Tryd.ntmps11
    go_wp2_with fail
    refine HA.mono ?_
    rintro e w1 ⟨rfl, hb1⟩
    go_wp2_with fail
    refine (HBh.out _ hb1).mono ?_
    rintro e w2 ⟨rfl, hb2⟩
    go_wp2_with fail
    go_ret
    exact ⟨ret_bool HF.out.symm, hb1.trans (hb2.mono hb1.size)⟩
  have HF : Hid (sameT A B = decide (A = B)) := by show _ = _; unfold sameT; rw [ha, hb]; rfl
  rw [hb] at HBh
  go_enter Tryd.func11, Tryd.ntmps11
  go_wp2_with fail
  refine HA.mono ?_
  rintro e w1 ⟨rfl, hb1⟩
  go_wp2_with fail
  refine (HBh.out _ hb1).mono ?_
  rintro e w2 ⟨rfl, hb2⟩
  have c2 := hb1.trans (hb2.mono hb1.size)
  go_wp2_with fail
  refine (HEh.out _ c2).mono ?_
  rintro e w3 ⟨rfl, n3, rfl⟩
  go_wp2_with fail
  go_ret
  exact ⟨ret_bool HF.out.symm, below_drewN c2 n3⟩
end Go.Proofs.YtjiljnfiofmpaaaDoor.Recs
