/- Parts of several texts of mine in one file (each begins with its own remark). -/
import Derived.Test.YtciflchaepchiaaDoorDA2
import Derived.Test.YtciflchaepchiaaDoorDA3
import Derived.Test.YtciflchaepchiaaDoorDA4
import Derived.Test.YtciflchaepchiaaDoorDB1
import Derived.Test.YtciflchaepchiaaDoorChecked
import Derived.Test.YtciflchaepchiaaDoorShelf
import Derived.Test.YtciflchaepchiaaDoorProg
import Derived.Test.YtciflchaepchiaaDoorRows
import Derived.Deep.Cut
import Derived.Deep.RegionHeld3
import Derived.Laws.BytesArg
import Derived.Lib.ConvBytes
import Derived.Deep.Slices
import Derived.OpenShut
import Derived.ShutString
import Derived.ChangeArms
import Derived.WideShapes
import Derived.Lib.LaidTab
import Derived.BigQuiet
import Derived.Deep.QuietTactic
import Derived.StillTailTactics
import Derived.Deep.Draws
import Derived.Deep.LoopGhost
import Derived.WalkKit
import Derived.WalkSpells
import Derived.WalkSmall
import Derived.Lib.OthersKept
import Derived.Lib.Hide
import Derived.Lib.Strings
import Derived.Lib.Join
import Derived.WalkLawsBesides
import Derived.Below
import Derived.Shelf.Strings.Builder1
import Derived.Stop.LaidErr
import Derived.Laws.OwnMore
import Derived.BigRegion
import Derived.LaidEql
import Derived.Stop.Asserts
import Derived.Stop.LaidTwo
import Derived.ChangeVars
import Derived.Deep.DeepHandedRow
/- A record's encoding, of the model. -/
namespace Go.Proofs.YtciflchaepchiaaDoor.Recs
set_option maxRecDepth 100000
open Go.RowKit Paths

theorem conv1_run (a : Int) : ∃ S : ByteArray, Hid (S.data.toList = [UInt8.ofNat a.toNat]) ∧ S.size ≤ 1 ∧ ∀ (W : World) (B : Nat), W.cell? ⟨B, 0, none⟩ = some (.int .u8 a) → (convert 63 9 (.slice (some ⟨B, 0, none⟩) 1 1)).run Tryd.prog W = .ok (.string S) W :=
  ⟨⟨[UInt8.ofNat a.toNat].toArray⟩, rfl, Nat.le_refl _, fun W B h0 => run_convert_bytes_arg (P := Tryd.prog) W 63 5 Tryd.underlying63 Tryd.underlying5 B 0 1 1 [a] rfl
    (fun i hi => by
      match i, hi with
      | 0, _ => exact h0) 9 Tryd.underlying9⟩
theorem conv2_run (a b : Int) : ∃ S : ByteArray, Hid (S.data.toList = [UInt8.ofNat a.toNat, UInt8.ofNat b.toNat]) ∧ S.size ≤ 2 ∧ ∀ (W : World) (B : Nat), W.cell? ⟨B, 0, none⟩ = some (.int .u8 a) → W.cell? ⟨B, 1, none⟩ = some (.int .u8 b) → (convert 63 9 (.slice (some ⟨B, 0, none⟩) 2 2)).run Tryd.prog W = .ok (.string S) W :=
  ⟨⟨[UInt8.ofNat a.toNat, UInt8.ofNat b.toNat].toArray⟩, rfl, Nat.le_refl _, fun W B h0 h1 => run_convert_bytes_arg (P := Tryd.prog) W 63 5 Tryd.underlying63 Tryd.underlying5 B 0 2 2 [a, b] rfl
    (fun i hi => by
      match i, hi with
      | 0, _ => exact h0
      | 1, _ => exact h1) 9 Tryd.underlying9⟩
theorem ofNat_byI (n : Int) : UInt8.ofNat (IntKind.u8.wrap n).toNat = byI n := by
  have h : IntKind.u8.wrap n = n % 256 := by simp [IntKind.wrap, IntKind.bits, IntKind.signed]
  rw [h]
  rfl

set_option maxHeartbeats 8000000 in
theorem l09Record_any (k m : Int) (p b : ByteArray) (o : Bool) (w : World) (hp : p.size ≤ 1000) (hb : b.size ≤ 1000) (hm0 : 0 ≤ m) (hm1 : m ≤ 1000000) :
    Calls Tryd.prog 27 #[.agg #[.int .i64 k, .string p, .string b, .int .i64 m, .bool o]] w fun e w' => ∃ B : ByteArray, e = .returned (.string B) ∧ B.data.toList = encR ⟨k, m, p, b, o⟩ ∧ Below w.heap.size w w' := by
  have eA : Below w.heap.size w (w.alloc (.cells #[.int .i64 k, .string p, .string b, .int .i64 m, .bool o] 27)) := (Below.refl _ _).alloc (Nat.le_refl _) _
  have HRA : RecCells (w.alloc (.cells #[.int .i64 k, .string p, .string b, .int .i64 m, .bool o] 27)) w.heap.size 0 ⟨k, m, p, b, o⟩ := ⟨by go_simp, by go_simp, by go_simp, by go_simp, by go_simp⟩
  have hzA : w.heap.size < (w.alloc (.cells #[.int .i64 k, .string p, .string b, .int .i64 m, .bool o] 27)).heap.size := by simp
  obtain ⟨kk, hkk⟩ : ∃ kk, (if o = true then 5 else k) = kk := ⟨_, rfl⟩
  obtain ⟨S1, HS1, hz1, kc1⟩ := conv2_run (IntKind.u8.wrap kk) (IntKind.u8.wrap (p.size : Int))
  obtain ⟨S2, HS2, hz2, kc2⟩ := conv1_run (IntKind.u8.wrap (b.size : Int))
  obtain ⟨Q1, HQ1, hq1, kA1⟩ := glue_run S1 p (by omega)
  have HEQ : Hid (∀ T : ByteArray, T.data.toList = twoB m → ∀ Q2 Q3 Q4 : ByteArray, Q2.data.toList = Q1.data.toList ++ T.data.toList → Q3.data.toList = Q2.data.toList ++ S2.data.toList → Q4.data.toList = Q3.data.toList ++ b.data.toList → Q4.data.toList = encR ⟨k, m, p, b, o⟩) := fun T hT Q2 Q3 Q4 h2 h3 h4 => by
    rw [h4, h3, h2, HQ1.out, HS1.out, HS2.out, hT, ← hkk]
    unfold encR
    simp [ofNat_byI]
  have HKK := Lib.hid hkk
  clear hkk
  go_enter Tryd.func27, Tryd.ntmps27
  go_upto_if 7 with (fail)
  generalize w.alloc (.cells #[.int .i64 k, .string p, .string b, .int .i64 m, .bool o] 27) = W at *
  have HKS : Hid (∀ W', Below W.heap.size W W' → W'.cell? ⟨w.heap.size, 1, none⟩ = some (.string p) ∧ W'.cell? ⟨w.heap.size, 2, none⟩ = some (.string b) ∧ W'.cell? ⟨w.heap.size, 3, none⟩ = some (.int .i64 m)) := fun W' h => by
    obtain ⟨_, b1, b2, b3, _⟩ := HRA.below h hzA
    exact ⟨b1, b2, b3⟩
  clear HRA
  go_cut [3] from 7 (fun s wx => s = .int .i64 kk ∧ wx = W)
  case first =>
    cases o with
    | true =>
      go_wp2_with fail
      go_meet
      exact ⟨by rw [← HKK.out]; rfl, rfl⟩
    | false =>
      go_wp2_with fail
      go_meet
      exact ⟨by rw [← HKK.out]; rfl, rfl⟩
  case rest =>
    obtain ⟨rfl, rfl⟩ := hcut
    go_wp2_with fail
    have HZ : Hid (Below wc.heap.size wc wc.drew) := (Below.refl _ _).drew
    refine wp_region_held_drew (S := (fun W' => W'.cell? ⟨w.heap.size, 1, none⟩ = some (.string p) ∧ W'.cell? ⟨w.heap.size, 2, none⟩ = some (.string b) ∧ W'.cell? ⟨w.heap.size, 3, none⟩ = some (.int .i64 m))) (by kernel_rfl) (HKS.out _ HZ.out) (fun hHeld => ?_)
    generalize hX0 : wc.drew = X0 at *
    clear hX0
    generalize wc = W at *
    refine wpAnyH_take (i := 0) (oi := { dst := some 8, op := Go.Op.move (Go.Operand.tmp 3), type := 3, pos := "l09_bytes.go:30", after := #[], guard := none }) (v := ?vt1) rfl (by kernel_rfl) (by kernel_rfl) (by kernel_rfl) (fun _ _ _ h => h) (Or.inl ⟨by rfl, ?yt1⟩) hHeld ?zt1
    case yt1 =>
      intro w hSw
      (try dsimp only at hSw)
      go_simp
      try with_reducible rfl
    simp only [Act.put, List.setIfInBounds_toArray, List.set_cons_zero, List.set_cons_succ]
    refine wpAnyH_take (i := 1) (oi := { dst := some 9, op := Go.Op.convert 3 5 (Go.Operand.tmp 8), type := 5, pos := "l09_bytes.go:30", after := #[{ on := 0, ground := Go.Ground.data }], guard := none }) (v := ?vt2) rfl (by kernel_rfl) (by kernel_rfl) (by kernel_rfl) (fun _ _ _ h => h) (Or.inl ⟨by rfl, ?yt2⟩) hHeld ?zt2
    case yt2 =>
      intro w hSw
      (try dsimp only at hSw)
      go_simp
      try with_reducible rfl
    simp only [Act.put, List.setIfInBounds_toArray, List.set_cons_zero, List.set_cons_succ]
    refine wpAnyH_take (i := 2) (oi := { dst := some 10, op := Go.Op.fieldAddr 27 (Go.Operand.tmp 1) 1, type := 0, pos := "l09_bytes.go:30", after := #[], guard := none }) (v := ?vt3) rfl (by kernel_rfl) (by kernel_rfl) (by kernel_rfl) (fun _ _ _ h => h) (Or.inl ⟨by rfl, ?yt3⟩) hHeld ?zt3
    case yt3 =>
      intro w hSw
      (try dsimp only at hSw)
      go_simp
      try with_reducible rfl
    simp only [Act.put, List.setIfInBounds_toArray, List.set_cons_zero, List.set_cons_succ]
    refine wpAnyH_take (i := 3) (oi := { dst := some 11, op := Go.Op.load 9 (Go.Operand.tmp 10), type := 9, pos := "l09_bytes.go:30", after := #[{ on := 2, ground := Go.Ground.data }], guard := none }) (v := ?vt4) rfl (by kernel_rfl) (by kernel_rfl) (by kernel_rfl) (fun _ _ _ h => h) (Or.inl ⟨by rfl, ?yt4⟩) hHeld ?zt4
    case yt4 =>
      intro w hSw
      (try dsimp only at hSw)
      go_simp
      try with_reducible rfl
    simp only [Act.put, List.setIfInBounds_toArray, List.set_cons_zero, List.set_cons_succ]
    refine wpAnyH_take (i := 4) (oi := { dst := some 12, op := Go.Op.call { callee := Go.Callee.builtin Go.Builtin.len, args := #[Go.Operand.tmp 11], argTypes := #[9] }, type := 3, pos := "l09_bytes.go:30", after := #[{ on := 3, ground := Go.Ground.data }], guard := none }) (v := ?vt5) rfl (by kernel_rfl) (by kernel_rfl) (by kernel_rfl) (fun _ _ _ h => h) (Or.inl ⟨by rfl, ?yt5⟩) hHeld ?zt5
    case yt5 =>
      intro w hSw
      (try dsimp only at hSw)
      go_simp
      try with_reducible rfl
    simp only [Act.put, List.setIfInBounds_toArray, List.set_cons_zero, List.set_cons_succ]
    refine wpAnyH_take (i := 5) (oi := { dst := some 13, op := Go.Op.convert 3 5 (Go.Operand.tmp 12), type := 5, pos := "l09_bytes.go:30", after := #[{ on := 4, ground := Go.Ground.data }], guard := none }) (v := ?vt6) rfl (by kernel_rfl) (by kernel_rfl) (by kernel_rfl) (fun _ _ _ h => h) (Or.inl ⟨by rfl, ?yt6⟩) hHeld ?zt6
    case yt6 =>
      intro w hSw
      (try dsimp only at hSw)
      go_simp
      try with_reducible rfl
    simp only [Act.put, List.setIfInBounds_toArray, List.set_cons_zero, List.set_cons_succ]
    refine wpAnyH_take (i := 8) (oi := { dst := some 16, op := Go.Op.fieldAddr 27 (Go.Operand.tmp 1) 1, type := 0, pos := "l09_bytes.go:30", after := #[], guard := none }) (v := ?vt7) rfl (by kernel_rfl) (by kernel_rfl) (by kernel_rfl) (fun _ _ _ h => h) (Or.inl ⟨by rfl, ?yt7⟩) hHeld ?zt7
    case yt7 =>
      intro w hSw
      (try dsimp only at hSw)
      go_simp
      try with_reducible rfl
    simp only [Act.put, List.setIfInBounds_toArray, List.set_cons_zero, List.set_cons_succ]
    refine wpAnyH_take (i := 9) (oi := { dst := some 17, op := Go.Op.load 9 (Go.Operand.tmp 16), type := 9, pos := "l09_bytes.go:30", after := #[{ on := 8, ground := Go.Ground.data }], guard := none }) (v := ?vt8) rfl (by kernel_rfl) (by kernel_rfl) (by kernel_rfl) (fun _ _ _ h => h) (Or.inl ⟨by rfl, ?yt8⟩) hHeld ?zt8
    case yt8 =>
      intro w hSw
      (try dsimp only at hSw)
      go_simp
      try with_reducible rfl
    simp only [Act.put, List.setIfInBounds_toArray, List.set_cons_zero, List.set_cons_succ]
    refine wpAnyH_take (i := 11) (oi := { dst := some 19, op := Go.Op.fieldAddr 27 (Go.Operand.tmp 1) 3, type := 0, pos := "l09_bytes.go:30", after := #[], guard := none }) (v := ?vt9) rfl (by kernel_rfl) (by kernel_rfl) (by kernel_rfl) (fun _ _ _ h => h) (Or.inl ⟨by rfl, ?yt9⟩) hHeld ?zt9
    case yt9 =>
      intro w hSw
      (try dsimp only at hSw)
      go_simp
      try with_reducible rfl
    simp only [Act.put, List.setIfInBounds_toArray, List.set_cons_zero, List.set_cons_succ]
    refine wpAnyH_take (i := 12) (oi := { dst := some 20, op := Go.Op.load 3 (Go.Operand.tmp 19), type := 3, pos := "l09_bytes.go:30", after := #[{ on := 11, ground := Go.Ground.data }], guard := none }) (v := ?vt10) rfl (by kernel_rfl) (by kernel_rfl) (by kernel_rfl) (fun _ _ _ h => h) (Or.inl ⟨by rfl, ?yt10⟩) hHeld ?zt10
    case yt10 =>
      intro w hSw
      (try dsimp only at hSw)
      go_simp
      try with_reducible rfl
    simp only [Act.put, List.setIfInBounds_toArray, List.set_cons_zero, List.set_cons_succ]
    refine wpAnyH_take (i := 15) (oi := { dst := some 23, op := Go.Op.fieldAddr 27 (Go.Operand.tmp 1) 2, type := 0, pos := "l09_bytes.go:30", after := #[], guard := none }) (v := ?vt11) rfl (by kernel_rfl) (by kernel_rfl) (by kernel_rfl) (fun _ _ _ h => h) (Or.inl ⟨by rfl, ?yt11⟩) hHeld ?zt11
    case yt11 =>
      intro w hSw
      (try dsimp only at hSw)
      go_simp
      try with_reducible rfl
    simp only [Act.put, List.setIfInBounds_toArray, List.set_cons_zero, List.set_cons_succ]
    refine wpAnyH_take (i := 16) (oi := { dst := some 24, op := Go.Op.load 9 (Go.Operand.tmp 23), type := 9, pos := "l09_bytes.go:30", after := #[{ on := 15, ground := Go.Ground.data }], guard := none }) (v := ?vt12) rfl (by kernel_rfl) (by kernel_rfl) (by kernel_rfl) (fun _ _ _ h => h) (Or.inl ⟨by rfl, ?yt12⟩) hHeld ?zt12
    case yt12 =>
      intro w hSw
      (try dsimp only at hSw)
      go_simp
      try with_reducible rfl
    simp only [Act.put, List.setIfInBounds_toArray, List.set_cons_zero, List.set_cons_succ]
    refine wpAnyH_take (i := 17) (oi := { dst := some 25, op := Go.Op.call { callee := Go.Callee.builtin Go.Builtin.len, args := #[Go.Operand.tmp 24], argTypes := #[9] }, type := 3, pos := "l09_bytes.go:30", after := #[{ on := 16, ground := Go.Ground.data }], guard := none }) (v := ?vt13) rfl (by kernel_rfl) (by kernel_rfl) (by kernel_rfl) (fun _ _ _ h => h) (Or.inl ⟨by rfl, ?yt13⟩) hHeld ?zt13
    case yt13 =>
      intro w hSw
      (try dsimp only at hSw)
      go_simp
      try with_reducible rfl
    simp only [Act.put, List.setIfInBounds_toArray, List.set_cons_zero, List.set_cons_succ]
    refine wpAnyH_take (i := 18) (oi := { dst := some 26, op := Go.Op.convert 3 5 (Go.Operand.tmp 25), type := 5, pos := "l09_bytes.go:30", after := #[{ on := 17, ground := Go.Ground.data }], guard := none }) (v := ?vt14) rfl (by kernel_rfl) (by kernel_rfl) (by kernel_rfl) (fun _ _ _ h => h) (Or.inl ⟨by rfl, ?yt14⟩) hHeld ?zt14
    case yt14 =>
      intro w hSw
      (try dsimp only at hSw)
      go_simp
      try with_reducible rfl
    simp only [Act.put, List.setIfInBounds_toArray, List.set_cons_zero, List.set_cons_succ]
    refine wpAnyH_take (i := 22) (oi := { dst := some 30, op := Go.Op.fieldAddr 27 (Go.Operand.tmp 1) 2, type := 0, pos := "l09_bytes.go:30", after := #[], guard := none }) (v := ?vt15) rfl (by kernel_rfl) (by kernel_rfl) (by kernel_rfl) (fun _ _ _ h => h) (Or.inl ⟨by rfl, ?yt15⟩) hHeld ?zt15
    case yt15 =>
      intro w hSw
      (try dsimp only at hSw)
      go_simp
      try with_reducible rfl
    simp only [Act.put, List.setIfInBounds_toArray, List.set_cons_zero, List.set_cons_succ]
    refine wpAnyH_take (i := 23) (oi := { dst := some 31, op := Go.Op.load 9 (Go.Operand.tmp 30), type := 9, pos := "l09_bytes.go:30", after := #[{ on := 22, ground := Go.Ground.data }], guard := none }) (v := ?vt16) rfl (by kernel_rfl) (by kernel_rfl) (by kernel_rfl) (fun _ _ _ h => h) (Or.inl ⟨by rfl, ?yt16⟩) hHeld ?zt16
    case yt16 =>
      intro w hSw
      (try dsimp only at hSw)
      go_simp
      try with_reducible rfl
    simp only [Act.put, List.setIfInBounds_toArray, List.set_cons_zero, List.set_cons_succ]
    refine wpAnyH_ready (rs := [6, 13, 19]) (by kernel_rfl) (by simp) ?_
    refine AllReadyH.cons (o := { dst := some 14, op := Go.Op.buildSlice 63 2 #[(0, Go.Operand.tmp 9), (1, Go.Operand.tmp 13)], type := 63, pos := "l09_bytes.go:30", after := #[{ on := 1, ground := Go.Ground.data }, { on := 5, ground := Go.Ground.data }], guard := none }) rfl (fun K hK => ?_) (AllReadyH.cons (o := { dst := some 21, op := Go.Op.call { callee := Go.Callee.value (Go.Operand.func 44), args := #[Go.Operand.tmp 20], argTypes := #[3] }, type := 9, pos := "l09_bytes.go:30", after := #[{ on := 12, ground := Go.Ground.data }], guard := none }) rfl (fun K hK => ?_) (AllReadyH.cons (o := { dst := some 27, op := Go.Op.buildSlice 63 1 #[(0, Go.Operand.tmp 26)], type := 63, pos := "l09_bytes.go:30", after := #[{ on := 18, ground := Go.Ground.data }], guard := none }) rfl (fun K hK => ?_) (AllReadyH.nil)))
    · go_simp
      try go_wp2_with fail
      have HZ17 : Hid (Below W.heap.size W (X0.alloc (.cells #[.int .u8 (IntKind.u8.wrap kk), .int .u8 (IntKind.u8.wrap (p.size : Int))] 5))) := bel_a HZ.out _
      have HA17 : Hid (∀ W', Below (X0.alloc (.cells #[.int .u8 (IntKind.u8.wrap kk), .int .u8 (IntKind.u8.wrap (p.size : Int))] 5)).heap.size (X0.alloc (.cells #[.int .u8 (IntKind.u8.wrap kk), .int .u8 (IntKind.u8.wrap (p.size : Int))] 5)) W' → W'.cell? ⟨X0.heap.size, 0, none⟩ = some (.int .u8 (IntKind.u8.wrap kk)) ∧ W'.cell? ⟨X0.heap.size, 1, none⟩ = some (.int .u8 (IntKind.u8.wrap (p.size : Int)))) := fun W' h => ⟨(h.cell (p := ⟨X0.heap.size, 0, none⟩) (by simp)).trans (by go_simp), (h.cell (p := ⟨X0.heap.size, 1, none⟩) (by simp)).trans (by go_simp)⟩
      refine hK.out _ _ (HKS.out _ HZ17.out) (fun hH17 => ?_)
      clear hHeld hK K
      generalize X0.alloc (.cells #[.int .u8 (IntKind.u8.wrap kk), .int .u8 (IntKind.u8.wrap (p.size : Int))] 5) = X17 at *
      have bZ17 : Hid (Below X17.heap.size X17 X17) := Below.refl _ _
      refine wpAnyH_ready (rs := [7, 13, 19]) (by kernel_rfl) (by simp) ?_
      refine AllReadyH.cons (o := { dst := some 15, op := Go.Op.convert 63 9 (Go.Operand.tmp 14), type := 9, pos := "l09_bytes.go:30", after := #[{ on := 6, ground := Go.Ground.data }], guard := none }) rfl (fun K hK => ?_) (AllReadyH.cons (o := { dst := some 21, op := Go.Op.call { callee := Go.Callee.value (Go.Operand.func 44), args := #[Go.Operand.tmp 20], argTypes := #[3] }, type := 9, pos := "l09_bytes.go:30", after := #[{ on := 12, ground := Go.Ground.data }], guard := none }) rfl (fun K hK => ?_) (AllReadyH.cons (o := { dst := some 27, op := Go.Op.buildSlice 63 1 #[(0, Go.Operand.tmp 26)], type := 63, pos := "l09_bytes.go:30", after := #[{ on := 18, ground := Go.Ground.data }], guard := none }) rfl (fun K hK => ?_) (AllReadyH.nil)))
      · have r18 := kc1 _ _ (HA17.out _ bZ17.out).1 (HA17.out _ bZ17.out).2
        go_simp
        try go_wp2_with fail
        refine hK.out _ _ (HKS.out _ HZ17.out) (fun hH18 => ?_)
        clear hH17 hK K r18
        refine wpAnyH_take (i := 10) (oi := { dst := some 18, op := Go.Op.binOp Go.BinOp.add 9 (Go.Operand.tmp 15) (Go.Operand.tmp 17) 9, type := 9, pos := "l09_bytes.go:30", after := #[{ on := 7, ground := Go.Ground.data }, { on := 9, ground := Go.Ground.data }], guard := none }) (v := ?vt19) rfl (by kernel_rfl) (by kernel_rfl) (by kernel_rfl) (fun _ _ _ h => h) (Or.inl ⟨by rfl, ?yt19⟩) hH18 ?zt19
        case yt19 =>
          intro w hSw
          (try dsimp only at hSw)
          go_simp
          try with_reducible rfl
        simp only [Act.put, List.setIfInBounds_toArray, List.set_cons_zero, List.set_cons_succ]
        refine wpAnyH_ready (rs := [13, 19]) (by kernel_rfl) (by simp) ?_
        refine AllReadyH.cons (o := { dst := some 21, op := Go.Op.call { callee := Go.Callee.value (Go.Operand.func 44), args := #[Go.Operand.tmp 20], argTypes := #[3] }, type := 9, pos := "l09_bytes.go:30", after := #[{ on := 12, ground := Go.Ground.data }], guard := none }) rfl (fun K hK => ?_) (AllReadyH.cons (o := { dst := some 27, op := Go.Op.buildSlice 63 1 #[(0, Go.Operand.tmp 26)], type := 63, pos := "l09_bytes.go:30", after := #[{ on := 18, ground := Go.Ground.data }], guard := none }) rfl (fun K hK => ?_) (AllReadyH.nil))
        · go_simp
          refine (l09Two_any m _ hm0 hm1).mono ?_
          rintro e X20 ⟨T, rfl, hT, hTs, hb1⟩
          have HTT := Lib.hid hT
          have hz0 : T.size ≤ 2 := Nat.le_of_eq hTs
          obtain ⟨Q2, HQ2, hq2, kA2⟩ := glue_run Q1 T (by omega)
          obtain ⟨Q3, HQ3, hq3, kA3⟩ := glue_run Q2 S2 (by omega)
          obtain ⟨Q4, HQ4, hq4, kA4⟩ := glue_run Q3 b (by omega)
          clear hT hTs
          have HZ20 : Hid (Below W.heap.size W X20) := bel_t HZ17.out hb1
          have bY20A : Hid (Below X17.heap.size X17 X20) := bel_t bZ17.out hb1
          go_wp2_with fail
          refine hK.out _ _ (HKS.out _ HZ20.out) (fun hH20 => ?_)
          clear hH18 hK K hb1
          refine wpAnyH_take (i := 14) (oi := { dst := some 22, op := Go.Op.binOp Go.BinOp.add 9 (Go.Operand.tmp 18) (Go.Operand.tmp 21) 9, type := 9, pos := "l09_bytes.go:30", after := #[{ on := 10, ground := Go.Ground.data }, { on := 13, ground := Go.Ground.data }], guard := none }) (v := ?vt21) rfl (by kernel_rfl) (by kernel_rfl) (by kernel_rfl) (fun _ _ _ h => h) (Or.inl ⟨by rfl, ?yt21⟩) hH20 ?zt21
          case yt21 =>
            intro w hSw
            (try dsimp only at hSw)
            go_simp
            try with_reducible rfl
          simp only [Act.put, List.setIfInBounds_toArray, List.set_cons_zero, List.set_cons_succ]
          refine wpAnyH_ready (rs := [19]) (by kernel_rfl) (by simp) ?_
          refine AllReadyH.cons (o := { dst := some 27, op := Go.Op.buildSlice 63 1 #[(0, Go.Operand.tmp 26)], type := 63, pos := "l09_bytes.go:30", after := #[{ on := 18, ground := Go.Ground.data }], guard := none }) rfl (fun K hK => ?_) (AllReadyH.nil)
          · go_simp
            try go_wp2_with fail
            have HZ22 : Hid (Below W.heap.size W (X20.alloc (.cells #[.int .u8 (IntKind.u8.wrap (b.size : Int))] 5))) := bel_a HZ20.out _
            have HB22 : Hid (∀ W', Below (X20.alloc (.cells #[.int .u8 (IntKind.u8.wrap (b.size : Int))] 5)).heap.size (X20.alloc (.cells #[.int .u8 (IntKind.u8.wrap (b.size : Int))] 5)) W' → W'.cell? ⟨X20.heap.size, 0, none⟩ = some (.int .u8 (IntKind.u8.wrap (b.size : Int)))) := fun W' h => (h.cell (p := ⟨X20.heap.size, 0, none⟩) (by simp)).trans (by go_simp)
            have bO22 : Hid (Below X17.heap.size X17 (X20.alloc (.cells #[.int .u8 (IntKind.u8.wrap (b.size : Int))] 5))) := bel_a bY20A.out _
            refine hK.out _ _ (HKS.out _ HZ22.out) (fun hH22 => ?_)
            clear hH20 hK K
            generalize X20.alloc (.cells #[.int .u8 (IntKind.u8.wrap (b.size : Int))] 5) = X22 at *
            have bZ22 : Hid (Below X22.heap.size X22 X22) := Below.refl _ _
            refine wpAnyH_ready (rs := [20]) (by kernel_rfl) (by simp) ?_
            refine AllReadyH.cons (o := { dst := some 28, op := Go.Op.convert 63 9 (Go.Operand.tmp 27), type := 9, pos := "l09_bytes.go:30", after := #[{ on := 19, ground := Go.Ground.data }], guard := none }) rfl (fun K hK => ?_) (AllReadyH.nil)
            · have r27 := kc2 _ _ (HB22.out _ bZ22.out)
              go_simp
              try go_wp2_with fail
              refine hK.out _ _ (HKS.out _ HZ22.out) (fun hH27 => ?_)
              clear hH22 hK K r27
              refine wpAnyH_take (i := 21) (oi := { dst := some 29, op := Go.Op.binOp Go.BinOp.add 9 (Go.Operand.tmp 22) (Go.Operand.tmp 28) 9, type := 9, pos := "l09_bytes.go:30", after := #[{ on := 14, ground := Go.Ground.data }, { on := 20, ground := Go.Ground.data }], guard := none }) (v := ?vt28) rfl (by kernel_rfl) (by kernel_rfl) (by kernel_rfl) (fun _ _ _ h => h) (Or.inl ⟨by rfl, ?yt28⟩) hH27 ?zt28
              case yt28 =>
                intro w hSw
                (try dsimp only at hSw)
                go_simp
                try with_reducible rfl
              simp only [Act.put, List.setIfInBounds_toArray, List.set_cons_zero, List.set_cons_succ]
              refine wpAnyH_take (i := 24) (oi := { dst := some 32, op := Go.Op.binOp Go.BinOp.add 9 (Go.Operand.tmp 29) (Go.Operand.tmp 31) 9, type := 9, pos := "l09_bytes.go:30", after := #[{ on := 21, ground := Go.Ground.data }, { on := 23, ground := Go.Ground.data }], guard := none }) (v := ?vt29) rfl (by kernel_rfl) (by kernel_rfl) (by kernel_rfl) (fun _ _ _ h => h) (Or.inl ⟨by rfl, ?yt29⟩) hH27 ?zt29
              case yt29 =>
                intro w hSw
                (try dsimp only at hSw)
                go_simp
                try with_reducible rfl
              simp only [Act.put, List.setIfInBounds_toArray, List.set_cons_zero, List.set_cons_succ]
              refine wpAnyH_take (i := 25) (oi := { dst := some 2, op := Go.Op.assign (Go.Operand.tmp 32), type := 9, pos := "l09_bytes.go:30", after := #[{ on := 24, ground := Go.Ground.data }, { on := 13, ground := Go.Ground.chain }, { on := 0, ground := Go.Ground.phase }, { on := 1, ground := Go.Ground.phase }, { on := 2, ground := Go.Ground.phase }, { on := 3, ground := Go.Ground.phase }, { on := 4, ground := Go.Ground.phase }, { on := 5, ground := Go.Ground.phase }, { on := 6, ground := Go.Ground.phase }, { on := 7, ground := Go.Ground.phase }, { on := 8, ground := Go.Ground.phase }, { on := 9, ground := Go.Ground.phase }, { on := 10, ground := Go.Ground.phase }, { on := 11, ground := Go.Ground.phase }, { on := 12, ground := Go.Ground.phase }, { on := 13, ground := Go.Ground.phase }, { on := 14, ground := Go.Ground.phase }, { on := 15, ground := Go.Ground.phase }, { on := 16, ground := Go.Ground.phase }, { on := 17, ground := Go.Ground.phase }, { on := 18, ground := Go.Ground.phase }, { on := 19, ground := Go.Ground.phase }, { on := 20, ground := Go.Ground.phase }, { on := 21, ground := Go.Ground.phase }, { on := 22, ground := Go.Ground.phase }, { on := 23, ground := Go.Ground.phase }, { on := 24, ground := Go.Ground.phase }], guard := none }) (v := ?vt30) rfl (by kernel_rfl) (by kernel_rfl) (by kernel_rfl) (fun _ _ _ h => h) (Or.inl ⟨by rfl, ?yt30⟩) hH27 ?zt30
              case yt30 =>
                intro w hSw
                (try dsimp only at hSw)
                go_simp
                try with_reducible rfl
              simp only [Act.put, List.setIfInBounds_toArray, List.set_cons_zero, List.set_cons_succ]
              refine wpAnyH_done (by kernel_rfl) ?_ _
              go_wp2_with fail
              go_ret
              exact ⟨Q4, rfl, HEQ.out T HTT.out Q2 Q3 Q4 HQ2.out HQ3.out HQ4.out, eA.trans (HZ22.out.mono eA.size)⟩
        · go_simp
          try go_wp2_with fail
          have HZ31 : Hid (Below W.heap.size W (X17.alloc (.cells #[.int .u8 (IntKind.u8.wrap (b.size : Int))] 5))) := bel_a HZ17.out _
          have HB31 : Hid (∀ W', Below (X17.alloc (.cells #[.int .u8 (IntKind.u8.wrap (b.size : Int))] 5)).heap.size (X17.alloc (.cells #[.int .u8 (IntKind.u8.wrap (b.size : Int))] 5)) W' → W'.cell? ⟨X17.heap.size, 0, none⟩ = some (.int .u8 (IntKind.u8.wrap (b.size : Int)))) := fun W' h => (h.cell (p := ⟨X17.heap.size, 0, none⟩) (by simp)).trans (by go_simp)
          have bO31 : Hid (Below X17.heap.size X17 (X17.alloc (.cells #[.int .u8 (IntKind.u8.wrap (b.size : Int))] 5))) := bel_a bZ17.out _
          refine hK.out _ _ (HKS.out _ HZ31.out) (fun hH31 => ?_)
          clear hH18 hK K
          generalize X17.alloc (.cells #[.int .u8 (IntKind.u8.wrap (b.size : Int))] 5) = X31 at *
          have bZ31 : Hid (Below X31.heap.size X31 X31) := Below.refl _ _
          refine wpAnyH_ready (rs := [13, 20]) (by kernel_rfl) (by simp) ?_
          refine AllReadyH.cons (o := { dst := some 21, op := Go.Op.call { callee := Go.Callee.value (Go.Operand.func 44), args := #[Go.Operand.tmp 20], argTypes := #[3] }, type := 9, pos := "l09_bytes.go:30", after := #[{ on := 12, ground := Go.Ground.data }], guard := none }) rfl (fun K hK => ?_) (AllReadyH.cons (o := { dst := some 28, op := Go.Op.convert 63 9 (Go.Operand.tmp 27), type := 9, pos := "l09_bytes.go:30", after := #[{ on := 19, ground := Go.Ground.data }], guard := none }) rfl (fun K hK => ?_) (AllReadyH.nil))
          · go_simp
            refine (l09Two_any m _ hm0 hm1).mono ?_
            rintro e X44 ⟨T, rfl, hT, hTs, hb1⟩
            have HTT := Lib.hid hT
            have hz0 : T.size ≤ 2 := Nat.le_of_eq hTs
            obtain ⟨Q2, HQ2, hq2, kA2⟩ := glue_run Q1 T (by omega)
            obtain ⟨Q3, HQ3, hq3, kA3⟩ := glue_run Q2 S2 (by omega)
            obtain ⟨Q4, HQ4, hq4, kA4⟩ := glue_run Q3 b (by omega)
            clear hT hTs
            have HZ44 : Hid (Below W.heap.size W X44) := bel_t HZ31.out hb1
            have bY44A : Hid (Below X17.heap.size X17 X44) := bel_t bO31.out hb1
            have bY44B : Hid (Below X31.heap.size X31 X44) := bel_t bZ31.out hb1
            go_wp2_with fail
            refine hK.out _ _ (HKS.out _ HZ44.out) (fun hH44 => ?_)
            clear hH31 hK K hb1
            refine wpAnyH_take (i := 14) (oi := { dst := some 22, op := Go.Op.binOp Go.BinOp.add 9 (Go.Operand.tmp 18) (Go.Operand.tmp 21) 9, type := 9, pos := "l09_bytes.go:30", after := #[{ on := 10, ground := Go.Ground.data }, { on := 13, ground := Go.Ground.data }], guard := none }) (v := ?vt45) rfl (by kernel_rfl) (by kernel_rfl) (by kernel_rfl) (fun _ _ _ h => h) (Or.inl ⟨by rfl, ?yt45⟩) hH44 ?zt45
            case yt45 =>
              intro w hSw
              (try dsimp only at hSw)
              go_simp
              try with_reducible rfl
            simp only [Act.put, List.setIfInBounds_toArray, List.set_cons_zero, List.set_cons_succ]
            refine wpAnyH_ready (rs := [20]) (by kernel_rfl) (by simp) ?_
            refine AllReadyH.cons (o := { dst := some 28, op := Go.Op.convert 63 9 (Go.Operand.tmp 27), type := 9, pos := "l09_bytes.go:30", after := #[{ on := 19, ground := Go.Ground.data }], guard := none }) rfl (fun K hK => ?_) (AllReadyH.nil)
            · have r46 := kc2 _ _ (HB31.out _ bY44B.out)
              go_simp
              try go_wp2_with fail
              refine hK.out _ _ (HKS.out _ HZ44.out) (fun hH46 => ?_)
              clear hH44 hK K r46
              refine wpAnyH_take (i := 21) (oi := { dst := some 29, op := Go.Op.binOp Go.BinOp.add 9 (Go.Operand.tmp 22) (Go.Operand.tmp 28) 9, type := 9, pos := "l09_bytes.go:30", after := #[{ on := 14, ground := Go.Ground.data }, { on := 20, ground := Go.Ground.data }], guard := none }) (v := ?vt47) rfl (by kernel_rfl) (by kernel_rfl) (by kernel_rfl) (fun _ _ _ h => h) (Or.inl ⟨by rfl, ?yt47⟩) hH46 ?zt47
              case yt47 =>
                intro w hSw
                (try dsimp only at hSw)
                go_simp
                try with_reducible rfl
              simp only [Act.put, List.setIfInBounds_toArray, List.set_cons_zero, List.set_cons_succ]
              refine wpAnyH_take (i := 24) (oi := { dst := some 32, op := Go.Op.binOp Go.BinOp.add 9 (Go.Operand.tmp 29) (Go.Operand.tmp 31) 9, type := 9, pos := "l09_bytes.go:30", after := #[{ on := 21, ground := Go.Ground.data }, { on := 23, ground := Go.Ground.data }], guard := none }) (v := ?vt48) rfl (by kernel_rfl) (by kernel_rfl) (by kernel_rfl) (fun _ _ _ h => h) (Or.inl ⟨by rfl, ?yt48⟩) hH46 ?zt48
              case yt48 =>
                intro w hSw
                (try dsimp only at hSw)
                go_simp
                try with_reducible rfl
              simp only [Act.put, List.setIfInBounds_toArray, List.set_cons_zero, List.set_cons_succ]
              refine wpAnyH_take (i := 25) (oi := { dst := some 2, op := Go.Op.assign (Go.Operand.tmp 32), type := 9, pos := "l09_bytes.go:30", after := #[{ on := 24, ground := Go.Ground.data }, { on := 13, ground := Go.Ground.chain }, { on := 0, ground := Go.Ground.phase }, { on := 1, ground := Go.Ground.phase }, { on := 2, ground := Go.Ground.phase }, { on := 3, ground := Go.Ground.phase }, { on := 4, ground := Go.Ground.phase }, { on := 5, ground := Go.Ground.phase }, { on := 6, ground := Go.Ground.phase }, { on := 7, ground := Go.Ground.phase }, { on := 8, ground := Go.Ground.phase }, { on := 9, ground := Go.Ground.phase }, { on := 10, ground := Go.Ground.phase }, { on := 11, ground := Go.Ground.phase }, { on := 12, ground := Go.Ground.phase }, { on := 13, ground := Go.Ground.phase }, { on := 14, ground := Go.Ground.phase }, { on := 15, ground := Go.Ground.phase }, { on := 16, ground := Go.Ground.phase }, { on := 17, ground := Go.Ground.phase }, { on := 18, ground := Go.Ground.phase }, { on := 19, ground := Go.Ground.phase }, { on := 20, ground := Go.Ground.phase }, { on := 21, ground := Go.Ground.phase }, { on := 22, ground := Go.Ground.phase }, { on := 23, ground := Go.Ground.phase }, { on := 24, ground := Go.Ground.phase }], guard := none }) (v := ?vt49) rfl (by kernel_rfl) (by kernel_rfl) (by kernel_rfl) (fun _ _ _ h => h) (Or.inl ⟨by rfl, ?yt49⟩) hH46 ?zt49
              case yt49 =>
                intro w hSw
                (try dsimp only at hSw)
                go_simp
                try with_reducible rfl
              simp only [Act.put, List.setIfInBounds_toArray, List.set_cons_zero, List.set_cons_succ]
              refine wpAnyH_done (by kernel_rfl) ?_ _
              go_wp2_with fail
              go_ret
              exact ⟨Q4, rfl, HEQ.out T HTT.out Q2 Q3 Q4 HQ2.out HQ3.out HQ4.out, eA.trans (HZ44.out.mono eA.size)⟩
          · have r50 := kc2 _ _ (HB31.out _ bZ31.out)
            go_simp
            try go_wp2_with fail
            refine hK.out _ _ (HKS.out _ HZ31.out) (fun hH50 => ?_)
            clear hH31 hK K r50
            refine wpAnyH_ready (rs := [13]) (by kernel_rfl) (by simp) ?_
            refine AllReadyH.cons (o := { dst := some 21, op := Go.Op.call { callee := Go.Callee.value (Go.Operand.func 44), args := #[Go.Operand.tmp 20], argTypes := #[3] }, type := 9, pos := "l09_bytes.go:30", after := #[{ on := 12, ground := Go.Ground.data }], guard := none }) rfl (fun K hK => ?_) (AllReadyH.nil)
            · go_simp
              refine (l09Two_any m _ hm0 hm1).mono ?_
              rintro e X51 ⟨T, rfl, hT, hTs, hb1⟩
              have HTT := Lib.hid hT
              have hz0 : T.size ≤ 2 := Nat.le_of_eq hTs
              obtain ⟨Q2, HQ2, hq2, kA2⟩ := glue_run Q1 T (by omega)
              obtain ⟨Q3, HQ3, hq3, kA3⟩ := glue_run Q2 S2 (by omega)
              obtain ⟨Q4, HQ4, hq4, kA4⟩ := glue_run Q3 b (by omega)
              clear hT hTs
              have HZ51 : Hid (Below W.heap.size W X51) := bel_t HZ31.out hb1
              have bY51A : Hid (Below X17.heap.size X17 X51) := bel_t bO31.out hb1
              have bY51B : Hid (Below X31.heap.size X31 X51) := bel_t bZ31.out hb1
              go_wp2_with fail
              refine hK.out _ _ (HKS.out _ HZ51.out) (fun hH51 => ?_)
              clear hH50 hK K hb1
              refine wpAnyH_take (i := 14) (oi := { dst := some 22, op := Go.Op.binOp Go.BinOp.add 9 (Go.Operand.tmp 18) (Go.Operand.tmp 21) 9, type := 9, pos := "l09_bytes.go:30", after := #[{ on := 10, ground := Go.Ground.data }, { on := 13, ground := Go.Ground.data }], guard := none }) (v := ?vt52) rfl (by kernel_rfl) (by kernel_rfl) (by kernel_rfl) (fun _ _ _ h => h) (Or.inl ⟨by rfl, ?yt52⟩) hH51 ?zt52
              case yt52 =>
                intro w hSw
                (try dsimp only at hSw)
                go_simp
                try with_reducible rfl
              simp only [Act.put, List.setIfInBounds_toArray, List.set_cons_zero, List.set_cons_succ]
              refine wpAnyH_take (i := 21) (oi := { dst := some 29, op := Go.Op.binOp Go.BinOp.add 9 (Go.Operand.tmp 22) (Go.Operand.tmp 28) 9, type := 9, pos := "l09_bytes.go:30", after := #[{ on := 14, ground := Go.Ground.data }, { on := 20, ground := Go.Ground.data }], guard := none }) (v := ?vt53) rfl (by kernel_rfl) (by kernel_rfl) (by kernel_rfl) (fun _ _ _ h => h) (Or.inl ⟨by rfl, ?yt53⟩) hH51 ?zt53
              case yt53 =>
                intro w hSw
                (try dsimp only at hSw)
                go_simp
                try with_reducible rfl
              simp only [Act.put, List.setIfInBounds_toArray, List.set_cons_zero, List.set_cons_succ]
              refine wpAnyH_take (i := 24) (oi := { dst := some 32, op := Go.Op.binOp Go.BinOp.add 9 (Go.Operand.tmp 29) (Go.Operand.tmp 31) 9, type := 9, pos := "l09_bytes.go:30", after := #[{ on := 21, ground := Go.Ground.data }, { on := 23, ground := Go.Ground.data }], guard := none }) (v := ?vt54) rfl (by kernel_rfl) (by kernel_rfl) (by kernel_rfl) (fun _ _ _ h => h) (Or.inl ⟨by rfl, ?yt54⟩) hH51 ?zt54
              case yt54 =>
                intro w hSw
                (try dsimp only at hSw)
                go_simp
                try with_reducible rfl
              simp only [Act.put, List.setIfInBounds_toArray, List.set_cons_zero, List.set_cons_succ]
              refine wpAnyH_take (i := 25) (oi := { dst := some 2, op := Go.Op.assign (Go.Operand.tmp 32), type := 9, pos := "l09_bytes.go:30", after := #[{ on := 24, ground := Go.Ground.data }, { on := 13, ground := Go.Ground.chain }, { on := 0, ground := Go.Ground.phase }, { on := 1, ground := Go.Ground.phase }, { on := 2, ground := Go.Ground.phase }, { on := 3, ground := Go.Ground.phase }, { on := 4, ground := Go.Ground.phase }, { on := 5, ground := Go.Ground.phase }, { on := 6, ground := Go.Ground.phase }, { on := 7, ground := Go.Ground.phase }, { on := 8, ground := Go.Ground.phase }, { on := 9, ground := Go.Ground.phase }, { on := 10, ground := Go.Ground.phase }, { on := 11, ground := Go.Ground.phase }, { on := 12, ground := Go.Ground.phase }, { on := 13, ground := Go.Ground.phase }, { on := 14, ground := Go.Ground.phase }, { on := 15, ground := Go.Ground.phase }, { on := 16, ground := Go.Ground.phase }, { on := 17, ground := Go.Ground.phase }, { on := 18, ground := Go.Ground.phase }, { on := 19, ground := Go.Ground.phase }, { on := 20, ground := Go.Ground.phase }, { on := 21, ground := Go.Ground.phase }, { on := 22, ground := Go.Ground.phase }, { on := 23, ground := Go.Ground.phase }, { on := 24, ground := Go.Ground.phase }], guard := none }) (v := ?vt55) rfl (by kernel_rfl) (by kernel_rfl) (by kernel_rfl) (fun _ _ _ h => h) (Or.inl ⟨by rfl, ?yt55⟩) hH51 ?zt55
              case yt55 =>
                intro w hSw
                (try dsimp only at hSw)
                go_simp
                try with_reducible rfl
              simp only [Act.put, List.setIfInBounds_toArray, List.set_cons_zero, List.set_cons_succ]
              refine wpAnyH_done (by kernel_rfl) ?_ _
              go_wp2_with fail
              go_ret
              exact ⟨Q4, rfl, HEQ.out T HTT.out Q2 Q3 Q4 HQ2.out HQ3.out HQ4.out, eA.trans (HZ51.out.mono eA.size)⟩
      · go_simp
        refine (l09Two_any m _ hm0 hm1).mono ?_
        rintro e X56 ⟨T, rfl, hT, hTs, hb1⟩
        have HTT := Lib.hid hT
        have hz0 : T.size ≤ 2 := Nat.le_of_eq hTs
        obtain ⟨Q2, HQ2, hq2, kA2⟩ := glue_run Q1 T (by omega)
        obtain ⟨Q3, HQ3, hq3, kA3⟩ := glue_run Q2 S2 (by omega)
        obtain ⟨Q4, HQ4, hq4, kA4⟩ := glue_run Q3 b (by omega)
        clear hT hTs
        have HZ56 : Hid (Below W.heap.size W X56) := bel_t HZ17.out hb1
        have bY56A : Hid (Below X17.heap.size X17 X56) := bel_t bZ17.out hb1
        go_wp2_with fail
        refine hK.out _ _ (HKS.out _ HZ56.out) (fun hH56 => ?_)
        clear hH17 hK K hb1
        refine wpAnyH_ready (rs := [7, 19]) (by kernel_rfl) (by simp) ?_
        refine AllReadyH.cons (o := { dst := some 15, op := Go.Op.convert 63 9 (Go.Operand.tmp 14), type := 9, pos := "l09_bytes.go:30", after := #[{ on := 6, ground := Go.Ground.data }], guard := none }) rfl (fun K hK => ?_) (AllReadyH.cons (o := { dst := some 27, op := Go.Op.buildSlice 63 1 #[(0, Go.Operand.tmp 26)], type := 63, pos := "l09_bytes.go:30", after := #[{ on := 18, ground := Go.Ground.data }], guard := none }) rfl (fun K hK => ?_) (AllReadyH.nil))
        · have r57 := kc1 _ _ (HA17.out _ bY56A.out).1 (HA17.out _ bY56A.out).2
          go_simp
          try go_wp2_with fail
          refine hK.out _ _ (HKS.out _ HZ56.out) (fun hH57 => ?_)
          clear hH56 hK K r57
          refine wpAnyH_take (i := 10) (oi := { dst := some 18, op := Go.Op.binOp Go.BinOp.add 9 (Go.Operand.tmp 15) (Go.Operand.tmp 17) 9, type := 9, pos := "l09_bytes.go:30", after := #[{ on := 7, ground := Go.Ground.data }, { on := 9, ground := Go.Ground.data }], guard := none }) (v := ?vt58) rfl (by kernel_rfl) (by kernel_rfl) (by kernel_rfl) (fun _ _ _ h => h) (Or.inl ⟨by rfl, ?yt58⟩) hH57 ?zt58
          case yt58 =>
            intro w hSw
            (try dsimp only at hSw)
            go_simp
            try with_reducible rfl
          simp only [Act.put, List.setIfInBounds_toArray, List.set_cons_zero, List.set_cons_succ]
          refine wpAnyH_take (i := 14) (oi := { dst := some 22, op := Go.Op.binOp Go.BinOp.add 9 (Go.Operand.tmp 18) (Go.Operand.tmp 21) 9, type := 9, pos := "l09_bytes.go:30", after := #[{ on := 10, ground := Go.Ground.data }, { on := 13, ground := Go.Ground.data }], guard := none }) (v := ?vt59) rfl (by kernel_rfl) (by kernel_rfl) (by kernel_rfl) (fun _ _ _ h => h) (Or.inl ⟨by rfl, ?yt59⟩) hH57 ?zt59
          case yt59 =>
            intro w hSw
            (try dsimp only at hSw)
            go_simp
            try with_reducible rfl
          simp only [Act.put, List.setIfInBounds_toArray, List.set_cons_zero, List.set_cons_succ]
          refine wpAnyH_ready (rs := [19]) (by kernel_rfl) (by simp) ?_
          refine AllReadyH.cons (o := { dst := some 27, op := Go.Op.buildSlice 63 1 #[(0, Go.Operand.tmp 26)], type := 63, pos := "l09_bytes.go:30", after := #[{ on := 18, ground := Go.Ground.data }], guard := none }) rfl (fun K hK => ?_) (AllReadyH.nil)
          · go_simp
            try go_wp2_with fail
            have HZ60 : Hid (Below W.heap.size W (X56.alloc (.cells #[.int .u8 (IntKind.u8.wrap (b.size : Int))] 5))) := bel_a HZ56.out _
            have HB60 : Hid (∀ W', Below (X56.alloc (.cells #[.int .u8 (IntKind.u8.wrap (b.size : Int))] 5)).heap.size (X56.alloc (.cells #[.int .u8 (IntKind.u8.wrap (b.size : Int))] 5)) W' → W'.cell? ⟨X56.heap.size, 0, none⟩ = some (.int .u8 (IntKind.u8.wrap (b.size : Int)))) := fun W' h => (h.cell (p := ⟨X56.heap.size, 0, none⟩) (by simp)).trans (by go_simp)
            have bO60 : Hid (Below X17.heap.size X17 (X56.alloc (.cells #[.int .u8 (IntKind.u8.wrap (b.size : Int))] 5))) := bel_a bY56A.out _
            refine hK.out _ _ (HKS.out _ HZ60.out) (fun hH60 => ?_)
            clear hH57 hK K
            generalize X56.alloc (.cells #[.int .u8 (IntKind.u8.wrap (b.size : Int))] 5) = X60 at *
            have bZ60 : Hid (Below X60.heap.size X60 X60) := Below.refl _ _
            refine wpAnyH_ready (rs := [20]) (by kernel_rfl) (by simp) ?_
            refine AllReadyH.cons (o := { dst := some 28, op := Go.Op.convert 63 9 (Go.Operand.tmp 27), type := 9, pos := "l09_bytes.go:30", after := #[{ on := 19, ground := Go.Ground.data }], guard := none }) rfl (fun K hK => ?_) (AllReadyH.nil)
            · have r65 := kc2 _ _ (HB60.out _ bZ60.out)
              go_simp
              try go_wp2_with fail
              refine hK.out _ _ (HKS.out _ HZ60.out) (fun hH65 => ?_)
              clear hH60 hK K r65
              refine wpAnyH_take (i := 21) (oi := { dst := some 29, op := Go.Op.binOp Go.BinOp.add 9 (Go.Operand.tmp 22) (Go.Operand.tmp 28) 9, type := 9, pos := "l09_bytes.go:30", after := #[{ on := 14, ground := Go.Ground.data }, { on := 20, ground := Go.Ground.data }], guard := none }) (v := ?vt66) rfl (by kernel_rfl) (by kernel_rfl) (by kernel_rfl) (fun _ _ _ h => h) (Or.inl ⟨by rfl, ?yt66⟩) hH65 ?zt66
              case yt66 =>
                intro w hSw
                (try dsimp only at hSw)
                go_simp
                try with_reducible rfl
              simp only [Act.put, List.setIfInBounds_toArray, List.set_cons_zero, List.set_cons_succ]
              refine wpAnyH_take (i := 24) (oi := { dst := some 32, op := Go.Op.binOp Go.BinOp.add 9 (Go.Operand.tmp 29) (Go.Operand.tmp 31) 9, type := 9, pos := "l09_bytes.go:30", after := #[{ on := 21, ground := Go.Ground.data }, { on := 23, ground := Go.Ground.data }], guard := none }) (v := ?vt67) rfl (by kernel_rfl) (by kernel_rfl) (by kernel_rfl) (fun _ _ _ h => h) (Or.inl ⟨by rfl, ?yt67⟩) hH65 ?zt67
              case yt67 =>
                intro w hSw
                (try dsimp only at hSw)
                go_simp
                try with_reducible rfl
              simp only [Act.put, List.setIfInBounds_toArray, List.set_cons_zero, List.set_cons_succ]
              refine wpAnyH_take (i := 25) (oi := { dst := some 2, op := Go.Op.assign (Go.Operand.tmp 32), type := 9, pos := "l09_bytes.go:30", after := #[{ on := 24, ground := Go.Ground.data }, { on := 13, ground := Go.Ground.chain }, { on := 0, ground := Go.Ground.phase }, { on := 1, ground := Go.Ground.phase }, { on := 2, ground := Go.Ground.phase }, { on := 3, ground := Go.Ground.phase }, { on := 4, ground := Go.Ground.phase }, { on := 5, ground := Go.Ground.phase }, { on := 6, ground := Go.Ground.phase }, { on := 7, ground := Go.Ground.phase }, { on := 8, ground := Go.Ground.phase }, { on := 9, ground := Go.Ground.phase }, { on := 10, ground := Go.Ground.phase }, { on := 11, ground := Go.Ground.phase }, { on := 12, ground := Go.Ground.phase }, { on := 13, ground := Go.Ground.phase }, { on := 14, ground := Go.Ground.phase }, { on := 15, ground := Go.Ground.phase }, { on := 16, ground := Go.Ground.phase }, { on := 17, ground := Go.Ground.phase }, { on := 18, ground := Go.Ground.phase }, { on := 19, ground := Go.Ground.phase }, { on := 20, ground := Go.Ground.phase }, { on := 21, ground := Go.Ground.phase }, { on := 22, ground := Go.Ground.phase }, { on := 23, ground := Go.Ground.phase }, { on := 24, ground := Go.Ground.phase }], guard := none }) (v := ?vt68) rfl (by kernel_rfl) (by kernel_rfl) (by kernel_rfl) (fun _ _ _ h => h) (Or.inl ⟨by rfl, ?yt68⟩) hH65 ?zt68
              case yt68 =>
                intro w hSw
                (try dsimp only at hSw)
                go_simp
                try with_reducible rfl
              simp only [Act.put, List.setIfInBounds_toArray, List.set_cons_zero, List.set_cons_succ]
              refine wpAnyH_done (by kernel_rfl) ?_ _
              go_wp2_with fail
              go_ret
              exact ⟨Q4, rfl, HEQ.out T HTT.out Q2 Q3 Q4 HQ2.out HQ3.out HQ4.out, eA.trans (HZ60.out.mono eA.size)⟩
        · go_simp
          try go_wp2_with fail
          have HZ69 : Hid (Below W.heap.size W (X56.alloc (.cells #[.int .u8 (IntKind.u8.wrap (b.size : Int))] 5))) := bel_a HZ56.out _
          have HB69 : Hid (∀ W', Below (X56.alloc (.cells #[.int .u8 (IntKind.u8.wrap (b.size : Int))] 5)).heap.size (X56.alloc (.cells #[.int .u8 (IntKind.u8.wrap (b.size : Int))] 5)) W' → W'.cell? ⟨X56.heap.size, 0, none⟩ = some (.int .u8 (IntKind.u8.wrap (b.size : Int)))) := fun W' h => (h.cell (p := ⟨X56.heap.size, 0, none⟩) (by simp)).trans (by go_simp)
          have bO69 : Hid (Below X17.heap.size X17 (X56.alloc (.cells #[.int .u8 (IntKind.u8.wrap (b.size : Int))] 5))) := bel_a bY56A.out _
          refine hK.out _ _ (HKS.out _ HZ69.out) (fun hH69 => ?_)
          clear hH56 hK K
          generalize X56.alloc (.cells #[.int .u8 (IntKind.u8.wrap (b.size : Int))] 5) = X69 at *
          have bZ69 : Hid (Below X69.heap.size X69 X69) := Below.refl _ _
          refine wpAnyH_ready (rs := [7, 20]) (by kernel_rfl) (by simp) ?_
          refine AllReadyH.cons (o := { dst := some 15, op := Go.Op.convert 63 9 (Go.Operand.tmp 14), type := 9, pos := "l09_bytes.go:30", after := #[{ on := 6, ground := Go.Ground.data }], guard := none }) rfl (fun K hK => ?_) (AllReadyH.cons (o := { dst := some 28, op := Go.Op.convert 63 9 (Go.Operand.tmp 27), type := 9, pos := "l09_bytes.go:30", after := #[{ on := 19, ground := Go.Ground.data }], guard := none }) rfl (fun K hK => ?_) (AllReadyH.nil))
          · have r84 := kc1 _ _ (HA17.out _ bO69.out).1 (HA17.out _ bO69.out).2
            go_simp
            try go_wp2_with fail
            refine hK.out _ _ (HKS.out _ HZ69.out) (fun hH84 => ?_)
            clear hH69 hK K r84
            refine wpAnyH_take (i := 10) (oi := { dst := some 18, op := Go.Op.binOp Go.BinOp.add 9 (Go.Operand.tmp 15) (Go.Operand.tmp 17) 9, type := 9, pos := "l09_bytes.go:30", after := #[{ on := 7, ground := Go.Ground.data }, { on := 9, ground := Go.Ground.data }], guard := none }) (v := ?vt85) rfl (by kernel_rfl) (by kernel_rfl) (by kernel_rfl) (fun _ _ _ h => h) (Or.inl ⟨by rfl, ?yt85⟩) hH84 ?zt85
            case yt85 =>
              intro w hSw
              (try dsimp only at hSw)
              go_simp
              try with_reducible rfl
            simp only [Act.put, List.setIfInBounds_toArray, List.set_cons_zero, List.set_cons_succ]
            refine wpAnyH_take (i := 14) (oi := { dst := some 22, op := Go.Op.binOp Go.BinOp.add 9 (Go.Operand.tmp 18) (Go.Operand.tmp 21) 9, type := 9, pos := "l09_bytes.go:30", after := #[{ on := 10, ground := Go.Ground.data }, { on := 13, ground := Go.Ground.data }], guard := none }) (v := ?vt86) rfl (by kernel_rfl) (by kernel_rfl) (by kernel_rfl) (fun _ _ _ h => h) (Or.inl ⟨by rfl, ?yt86⟩) hH84 ?zt86
            case yt86 =>
              intro w hSw
              (try dsimp only at hSw)
              go_simp
              try with_reducible rfl
            simp only [Act.put, List.setIfInBounds_toArray, List.set_cons_zero, List.set_cons_succ]
            refine wpAnyH_ready (rs := [20]) (by kernel_rfl) (by simp) ?_
            refine AllReadyH.cons (o := { dst := some 28, op := Go.Op.convert 63 9 (Go.Operand.tmp 27), type := 9, pos := "l09_bytes.go:30", after := #[{ on := 19, ground := Go.Ground.data }], guard := none }) rfl (fun K hK => ?_) (AllReadyH.nil)
            · have r87 := kc2 _ _ (HB69.out _ bZ69.out)
              go_simp
              try go_wp2_with fail
              refine hK.out _ _ (HKS.out _ HZ69.out) (fun hH87 => ?_)
              clear hH84 hK K r87
              refine wpAnyH_take (i := 21) (oi := { dst := some 29, op := Go.Op.binOp Go.BinOp.add 9 (Go.Operand.tmp 22) (Go.Operand.tmp 28) 9, type := 9, pos := "l09_bytes.go:30", after := #[{ on := 14, ground := Go.Ground.data }, { on := 20, ground := Go.Ground.data }], guard := none }) (v := ?vt88) rfl (by kernel_rfl) (by kernel_rfl) (by kernel_rfl) (fun _ _ _ h => h) (Or.inl ⟨by rfl, ?yt88⟩) hH87 ?zt88
              case yt88 =>
                intro w hSw
                (try dsimp only at hSw)
                go_simp
                try with_reducible rfl
              simp only [Act.put, List.setIfInBounds_toArray, List.set_cons_zero, List.set_cons_succ]
              refine wpAnyH_take (i := 24) (oi := { dst := some 32, op := Go.Op.binOp Go.BinOp.add 9 (Go.Operand.tmp 29) (Go.Operand.tmp 31) 9, type := 9, pos := "l09_bytes.go:30", after := #[{ on := 21, ground := Go.Ground.data }, { on := 23, ground := Go.Ground.data }], guard := none }) (v := ?vt89) rfl (by kernel_rfl) (by kernel_rfl) (by kernel_rfl) (fun _ _ _ h => h) (Or.inl ⟨by rfl, ?yt89⟩) hH87 ?zt89
              case yt89 =>
                intro w hSw
                (try dsimp only at hSw)
                go_simp
                try with_reducible rfl
              simp only [Act.put, List.setIfInBounds_toArray, List.set_cons_zero, List.set_cons_succ]
              refine wpAnyH_take (i := 25) (oi := { dst := some 2, op := Go.Op.assign (Go.Operand.tmp 32), type := 9, pos := "l09_bytes.go:30", after := #[{ on := 24, ground := Go.Ground.data }, { on := 13, ground := Go.Ground.chain }, { on := 0, ground := Go.Ground.phase }, { on := 1, ground := Go.Ground.phase }, { on := 2, ground := Go.Ground.phase }, { on := 3, ground := Go.Ground.phase }, { on := 4, ground := Go.Ground.phase }, { on := 5, ground := Go.Ground.phase }, { on := 6, ground := Go.Ground.phase }, { on := 7, ground := Go.Ground.phase }, { on := 8, ground := Go.Ground.phase }, { on := 9, ground := Go.Ground.phase }, { on := 10, ground := Go.Ground.phase }, { on := 11, ground := Go.Ground.phase }, { on := 12, ground := Go.Ground.phase }, { on := 13, ground := Go.Ground.phase }, { on := 14, ground := Go.Ground.phase }, { on := 15, ground := Go.Ground.phase }, { on := 16, ground := Go.Ground.phase }, { on := 17, ground := Go.Ground.phase }, { on := 18, ground := Go.Ground.phase }, { on := 19, ground := Go.Ground.phase }, { on := 20, ground := Go.Ground.phase }, { on := 21, ground := Go.Ground.phase }, { on := 22, ground := Go.Ground.phase }, { on := 23, ground := Go.Ground.phase }, { on := 24, ground := Go.Ground.phase }], guard := none }) (v := ?vt90) rfl (by kernel_rfl) (by kernel_rfl) (by kernel_rfl) (fun _ _ _ h => h) (Or.inl ⟨by rfl, ?yt90⟩) hH87 ?zt90
              case yt90 =>
                intro w hSw
                (try dsimp only at hSw)
                go_simp
                try with_reducible rfl
              simp only [Act.put, List.setIfInBounds_toArray, List.set_cons_zero, List.set_cons_succ]
              refine wpAnyH_done (by kernel_rfl) ?_ _
              go_wp2_with fail
              go_ret
              exact ⟨Q4, rfl, HEQ.out T HTT.out Q2 Q3 Q4 HQ2.out HQ3.out HQ4.out, eA.trans (HZ69.out.mono eA.size)⟩
          · have r91 := kc2 _ _ (HB69.out _ bZ69.out)
            go_simp
            try go_wp2_with fail
            refine hK.out _ _ (HKS.out _ HZ69.out) (fun hH91 => ?_)
            clear hH69 hK K r91
            refine wpAnyH_ready (rs := [7]) (by kernel_rfl) (by simp) ?_
            refine AllReadyH.cons (o := { dst := some 15, op := Go.Op.convert 63 9 (Go.Operand.tmp 14), type := 9, pos := "l09_bytes.go:30", after := #[{ on := 6, ground := Go.Ground.data }], guard := none }) rfl (fun K hK => ?_) (AllReadyH.nil)
            · have r92 := kc1 _ _ (HA17.out _ bO69.out).1 (HA17.out _ bO69.out).2
              go_simp
              try go_wp2_with fail
              refine hK.out _ _ (HKS.out _ HZ69.out) (fun hH92 => ?_)
              clear hH91 hK K r92
              refine wpAnyH_take (i := 10) (oi := { dst := some 18, op := Go.Op.binOp Go.BinOp.add 9 (Go.Operand.tmp 15) (Go.Operand.tmp 17) 9, type := 9, pos := "l09_bytes.go:30", after := #[{ on := 7, ground := Go.Ground.data }, { on := 9, ground := Go.Ground.data }], guard := none }) (v := ?vt93) rfl (by kernel_rfl) (by kernel_rfl) (by kernel_rfl) (fun _ _ _ h => h) (Or.inl ⟨by rfl, ?yt93⟩) hH92 ?zt93
              case yt93 =>
                intro w hSw
                (try dsimp only at hSw)
                go_simp
                try with_reducible rfl
              simp only [Act.put, List.setIfInBounds_toArray, List.set_cons_zero, List.set_cons_succ]
              refine wpAnyH_take (i := 14) (oi := { dst := some 22, op := Go.Op.binOp Go.BinOp.add 9 (Go.Operand.tmp 18) (Go.Operand.tmp 21) 9, type := 9, pos := "l09_bytes.go:30", after := #[{ on := 10, ground := Go.Ground.data }, { on := 13, ground := Go.Ground.data }], guard := none }) (v := ?vt94) rfl (by kernel_rfl) (by kernel_rfl) (by kernel_rfl) (fun _ _ _ h => h) (Or.inl ⟨by rfl, ?yt94⟩) hH92 ?zt94
              case yt94 =>
                intro w hSw
                (try dsimp only at hSw)
                go_simp
                try with_reducible rfl
              simp only [Act.put, List.setIfInBounds_toArray, List.set_cons_zero, List.set_cons_succ]
              refine wpAnyH_take (i := 21) (oi := { dst := some 29, op := Go.Op.binOp Go.BinOp.add 9 (Go.Operand.tmp 22) (Go.Operand.tmp 28) 9, type := 9, pos := "l09_bytes.go:30", after := #[{ on := 14, ground := Go.Ground.data }, { on := 20, ground := Go.Ground.data }], guard := none }) (v := ?vt95) rfl (by kernel_rfl) (by kernel_rfl) (by kernel_rfl) (fun _ _ _ h => h) (Or.inl ⟨by rfl, ?yt95⟩) hH92 ?zt95
              case yt95 =>
                intro w hSw
                (try dsimp only at hSw)
                go_simp
                try with_reducible rfl
              simp only [Act.put, List.setIfInBounds_toArray, List.set_cons_zero, List.set_cons_succ]
              refine wpAnyH_take (i := 24) (oi := { dst := some 32, op := Go.Op.binOp Go.BinOp.add 9 (Go.Operand.tmp 29) (Go.Operand.tmp 31) 9, type := 9, pos := "l09_bytes.go:30", after := #[{ on := 21, ground := Go.Ground.data }, { on := 23, ground := Go.Ground.data }], guard := none }) (v := ?vt96) rfl (by kernel_rfl) (by kernel_rfl) (by kernel_rfl) (fun _ _ _ h => h) (Or.inl ⟨by rfl, ?yt96⟩) hH92 ?zt96
              case yt96 =>
                intro w hSw
                (try dsimp only at hSw)
                go_simp
                try with_reducible rfl
              simp only [Act.put, List.setIfInBounds_toArray, List.set_cons_zero, List.set_cons_succ]
              refine wpAnyH_take (i := 25) (oi := { dst := some 2, op := Go.Op.assign (Go.Operand.tmp 32), type := 9, pos := "l09_bytes.go:30", after := #[{ on := 24, ground := Go.Ground.data }, { on := 13, ground := Go.Ground.chain }, { on := 0, ground := Go.Ground.phase }, { on := 1, ground := Go.Ground.phase }, { on := 2, ground := Go.Ground.phase }, { on := 3, ground := Go.Ground.phase }, { on := 4, ground := Go.Ground.phase }, { on := 5, ground := Go.Ground.phase }, { on := 6, ground := Go.Ground.phase }, { on := 7, ground := Go.Ground.phase }, { on := 8, ground := Go.Ground.phase }, { on := 9, ground := Go.Ground.phase }, { on := 10, ground := Go.Ground.phase }, { on := 11, ground := Go.Ground.phase }, { on := 12, ground := Go.Ground.phase }, { on := 13, ground := Go.Ground.phase }, { on := 14, ground := Go.Ground.phase }, { on := 15, ground := Go.Ground.phase }, { on := 16, ground := Go.Ground.phase }, { on := 17, ground := Go.Ground.phase }, { on := 18, ground := Go.Ground.phase }, { on := 19, ground := Go.Ground.phase }, { on := 20, ground := Go.Ground.phase }, { on := 21, ground := Go.Ground.phase }, { on := 22, ground := Go.Ground.phase }, { on := 23, ground := Go.Ground.phase }, { on := 24, ground := Go.Ground.phase }], guard := none }) (v := ?vt97) rfl (by kernel_rfl) (by kernel_rfl) (by kernel_rfl) (fun _ _ _ h => h) (Or.inl ⟨by rfl, ?yt97⟩) hH92 ?zt97
              case yt97 =>
                intro w hSw
                (try dsimp only at hSw)
                go_simp
                try with_reducible rfl
              simp only [Act.put, List.setIfInBounds_toArray, List.set_cons_zero, List.set_cons_succ]
              refine wpAnyH_done (by kernel_rfl) ?_ _
              go_wp2_with fail
              go_ret
              exact ⟨Q4, rfl, HEQ.out T HTT.out Q2 Q3 Q4 HQ2.out HQ3.out HQ4.out, eA.trans (HZ69.out.mono eA.size)⟩
      · go_simp
        try go_wp2_with fail
        have HZ98 : Hid (Below W.heap.size W (X17.alloc (.cells #[.int .u8 (IntKind.u8.wrap (b.size : Int))] 5))) := bel_a HZ17.out _
        have HB98 : Hid (∀ W', Below (X17.alloc (.cells #[.int .u8 (IntKind.u8.wrap (b.size : Int))] 5)).heap.size (X17.alloc (.cells #[.int .u8 (IntKind.u8.wrap (b.size : Int))] 5)) W' → W'.cell? ⟨X17.heap.size, 0, none⟩ = some (.int .u8 (IntKind.u8.wrap (b.size : Int)))) := fun W' h => (h.cell (p := ⟨X17.heap.size, 0, none⟩) (by simp)).trans (by go_simp)
        have bO98 : Hid (Below X17.heap.size X17 (X17.alloc (.cells #[.int .u8 (IntKind.u8.wrap (b.size : Int))] 5))) := bel_a bZ17.out _
        refine hK.out _ _ (HKS.out _ HZ98.out) (fun hH98 => ?_)
        clear hH17 hK K
        generalize X17.alloc (.cells #[.int .u8 (IntKind.u8.wrap (b.size : Int))] 5) = X98 at *
        have bZ98 : Hid (Below X98.heap.size X98 X98) := Below.refl _ _
        refine wpAnyH_ready (rs := [7, 13, 20]) (by kernel_rfl) (by simp) ?_
        refine AllReadyH.cons (o := { dst := some 15, op := Go.Op.convert 63 9 (Go.Operand.tmp 14), type := 9, pos := "l09_bytes.go:30", after := #[{ on := 6, ground := Go.Ground.data }], guard := none }) rfl (fun K hK => ?_) (AllReadyH.cons (o := { dst := some 21, op := Go.Op.call { callee := Go.Callee.value (Go.Operand.func 44), args := #[Go.Operand.tmp 20], argTypes := #[3] }, type := 9, pos := "l09_bytes.go:30", after := #[{ on := 12, ground := Go.Ground.data }], guard := none }) rfl (fun K hK => ?_) (AllReadyH.cons (o := { dst := some 28, op := Go.Op.convert 63 9 (Go.Operand.tmp 27), type := 9, pos := "l09_bytes.go:30", after := #[{ on := 19, ground := Go.Ground.data }], guard := none }) rfl (fun K hK => ?_) (AllReadyH.nil)))
        · have r143 := kc1 _ _ (HA17.out _ bO98.out).1 (HA17.out _ bO98.out).2
          go_simp
          try go_wp2_with fail
          refine hK.out _ _ (HKS.out _ HZ98.out) (fun hH143 => ?_)
          clear hH98 hK K r143
          refine wpAnyH_take (i := 10) (oi := { dst := some 18, op := Go.Op.binOp Go.BinOp.add 9 (Go.Operand.tmp 15) (Go.Operand.tmp 17) 9, type := 9, pos := "l09_bytes.go:30", after := #[{ on := 7, ground := Go.Ground.data }, { on := 9, ground := Go.Ground.data }], guard := none }) (v := ?vt144) rfl (by kernel_rfl) (by kernel_rfl) (by kernel_rfl) (fun _ _ _ h => h) (Or.inl ⟨by rfl, ?yt144⟩) hH143 ?zt144
          case yt144 =>
            intro w hSw
            (try dsimp only at hSw)
            go_simp
            try with_reducible rfl
          simp only [Act.put, List.setIfInBounds_toArray, List.set_cons_zero, List.set_cons_succ]
          refine wpAnyH_ready (rs := [13, 20]) (by kernel_rfl) (by simp) ?_
          refine AllReadyH.cons (o := { dst := some 21, op := Go.Op.call { callee := Go.Callee.value (Go.Operand.func 44), args := #[Go.Operand.tmp 20], argTypes := #[3] }, type := 9, pos := "l09_bytes.go:30", after := #[{ on := 12, ground := Go.Ground.data }], guard := none }) rfl (fun K hK => ?_) (AllReadyH.cons (o := { dst := some 28, op := Go.Op.convert 63 9 (Go.Operand.tmp 27), type := 9, pos := "l09_bytes.go:30", after := #[{ on := 19, ground := Go.Ground.data }], guard := none }) rfl (fun K hK => ?_) (AllReadyH.nil))
          · go_simp
            refine (l09Two_any m _ hm0 hm1).mono ?_
            rintro e X145 ⟨T, rfl, hT, hTs, hb1⟩
            have HTT := Lib.hid hT
            have hz0 : T.size ≤ 2 := Nat.le_of_eq hTs
            obtain ⟨Q2, HQ2, hq2, kA2⟩ := glue_run Q1 T (by omega)
            obtain ⟨Q3, HQ3, hq3, kA3⟩ := glue_run Q2 S2 (by omega)
            obtain ⟨Q4, HQ4, hq4, kA4⟩ := glue_run Q3 b (by omega)
            clear hT hTs
            have HZ145 : Hid (Below W.heap.size W X145) := bel_t HZ98.out hb1
            have bY145A : Hid (Below X17.heap.size X17 X145) := bel_t bO98.out hb1
            have bY145B : Hid (Below X98.heap.size X98 X145) := bel_t bZ98.out hb1
            go_wp2_with fail
            refine hK.out _ _ (HKS.out _ HZ145.out) (fun hH145 => ?_)
            clear hH143 hK K hb1
            refine wpAnyH_take (i := 14) (oi := { dst := some 22, op := Go.Op.binOp Go.BinOp.add 9 (Go.Operand.tmp 18) (Go.Operand.tmp 21) 9, type := 9, pos := "l09_bytes.go:30", after := #[{ on := 10, ground := Go.Ground.data }, { on := 13, ground := Go.Ground.data }], guard := none }) (v := ?vt146) rfl (by kernel_rfl) (by kernel_rfl) (by kernel_rfl) (fun _ _ _ h => h) (Or.inl ⟨by rfl, ?yt146⟩) hH145 ?zt146
            case yt146 =>
              intro w hSw
              (try dsimp only at hSw)
              go_simp
              try with_reducible rfl
            simp only [Act.put, List.setIfInBounds_toArray, List.set_cons_zero, List.set_cons_succ]
            refine wpAnyH_ready (rs := [20]) (by kernel_rfl) (by simp) ?_
            refine AllReadyH.cons (o := { dst := some 28, op := Go.Op.convert 63 9 (Go.Operand.tmp 27), type := 9, pos := "l09_bytes.go:30", after := #[{ on := 19, ground := Go.Ground.data }], guard := none }) rfl (fun K hK => ?_) (AllReadyH.nil)
            · have r147 := kc2 _ _ (HB98.out _ bY145B.out)
              go_simp
              try go_wp2_with fail
              refine hK.out _ _ (HKS.out _ HZ145.out) (fun hH147 => ?_)
              clear hH145 hK K r147
              refine wpAnyH_take (i := 21) (oi := { dst := some 29, op := Go.Op.binOp Go.BinOp.add 9 (Go.Operand.tmp 22) (Go.Operand.tmp 28) 9, type := 9, pos := "l09_bytes.go:30", after := #[{ on := 14, ground := Go.Ground.data }, { on := 20, ground := Go.Ground.data }], guard := none }) (v := ?vt148) rfl (by kernel_rfl) (by kernel_rfl) (by kernel_rfl) (fun _ _ _ h => h) (Or.inl ⟨by rfl, ?yt148⟩) hH147 ?zt148
              case yt148 =>
                intro w hSw
                (try dsimp only at hSw)
                go_simp
                try with_reducible rfl
              simp only [Act.put, List.setIfInBounds_toArray, List.set_cons_zero, List.set_cons_succ]
              refine wpAnyH_take (i := 24) (oi := { dst := some 32, op := Go.Op.binOp Go.BinOp.add 9 (Go.Operand.tmp 29) (Go.Operand.tmp 31) 9, type := 9, pos := "l09_bytes.go:30", after := #[{ on := 21, ground := Go.Ground.data }, { on := 23, ground := Go.Ground.data }], guard := none }) (v := ?vt149) rfl (by kernel_rfl) (by kernel_rfl) (by kernel_rfl) (fun _ _ _ h => h) (Or.inl ⟨by rfl, ?yt149⟩) hH147 ?zt149
              case yt149 =>
                intro w hSw
                (try dsimp only at hSw)
                go_simp
                try with_reducible rfl
              simp only [Act.put, List.setIfInBounds_toArray, List.set_cons_zero, List.set_cons_succ]
              refine wpAnyH_take (i := 25) (oi := { dst := some 2, op := Go.Op.assign (Go.Operand.tmp 32), type := 9, pos := "l09_bytes.go:30", after := #[{ on := 24, ground := Go.Ground.data }, { on := 13, ground := Go.Ground.chain }, { on := 0, ground := Go.Ground.phase }, { on := 1, ground := Go.Ground.phase }, { on := 2, ground := Go.Ground.phase }, { on := 3, ground := Go.Ground.phase }, { on := 4, ground := Go.Ground.phase }, { on := 5, ground := Go.Ground.phase }, { on := 6, ground := Go.Ground.phase }, { on := 7, ground := Go.Ground.phase }, { on := 8, ground := Go.Ground.phase }, { on := 9, ground := Go.Ground.phase }, { on := 10, ground := Go.Ground.phase }, { on := 11, ground := Go.Ground.phase }, { on := 12, ground := Go.Ground.phase }, { on := 13, ground := Go.Ground.phase }, { on := 14, ground := Go.Ground.phase }, { on := 15, ground := Go.Ground.phase }, { on := 16, ground := Go.Ground.phase }, { on := 17, ground := Go.Ground.phase }, { on := 18, ground := Go.Ground.phase }, { on := 19, ground := Go.Ground.phase }, { on := 20, ground := Go.Ground.phase }, { on := 21, ground := Go.Ground.phase }, { on := 22, ground := Go.Ground.phase }, { on := 23, ground := Go.Ground.phase }, { on := 24, ground := Go.Ground.phase }], guard := none }) (v := ?vt150) rfl (by kernel_rfl) (by kernel_rfl) (by kernel_rfl) (fun _ _ _ h => h) (Or.inl ⟨by rfl, ?yt150⟩) hH147 ?zt150
              case yt150 =>
                intro w hSw
                (try dsimp only at hSw)
                go_simp
                try with_reducible rfl
              simp only [Act.put, List.setIfInBounds_toArray, List.set_cons_zero, List.set_cons_succ]
              refine wpAnyH_done (by kernel_rfl) ?_ _
              go_wp2_with fail
              go_ret
              exact ⟨Q4, rfl, HEQ.out T HTT.out Q2 Q3 Q4 HQ2.out HQ3.out HQ4.out, eA.trans (HZ145.out.mono eA.size)⟩
          · have r151 := kc2 _ _ (HB98.out _ bZ98.out)
            go_simp
            try go_wp2_with fail
            refine hK.out _ _ (HKS.out _ HZ98.out) (fun hH151 => ?_)
            clear hH143 hK K r151
            refine wpAnyH_ready (rs := [13]) (by kernel_rfl) (by simp) ?_
            refine AllReadyH.cons (o := { dst := some 21, op := Go.Op.call { callee := Go.Callee.value (Go.Operand.func 44), args := #[Go.Operand.tmp 20], argTypes := #[3] }, type := 9, pos := "l09_bytes.go:30", after := #[{ on := 12, ground := Go.Ground.data }], guard := none }) rfl (fun K hK => ?_) (AllReadyH.nil)
            · go_simp
              refine (l09Two_any m _ hm0 hm1).mono ?_
              rintro e X152 ⟨T, rfl, hT, hTs, hb1⟩
              have HTT := Lib.hid hT
              have hz0 : T.size ≤ 2 := Nat.le_of_eq hTs
              obtain ⟨Q2, HQ2, hq2, kA2⟩ := glue_run Q1 T (by omega)
              obtain ⟨Q3, HQ3, hq3, kA3⟩ := glue_run Q2 S2 (by omega)
              obtain ⟨Q4, HQ4, hq4, kA4⟩ := glue_run Q3 b (by omega)
              clear hT hTs
              have HZ152 : Hid (Below W.heap.size W X152) := bel_t HZ98.out hb1
              have bY152A : Hid (Below X17.heap.size X17 X152) := bel_t bO98.out hb1
              have bY152B : Hid (Below X98.heap.size X98 X152) := bel_t bZ98.out hb1
              go_wp2_with fail
              refine hK.out _ _ (HKS.out _ HZ152.out) (fun hH152 => ?_)
              clear hH151 hK K hb1
              refine wpAnyH_take (i := 14) (oi := { dst := some 22, op := Go.Op.binOp Go.BinOp.add 9 (Go.Operand.tmp 18) (Go.Operand.tmp 21) 9, type := 9, pos := "l09_bytes.go:30", after := #[{ on := 10, ground := Go.Ground.data }, { on := 13, ground := Go.Ground.data }], guard := none }) (v := ?vt153) rfl (by kernel_rfl) (by kernel_rfl) (by kernel_rfl) (fun _ _ _ h => h) (Or.inl ⟨by rfl, ?yt153⟩) hH152 ?zt153
              case yt153 =>
                intro w hSw
                (try dsimp only at hSw)
                go_simp
                try with_reducible rfl
              simp only [Act.put, List.setIfInBounds_toArray, List.set_cons_zero, List.set_cons_succ]
              refine wpAnyH_take (i := 21) (oi := { dst := some 29, op := Go.Op.binOp Go.BinOp.add 9 (Go.Operand.tmp 22) (Go.Operand.tmp 28) 9, type := 9, pos := "l09_bytes.go:30", after := #[{ on := 14, ground := Go.Ground.data }, { on := 20, ground := Go.Ground.data }], guard := none }) (v := ?vt154) rfl (by kernel_rfl) (by kernel_rfl) (by kernel_rfl) (fun _ _ _ h => h) (Or.inl ⟨by rfl, ?yt154⟩) hH152 ?zt154
              case yt154 =>
                intro w hSw
                (try dsimp only at hSw)
                go_simp
                try with_reducible rfl
              simp only [Act.put, List.setIfInBounds_toArray, List.set_cons_zero, List.set_cons_succ]
              refine wpAnyH_take (i := 24) (oi := { dst := some 32, op := Go.Op.binOp Go.BinOp.add 9 (Go.Operand.tmp 29) (Go.Operand.tmp 31) 9, type := 9, pos := "l09_bytes.go:30", after := #[{ on := 21, ground := Go.Ground.data }, { on := 23, ground := Go.Ground.data }], guard := none }) (v := ?vt155) rfl (by kernel_rfl) (by kernel_rfl) (by kernel_rfl) (fun _ _ _ h => h) (Or.inl ⟨by rfl, ?yt155⟩) hH152 ?zt155
              case yt155 =>
                intro w hSw
                (try dsimp only at hSw)
                go_simp
                try with_reducible rfl
              simp only [Act.put, List.setIfInBounds_toArray, List.set_cons_zero, List.set_cons_succ]
              refine wpAnyH_take (i := 25) (oi := { dst := some 2, op := Go.Op.assign (Go.Operand.tmp 32), type := 9, pos := "l09_bytes.go:30", after := #[{ on := 24, ground := Go.Ground.data }, { on := 13, ground := Go.Ground.chain }, { on := 0, ground := Go.Ground.phase }, { on := 1, ground := Go.Ground.phase }, { on := 2, ground := Go.Ground.phase }, { on := 3, ground := Go.Ground.phase }, { on := 4, ground := Go.Ground.phase }, { on := 5, ground := Go.Ground.phase }, { on := 6, ground := Go.Ground.phase }, { on := 7, ground := Go.Ground.phase }, { on := 8, ground := Go.Ground.phase }, { on := 9, ground := Go.Ground.phase }, { on := 10, ground := Go.Ground.phase }, { on := 11, ground := Go.Ground.phase }, { on := 12, ground := Go.Ground.phase }, { on := 13, ground := Go.Ground.phase }, { on := 14, ground := Go.Ground.phase }, { on := 15, ground := Go.Ground.phase }, { on := 16, ground := Go.Ground.phase }, { on := 17, ground := Go.Ground.phase }, { on := 18, ground := Go.Ground.phase }, { on := 19, ground := Go.Ground.phase }, { on := 20, ground := Go.Ground.phase }, { on := 21, ground := Go.Ground.phase }, { on := 22, ground := Go.Ground.phase }, { on := 23, ground := Go.Ground.phase }, { on := 24, ground := Go.Ground.phase }], guard := none }) (v := ?vt156) rfl (by kernel_rfl) (by kernel_rfl) (by kernel_rfl) (fun _ _ _ h => h) (Or.inl ⟨by rfl, ?yt156⟩) hH152 ?zt156
              case yt156 =>
                intro w hSw
                (try dsimp only at hSw)
                go_simp
                try with_reducible rfl
              simp only [Act.put, List.setIfInBounds_toArray, List.set_cons_zero, List.set_cons_succ]
              refine wpAnyH_done (by kernel_rfl) ?_ _
              go_wp2_with fail
              go_ret
              exact ⟨Q4, rfl, HEQ.out T HTT.out Q2 Q3 Q4 HQ2.out HQ3.out HQ4.out, eA.trans (HZ152.out.mono eA.size)⟩
        · go_simp
          refine (l09Two_any m _ hm0 hm1).mono ?_
          rintro e X157 ⟨T, rfl, hT, hTs, hb1⟩
          have HTT := Lib.hid hT
          have hz0 : T.size ≤ 2 := Nat.le_of_eq hTs
          obtain ⟨Q2, HQ2, hq2, kA2⟩ := glue_run Q1 T (by omega)
          obtain ⟨Q3, HQ3, hq3, kA3⟩ := glue_run Q2 S2 (by omega)
          obtain ⟨Q4, HQ4, hq4, kA4⟩ := glue_run Q3 b (by omega)
          clear hT hTs
          have HZ157 : Hid (Below W.heap.size W X157) := bel_t HZ98.out hb1
          have bY157A : Hid (Below X17.heap.size X17 X157) := bel_t bO98.out hb1
          have bY157B : Hid (Below X98.heap.size X98 X157) := bel_t bZ98.out hb1
          go_wp2_with fail
          refine hK.out _ _ (HKS.out _ HZ157.out) (fun hH157 => ?_)
          clear hH98 hK K hb1
          refine wpAnyH_ready (rs := [7, 20]) (by kernel_rfl) (by simp) ?_
          refine AllReadyH.cons (o := { dst := some 15, op := Go.Op.convert 63 9 (Go.Operand.tmp 14), type := 9, pos := "l09_bytes.go:30", after := #[{ on := 6, ground := Go.Ground.data }], guard := none }) rfl (fun K hK => ?_) (AllReadyH.cons (o := { dst := some 28, op := Go.Op.convert 63 9 (Go.Operand.tmp 27), type := 9, pos := "l09_bytes.go:30", after := #[{ on := 19, ground := Go.Ground.data }], guard := none }) rfl (fun K hK => ?_) (AllReadyH.nil))
          · have r158 := kc1 _ _ (HA17.out _ bY157A.out).1 (HA17.out _ bY157A.out).2
            go_simp
            try go_wp2_with fail
            refine hK.out _ _ (HKS.out _ HZ157.out) (fun hH158 => ?_)
            clear hH157 hK K r158
            refine wpAnyH_take (i := 10) (oi := { dst := some 18, op := Go.Op.binOp Go.BinOp.add 9 (Go.Operand.tmp 15) (Go.Operand.tmp 17) 9, type := 9, pos := "l09_bytes.go:30", after := #[{ on := 7, ground := Go.Ground.data }, { on := 9, ground := Go.Ground.data }], guard := none }) (v := ?vt159) rfl (by kernel_rfl) (by kernel_rfl) (by kernel_rfl) (fun _ _ _ h => h) (Or.inl ⟨by rfl, ?yt159⟩) hH158 ?zt159
            case yt159 =>
              intro w hSw
              (try dsimp only at hSw)
              go_simp
              try with_reducible rfl
            simp only [Act.put, List.setIfInBounds_toArray, List.set_cons_zero, List.set_cons_succ]
            refine wpAnyH_take (i := 14) (oi := { dst := some 22, op := Go.Op.binOp Go.BinOp.add 9 (Go.Operand.tmp 18) (Go.Operand.tmp 21) 9, type := 9, pos := "l09_bytes.go:30", after := #[{ on := 10, ground := Go.Ground.data }, { on := 13, ground := Go.Ground.data }], guard := none }) (v := ?vt160) rfl (by kernel_rfl) (by kernel_rfl) (by kernel_rfl) (fun _ _ _ h => h) (Or.inl ⟨by rfl, ?yt160⟩) hH158 ?zt160
            case yt160 =>
              intro w hSw
              (try dsimp only at hSw)
              go_simp
              try with_reducible rfl
            simp only [Act.put, List.setIfInBounds_toArray, List.set_cons_zero, List.set_cons_succ]
            refine wpAnyH_ready (rs := [20]) (by kernel_rfl) (by simp) ?_
            refine AllReadyH.cons (o := { dst := some 28, op := Go.Op.convert 63 9 (Go.Operand.tmp 27), type := 9, pos := "l09_bytes.go:30", after := #[{ on := 19, ground := Go.Ground.data }], guard := none }) rfl (fun K hK => ?_) (AllReadyH.nil)
            · have r161 := kc2 _ _ (HB98.out _ bY157B.out)
              go_simp
              try go_wp2_with fail
              refine hK.out _ _ (HKS.out _ HZ157.out) (fun hH161 => ?_)
              clear hH158 hK K r161
              refine wpAnyH_take (i := 21) (oi := { dst := some 29, op := Go.Op.binOp Go.BinOp.add 9 (Go.Operand.tmp 22) (Go.Operand.tmp 28) 9, type := 9, pos := "l09_bytes.go:30", after := #[{ on := 14, ground := Go.Ground.data }, { on := 20, ground := Go.Ground.data }], guard := none }) (v := ?vt162) rfl (by kernel_rfl) (by kernel_rfl) (by kernel_rfl) (fun _ _ _ h => h) (Or.inl ⟨by rfl, ?yt162⟩) hH161 ?zt162
              case yt162 =>
                intro w hSw
                (try dsimp only at hSw)
                go_simp
                try with_reducible rfl
              simp only [Act.put, List.setIfInBounds_toArray, List.set_cons_zero, List.set_cons_succ]
              refine wpAnyH_take (i := 24) (oi := { dst := some 32, op := Go.Op.binOp Go.BinOp.add 9 (Go.Operand.tmp 29) (Go.Operand.tmp 31) 9, type := 9, pos := "l09_bytes.go:30", after := #[{ on := 21, ground := Go.Ground.data }, { on := 23, ground := Go.Ground.data }], guard := none }) (v := ?vt163) rfl (by kernel_rfl) (by kernel_rfl) (by kernel_rfl) (fun _ _ _ h => h) (Or.inl ⟨by rfl, ?yt163⟩) hH161 ?zt163
              case yt163 =>
                intro w hSw
                (try dsimp only at hSw)
                go_simp
                try with_reducible rfl
              simp only [Act.put, List.setIfInBounds_toArray, List.set_cons_zero, List.set_cons_succ]
              refine wpAnyH_take (i := 25) (oi := { dst := some 2, op := Go.Op.assign (Go.Operand.tmp 32), type := 9, pos := "l09_bytes.go:30", after := #[{ on := 24, ground := Go.Ground.data }, { on := 13, ground := Go.Ground.chain }, { on := 0, ground := Go.Ground.phase }, { on := 1, ground := Go.Ground.phase }, { on := 2, ground := Go.Ground.phase }, { on := 3, ground := Go.Ground.phase }, { on := 4, ground := Go.Ground.phase }, { on := 5, ground := Go.Ground.phase }, { on := 6, ground := Go.Ground.phase }, { on := 7, ground := Go.Ground.phase }, { on := 8, ground := Go.Ground.phase }, { on := 9, ground := Go.Ground.phase }, { on := 10, ground := Go.Ground.phase }, { on := 11, ground := Go.Ground.phase }, { on := 12, ground := Go.Ground.phase }, { on := 13, ground := Go.Ground.phase }, { on := 14, ground := Go.Ground.phase }, { on := 15, ground := Go.Ground.phase }, { on := 16, ground := Go.Ground.phase }, { on := 17, ground := Go.Ground.phase }, { on := 18, ground := Go.Ground.phase }, { on := 19, ground := Go.Ground.phase }, { on := 20, ground := Go.Ground.phase }, { on := 21, ground := Go.Ground.phase }, { on := 22, ground := Go.Ground.phase }, { on := 23, ground := Go.Ground.phase }, { on := 24, ground := Go.Ground.phase }], guard := none }) (v := ?vt164) rfl (by kernel_rfl) (by kernel_rfl) (by kernel_rfl) (fun _ _ _ h => h) (Or.inl ⟨by rfl, ?yt164⟩) hH161 ?zt164
              case yt164 =>
                intro w hSw
                (try dsimp only at hSw)
                go_simp
                try with_reducible rfl
              simp only [Act.put, List.setIfInBounds_toArray, List.set_cons_zero, List.set_cons_succ]
              refine wpAnyH_done (by kernel_rfl) ?_ _
              go_wp2_with fail
              go_ret
              exact ⟨Q4, rfl, HEQ.out T HTT.out Q2 Q3 Q4 HQ2.out HQ3.out HQ4.out, eA.trans (HZ157.out.mono eA.size)⟩
          · have r165 := kc2 _ _ (HB98.out _ bY157B.out)
            go_simp
            try go_wp2_with fail
            refine hK.out _ _ (HKS.out _ HZ157.out) (fun hH165 => ?_)
            clear hH157 hK K r165
            refine wpAnyH_ready (rs := [7]) (by kernel_rfl) (by simp) ?_
            refine AllReadyH.cons (o := { dst := some 15, op := Go.Op.convert 63 9 (Go.Operand.tmp 14), type := 9, pos := "l09_bytes.go:30", after := #[{ on := 6, ground := Go.Ground.data }], guard := none }) rfl (fun K hK => ?_) (AllReadyH.nil)
            · have r166 := kc1 _ _ (HA17.out _ bY157A.out).1 (HA17.out _ bY157A.out).2
              go_simp
              try go_wp2_with fail
              refine hK.out _ _ (HKS.out _ HZ157.out) (fun hH166 => ?_)
              clear hH165 hK K r166
              refine wpAnyH_take (i := 10) (oi := { dst := some 18, op := Go.Op.binOp Go.BinOp.add 9 (Go.Operand.tmp 15) (Go.Operand.tmp 17) 9, type := 9, pos := "l09_bytes.go:30", after := #[{ on := 7, ground := Go.Ground.data }, { on := 9, ground := Go.Ground.data }], guard := none }) (v := ?vt167) rfl (by kernel_rfl) (by kernel_rfl) (by kernel_rfl) (fun _ _ _ h => h) (Or.inl ⟨by rfl, ?yt167⟩) hH166 ?zt167
              case yt167 =>
                intro w hSw
                (try dsimp only at hSw)
                go_simp
                try with_reducible rfl
              simp only [Act.put, List.setIfInBounds_toArray, List.set_cons_zero, List.set_cons_succ]
              refine wpAnyH_take (i := 14) (oi := { dst := some 22, op := Go.Op.binOp Go.BinOp.add 9 (Go.Operand.tmp 18) (Go.Operand.tmp 21) 9, type := 9, pos := "l09_bytes.go:30", after := #[{ on := 10, ground := Go.Ground.data }, { on := 13, ground := Go.Ground.data }], guard := none }) (v := ?vt168) rfl (by kernel_rfl) (by kernel_rfl) (by kernel_rfl) (fun _ _ _ h => h) (Or.inl ⟨by rfl, ?yt168⟩) hH166 ?zt168
              case yt168 =>
                intro w hSw
                (try dsimp only at hSw)
                go_simp
                try with_reducible rfl
              simp only [Act.put, List.setIfInBounds_toArray, List.set_cons_zero, List.set_cons_succ]
              refine wpAnyH_take (i := 21) (oi := { dst := some 29, op := Go.Op.binOp Go.BinOp.add 9 (Go.Operand.tmp 22) (Go.Operand.tmp 28) 9, type := 9, pos := "l09_bytes.go:30", after := #[{ on := 14, ground := Go.Ground.data }, { on := 20, ground := Go.Ground.data }], guard := none }) (v := ?vt169) rfl (by kernel_rfl) (by kernel_rfl) (by kernel_rfl) (fun _ _ _ h => h) (Or.inl ⟨by rfl, ?yt169⟩) hH166 ?zt169
              case yt169 =>
                intro w hSw
                (try dsimp only at hSw)
                go_simp
                try with_reducible rfl
              simp only [Act.put, List.setIfInBounds_toArray, List.set_cons_zero, List.set_cons_succ]
              refine wpAnyH_take (i := 24) (oi := { dst := some 32, op := Go.Op.binOp Go.BinOp.add 9 (Go.Operand.tmp 29) (Go.Operand.tmp 31) 9, type := 9, pos := "l09_bytes.go:30", after := #[{ on := 21, ground := Go.Ground.data }, { on := 23, ground := Go.Ground.data }], guard := none }) (v := ?vt170) rfl (by kernel_rfl) (by kernel_rfl) (by kernel_rfl) (fun _ _ _ h => h) (Or.inl ⟨by rfl, ?yt170⟩) hH166 ?zt170
              case yt170 =>
                intro w hSw
                (try dsimp only at hSw)
                go_simp
                try with_reducible rfl
              simp only [Act.put, List.setIfInBounds_toArray, List.set_cons_zero, List.set_cons_succ]
              refine wpAnyH_take (i := 25) (oi := { dst := some 2, op := Go.Op.assign (Go.Operand.tmp 32), type := 9, pos := "l09_bytes.go:30", after := #[{ on := 24, ground := Go.Ground.data }, { on := 13, ground := Go.Ground.chain }, { on := 0, ground := Go.Ground.phase }, { on := 1, ground := Go.Ground.phase }, { on := 2, ground := Go.Ground.phase }, { on := 3, ground := Go.Ground.phase }, { on := 4, ground := Go.Ground.phase }, { on := 5, ground := Go.Ground.phase }, { on := 6, ground := Go.Ground.phase }, { on := 7, ground := Go.Ground.phase }, { on := 8, ground := Go.Ground.phase }, { on := 9, ground := Go.Ground.phase }, { on := 10, ground := Go.Ground.phase }, { on := 11, ground := Go.Ground.phase }, { on := 12, ground := Go.Ground.phase }, { on := 13, ground := Go.Ground.phase }, { on := 14, ground := Go.Ground.phase }, { on := 15, ground := Go.Ground.phase }, { on := 16, ground := Go.Ground.phase }, { on := 17, ground := Go.Ground.phase }, { on := 18, ground := Go.Ground.phase }, { on := 19, ground := Go.Ground.phase }, { on := 20, ground := Go.Ground.phase }, { on := 21, ground := Go.Ground.phase }, { on := 22, ground := Go.Ground.phase }, { on := 23, ground := Go.Ground.phase }, { on := 24, ground := Go.Ground.phase }], guard := none }) (v := ?vt171) rfl (by kernel_rfl) (by kernel_rfl) (by kernel_rfl) (fun _ _ _ h => h) (Or.inl ⟨by rfl, ?yt171⟩) hH166 ?zt171
              case yt171 =>
                intro w hSw
                (try dsimp only at hSw)
                go_simp
                try with_reducible rfl
              simp only [Act.put, List.setIfInBounds_toArray, List.set_cons_zero, List.set_cons_succ]
              refine wpAnyH_done (by kernel_rfl) ?_ _
              go_wp2_with fail
              go_ret
              exact ⟨Q4, rfl, HEQ.out T HTT.out Q2 Q3 Q4 HQ2.out HQ3.out HQ4.out, eA.trans (HZ157.out.mono eA.size)⟩
        · have r172 := kc2 _ _ (HB98.out _ bZ98.out)
          go_simp
          try go_wp2_with fail
          refine hK.out _ _ (HKS.out _ HZ98.out) (fun hH172 => ?_)
          clear hH98 hK K r172
          refine wpAnyH_ready (rs := [7, 13]) (by kernel_rfl) (by simp) ?_
          refine AllReadyH.cons (o := { dst := some 15, op := Go.Op.convert 63 9 (Go.Operand.tmp 14), type := 9, pos := "l09_bytes.go:30", after := #[{ on := 6, ground := Go.Ground.data }], guard := none }) rfl (fun K hK => ?_) (AllReadyH.cons (o := { dst := some 21, op := Go.Op.call { callee := Go.Callee.value (Go.Operand.func 44), args := #[Go.Operand.tmp 20], argTypes := #[3] }, type := 9, pos := "l09_bytes.go:30", after := #[{ on := 12, ground := Go.Ground.data }], guard := none }) rfl (fun K hK => ?_) (AllReadyH.nil))
          · have r173 := kc1 _ _ (HA17.out _ bO98.out).1 (HA17.out _ bO98.out).2
            go_simp
            try go_wp2_with fail
            refine hK.out _ _ (HKS.out _ HZ98.out) (fun hH173 => ?_)
            clear hH172 hK K r173
            refine wpAnyH_take (i := 10) (oi := { dst := some 18, op := Go.Op.binOp Go.BinOp.add 9 (Go.Operand.tmp 15) (Go.Operand.tmp 17) 9, type := 9, pos := "l09_bytes.go:30", after := #[{ on := 7, ground := Go.Ground.data }, { on := 9, ground := Go.Ground.data }], guard := none }) (v := ?vt174) rfl (by kernel_rfl) (by kernel_rfl) (by kernel_rfl) (fun _ _ _ h => h) (Or.inl ⟨by rfl, ?yt174⟩) hH173 ?zt174
            case yt174 =>
              intro w hSw
              (try dsimp only at hSw)
              go_simp
              try with_reducible rfl
            simp only [Act.put, List.setIfInBounds_toArray, List.set_cons_zero, List.set_cons_succ]
            refine wpAnyH_ready (rs := [13]) (by kernel_rfl) (by simp) ?_
            refine AllReadyH.cons (o := { dst := some 21, op := Go.Op.call { callee := Go.Callee.value (Go.Operand.func 44), args := #[Go.Operand.tmp 20], argTypes := #[3] }, type := 9, pos := "l09_bytes.go:30", after := #[{ on := 12, ground := Go.Ground.data }], guard := none }) rfl (fun K hK => ?_) (AllReadyH.nil)
            · go_simp
              refine (l09Two_any m _ hm0 hm1).mono ?_
              rintro e X175 ⟨T, rfl, hT, hTs, hb1⟩
              have HTT := Lib.hid hT
              have hz0 : T.size ≤ 2 := Nat.le_of_eq hTs
              obtain ⟨Q2, HQ2, hq2, kA2⟩ := glue_run Q1 T (by omega)
              obtain ⟨Q3, HQ3, hq3, kA3⟩ := glue_run Q2 S2 (by omega)
              obtain ⟨Q4, HQ4, hq4, kA4⟩ := glue_run Q3 b (by omega)
              clear hT hTs
              have HZ175 : Hid (Below W.heap.size W X175) := bel_t HZ98.out hb1
              have bY175A : Hid (Below X17.heap.size X17 X175) := bel_t bO98.out hb1
              have bY175B : Hid (Below X98.heap.size X98 X175) := bel_t bZ98.out hb1
              go_wp2_with fail
              refine hK.out _ _ (HKS.out _ HZ175.out) (fun hH175 => ?_)
              clear hH173 hK K hb1
              refine wpAnyH_take (i := 14) (oi := { dst := some 22, op := Go.Op.binOp Go.BinOp.add 9 (Go.Operand.tmp 18) (Go.Operand.tmp 21) 9, type := 9, pos := "l09_bytes.go:30", after := #[{ on := 10, ground := Go.Ground.data }, { on := 13, ground := Go.Ground.data }], guard := none }) (v := ?vt176) rfl (by kernel_rfl) (by kernel_rfl) (by kernel_rfl) (fun _ _ _ h => h) (Or.inl ⟨by rfl, ?yt176⟩) hH175 ?zt176
              case yt176 =>
                intro w hSw
                (try dsimp only at hSw)
                go_simp
                try with_reducible rfl
              simp only [Act.put, List.setIfInBounds_toArray, List.set_cons_zero, List.set_cons_succ]
              refine wpAnyH_take (i := 21) (oi := { dst := some 29, op := Go.Op.binOp Go.BinOp.add 9 (Go.Operand.tmp 22) (Go.Operand.tmp 28) 9, type := 9, pos := "l09_bytes.go:30", after := #[{ on := 14, ground := Go.Ground.data }, { on := 20, ground := Go.Ground.data }], guard := none }) (v := ?vt177) rfl (by kernel_rfl) (by kernel_rfl) (by kernel_rfl) (fun _ _ _ h => h) (Or.inl ⟨by rfl, ?yt177⟩) hH175 ?zt177
              case yt177 =>
                intro w hSw
                (try dsimp only at hSw)
                go_simp
                try with_reducible rfl
              simp only [Act.put, List.setIfInBounds_toArray, List.set_cons_zero, List.set_cons_succ]
              refine wpAnyH_take (i := 24) (oi := { dst := some 32, op := Go.Op.binOp Go.BinOp.add 9 (Go.Operand.tmp 29) (Go.Operand.tmp 31) 9, type := 9, pos := "l09_bytes.go:30", after := #[{ on := 21, ground := Go.Ground.data }, { on := 23, ground := Go.Ground.data }], guard := none }) (v := ?vt178) rfl (by kernel_rfl) (by kernel_rfl) (by kernel_rfl) (fun _ _ _ h => h) (Or.inl ⟨by rfl, ?yt178⟩) hH175 ?zt178
              case yt178 =>
                intro w hSw
                (try dsimp only at hSw)
                go_simp
                try with_reducible rfl
              simp only [Act.put, List.setIfInBounds_toArray, List.set_cons_zero, List.set_cons_succ]
              refine wpAnyH_take (i := 25) (oi := { dst := some 2, op := Go.Op.assign (Go.Operand.tmp 32), type := 9, pos := "l09_bytes.go:30", after := #[{ on := 24, ground := Go.Ground.data }, { on := 13, ground := Go.Ground.chain }, { on := 0, ground := Go.Ground.phase }, { on := 1, ground := Go.Ground.phase }, { on := 2, ground := Go.Ground.phase }, { on := 3, ground := Go.Ground.phase }, { on := 4, ground := Go.Ground.phase }, { on := 5, ground := Go.Ground.phase }, { on := 6, ground := Go.Ground.phase }, { on := 7, ground := Go.Ground.phase }, { on := 8, ground := Go.Ground.phase }, { on := 9, ground := Go.Ground.phase }, { on := 10, ground := Go.Ground.phase }, { on := 11, ground := Go.Ground.phase }, { on := 12, ground := Go.Ground.phase }, { on := 13, ground := Go.Ground.phase }, { on := 14, ground := Go.Ground.phase }, { on := 15, ground := Go.Ground.phase }, { on := 16, ground := Go.Ground.phase }, { on := 17, ground := Go.Ground.phase }, { on := 18, ground := Go.Ground.phase }, { on := 19, ground := Go.Ground.phase }, { on := 20, ground := Go.Ground.phase }, { on := 21, ground := Go.Ground.phase }, { on := 22, ground := Go.Ground.phase }, { on := 23, ground := Go.Ground.phase }, { on := 24, ground := Go.Ground.phase }], guard := none }) (v := ?vt179) rfl (by kernel_rfl) (by kernel_rfl) (by kernel_rfl) (fun _ _ _ h => h) (Or.inl ⟨by rfl, ?yt179⟩) hH175 ?zt179
              case yt179 =>
                intro w hSw
                (try dsimp only at hSw)
                go_simp
                try with_reducible rfl
              simp only [Act.put, List.setIfInBounds_toArray, List.set_cons_zero, List.set_cons_succ]
              refine wpAnyH_done (by kernel_rfl) ?_ _
              go_wp2_with fail
              go_ret
              exact ⟨Q4, rfl, HEQ.out T HTT.out Q2 Q3 Q4 HQ2.out HQ3.out HQ4.out, eA.trans (HZ175.out.mono eA.size)⟩
          · go_simp
            refine (l09Two_any m _ hm0 hm1).mono ?_
            rintro e X180 ⟨T, rfl, hT, hTs, hb1⟩
            have HTT := Lib.hid hT
            have hz0 : T.size ≤ 2 := Nat.le_of_eq hTs
            obtain ⟨Q2, HQ2, hq2, kA2⟩ := glue_run Q1 T (by omega)
            obtain ⟨Q3, HQ3, hq3, kA3⟩ := glue_run Q2 S2 (by omega)
            obtain ⟨Q4, HQ4, hq4, kA4⟩ := glue_run Q3 b (by omega)
            clear hT hTs
            have HZ180 : Hid (Below W.heap.size W X180) := bel_t HZ98.out hb1
            have bY180A : Hid (Below X17.heap.size X17 X180) := bel_t bO98.out hb1
            have bY180B : Hid (Below X98.heap.size X98 X180) := bel_t bZ98.out hb1
            go_wp2_with fail
            refine hK.out _ _ (HKS.out _ HZ180.out) (fun hH180 => ?_)
            clear hH172 hK K hb1
            refine wpAnyH_ready (rs := [7]) (by kernel_rfl) (by simp) ?_
            refine AllReadyH.cons (o := { dst := some 15, op := Go.Op.convert 63 9 (Go.Operand.tmp 14), type := 9, pos := "l09_bytes.go:30", after := #[{ on := 6, ground := Go.Ground.data }], guard := none }) rfl (fun K hK => ?_) (AllReadyH.nil)
            · have r181 := kc1 _ _ (HA17.out _ bY180A.out).1 (HA17.out _ bY180A.out).2
              go_simp
              try go_wp2_with fail
              refine hK.out _ _ (HKS.out _ HZ180.out) (fun hH181 => ?_)
              clear hH180 hK K r181
              refine wpAnyH_take (i := 10) (oi := { dst := some 18, op := Go.Op.binOp Go.BinOp.add 9 (Go.Operand.tmp 15) (Go.Operand.tmp 17) 9, type := 9, pos := "l09_bytes.go:30", after := #[{ on := 7, ground := Go.Ground.data }, { on := 9, ground := Go.Ground.data }], guard := none }) (v := ?vt182) rfl (by kernel_rfl) (by kernel_rfl) (by kernel_rfl) (fun _ _ _ h => h) (Or.inl ⟨by rfl, ?yt182⟩) hH181 ?zt182
              case yt182 =>
                intro w hSw
                (try dsimp only at hSw)
                go_simp
                try with_reducible rfl
              simp only [Act.put, List.setIfInBounds_toArray, List.set_cons_zero, List.set_cons_succ]
              refine wpAnyH_take (i := 14) (oi := { dst := some 22, op := Go.Op.binOp Go.BinOp.add 9 (Go.Operand.tmp 18) (Go.Operand.tmp 21) 9, type := 9, pos := "l09_bytes.go:30", after := #[{ on := 10, ground := Go.Ground.data }, { on := 13, ground := Go.Ground.data }], guard := none }) (v := ?vt183) rfl (by kernel_rfl) (by kernel_rfl) (by kernel_rfl) (fun _ _ _ h => h) (Or.inl ⟨by rfl, ?yt183⟩) hH181 ?zt183
              case yt183 =>
                intro w hSw
                (try dsimp only at hSw)
                go_simp
                try with_reducible rfl
              simp only [Act.put, List.setIfInBounds_toArray, List.set_cons_zero, List.set_cons_succ]
              refine wpAnyH_take (i := 21) (oi := { dst := some 29, op := Go.Op.binOp Go.BinOp.add 9 (Go.Operand.tmp 22) (Go.Operand.tmp 28) 9, type := 9, pos := "l09_bytes.go:30", after := #[{ on := 14, ground := Go.Ground.data }, { on := 20, ground := Go.Ground.data }], guard := none }) (v := ?vt184) rfl (by kernel_rfl) (by kernel_rfl) (by kernel_rfl) (fun _ _ _ h => h) (Or.inl ⟨by rfl, ?yt184⟩) hH181 ?zt184
              case yt184 =>
                intro w hSw
                (try dsimp only at hSw)
                go_simp
                try with_reducible rfl
              simp only [Act.put, List.setIfInBounds_toArray, List.set_cons_zero, List.set_cons_succ]
              refine wpAnyH_take (i := 24) (oi := { dst := some 32, op := Go.Op.binOp Go.BinOp.add 9 (Go.Operand.tmp 29) (Go.Operand.tmp 31) 9, type := 9, pos := "l09_bytes.go:30", after := #[{ on := 21, ground := Go.Ground.data }, { on := 23, ground := Go.Ground.data }], guard := none }) (v := ?vt185) rfl (by kernel_rfl) (by kernel_rfl) (by kernel_rfl) (fun _ _ _ h => h) (Or.inl ⟨by rfl, ?yt185⟩) hH181 ?zt185
              case yt185 =>
                intro w hSw
                (try dsimp only at hSw)
                go_simp
                try with_reducible rfl
              simp only [Act.put, List.setIfInBounds_toArray, List.set_cons_zero, List.set_cons_succ]
              refine wpAnyH_take (i := 25) (oi := { dst := some 2, op := Go.Op.assign (Go.Operand.tmp 32), type := 9, pos := "l09_bytes.go:30", after := #[{ on := 24, ground := Go.Ground.data }, { on := 13, ground := Go.Ground.chain }, { on := 0, ground := Go.Ground.phase }, { on := 1, ground := Go.Ground.phase }, { on := 2, ground := Go.Ground.phase }, { on := 3, ground := Go.Ground.phase }, { on := 4, ground := Go.Ground.phase }, { on := 5, ground := Go.Ground.phase }, { on := 6, ground := Go.Ground.phase }, { on := 7, ground := Go.Ground.phase }, { on := 8, ground := Go.Ground.phase }, { on := 9, ground := Go.Ground.phase }, { on := 10, ground := Go.Ground.phase }, { on := 11, ground := Go.Ground.phase }, { on := 12, ground := Go.Ground.phase }, { on := 13, ground := Go.Ground.phase }, { on := 14, ground := Go.Ground.phase }, { on := 15, ground := Go.Ground.phase }, { on := 16, ground := Go.Ground.phase }, { on := 17, ground := Go.Ground.phase }, { on := 18, ground := Go.Ground.phase }, { on := 19, ground := Go.Ground.phase }, { on := 20, ground := Go.Ground.phase }, { on := 21, ground := Go.Ground.phase }, { on := 22, ground := Go.Ground.phase }, { on := 23, ground := Go.Ground.phase }, { on := 24, ground := Go.Ground.phase }], guard := none }) (v := ?vt186) rfl (by kernel_rfl) (by kernel_rfl) (by kernel_rfl) (fun _ _ _ h => h) (Or.inl ⟨by rfl, ?yt186⟩) hH181 ?zt186
              case yt186 =>
                intro w hSw
                (try dsimp only at hSw)
                go_simp
                try with_reducible rfl
              simp only [Act.put, List.setIfInBounds_toArray, List.set_cons_zero, List.set_cons_succ]
              refine wpAnyH_done (by kernel_rfl) ?_ _
              go_wp2_with fail
              go_ret
              exact ⟨Q4, rfl, HEQ.out T HTT.out Q2 Q3 Q4 HQ2.out HQ3.out HQ4.out, eA.trans (HZ180.out.mono eA.size)⟩
    · go_simp
      refine (l09Two_any m _ hm0 hm1).mono ?_
      rintro e X187 ⟨T, rfl, hT, hTs, hb1⟩
      have HTT := Lib.hid hT
      have hz0 : T.size ≤ 2 := Nat.le_of_eq hTs
      obtain ⟨Q2, HQ2, hq2, kA2⟩ := glue_run Q1 T (by omega)
      obtain ⟨Q3, HQ3, hq3, kA3⟩ := glue_run Q2 S2 (by omega)
      obtain ⟨Q4, HQ4, hq4, kA4⟩ := glue_run Q3 b (by omega)
      clear hT hTs
      have HZ187 : Hid (Below W.heap.size W X187) := bel_t HZ.out hb1
      go_wp2_with fail
      refine hK.out _ _ (HKS.out _ HZ187.out) (fun hH187 => ?_)
      clear hHeld hK K hb1
      refine wpAnyH_ready (rs := [6, 19]) (by kernel_rfl) (by simp) ?_
      refine AllReadyH.cons (o := { dst := some 14, op := Go.Op.buildSlice 63 2 #[(0, Go.Operand.tmp 9), (1, Go.Operand.tmp 13)], type := 63, pos := "l09_bytes.go:30", after := #[{ on := 1, ground := Go.Ground.data }, { on := 5, ground := Go.Ground.data }], guard := none }) rfl (fun K hK => ?_) (AllReadyH.cons (o := { dst := some 27, op := Go.Op.buildSlice 63 1 #[(0, Go.Operand.tmp 26)], type := 63, pos := "l09_bytes.go:30", after := #[{ on := 18, ground := Go.Ground.data }], guard := none }) rfl (fun K hK => ?_) (AllReadyH.nil))
      · go_simp
        try go_wp2_with fail
        have HZ188 : Hid (Below W.heap.size W (X187.alloc (.cells #[.int .u8 (IntKind.u8.wrap kk), .int .u8 (IntKind.u8.wrap (p.size : Int))] 5))) := bel_a HZ187.out _
        have HA188 : Hid (∀ W', Below (X187.alloc (.cells #[.int .u8 (IntKind.u8.wrap kk), .int .u8 (IntKind.u8.wrap (p.size : Int))] 5)).heap.size (X187.alloc (.cells #[.int .u8 (IntKind.u8.wrap kk), .int .u8 (IntKind.u8.wrap (p.size : Int))] 5)) W' → W'.cell? ⟨X187.heap.size, 0, none⟩ = some (.int .u8 (IntKind.u8.wrap kk)) ∧ W'.cell? ⟨X187.heap.size, 1, none⟩ = some (.int .u8 (IntKind.u8.wrap (p.size : Int)))) := fun W' h => ⟨(h.cell (p := ⟨X187.heap.size, 0, none⟩) (by simp)).trans (by go_simp), (h.cell (p := ⟨X187.heap.size, 1, none⟩) (by simp)).trans (by go_simp)⟩
        refine hK.out _ _ (HKS.out _ HZ188.out) (fun hH188 => ?_)
        clear hH187 hK K
        generalize X187.alloc (.cells #[.int .u8 (IntKind.u8.wrap kk), .int .u8 (IntKind.u8.wrap (p.size : Int))] 5) = X188 at *
        have bZ188 : Hid (Below X188.heap.size X188 X188) := Below.refl _ _
        refine wpAnyH_ready (rs := [7, 19]) (by kernel_rfl) (by simp) ?_
        refine AllReadyH.cons (o := { dst := some 15, op := Go.Op.convert 63 9 (Go.Operand.tmp 14), type := 9, pos := "l09_bytes.go:30", after := #[{ on := 6, ground := Go.Ground.data }], guard := none }) rfl (fun K hK => ?_) (AllReadyH.cons (o := { dst := some 27, op := Go.Op.buildSlice 63 1 #[(0, Go.Operand.tmp 26)], type := 63, pos := "l09_bytes.go:30", after := #[{ on := 18, ground := Go.Ground.data }], guard := none }) rfl (fun K hK => ?_) (AllReadyH.nil))
        · have r189 := kc1 _ _ (HA188.out _ bZ188.out).1 (HA188.out _ bZ188.out).2
          go_simp
          try go_wp2_with fail
          refine hK.out _ _ (HKS.out _ HZ188.out) (fun hH189 => ?_)
          clear hH188 hK K r189
          refine wpAnyH_take (i := 10) (oi := { dst := some 18, op := Go.Op.binOp Go.BinOp.add 9 (Go.Operand.tmp 15) (Go.Operand.tmp 17) 9, type := 9, pos := "l09_bytes.go:30", after := #[{ on := 7, ground := Go.Ground.data }, { on := 9, ground := Go.Ground.data }], guard := none }) (v := ?vt190) rfl (by kernel_rfl) (by kernel_rfl) (by kernel_rfl) (fun _ _ _ h => h) (Or.inl ⟨by rfl, ?yt190⟩) hH189 ?zt190
          case yt190 =>
            intro w hSw
            (try dsimp only at hSw)
            go_simp
            try with_reducible rfl
          simp only [Act.put, List.setIfInBounds_toArray, List.set_cons_zero, List.set_cons_succ]
          refine wpAnyH_take (i := 14) (oi := { dst := some 22, op := Go.Op.binOp Go.BinOp.add 9 (Go.Operand.tmp 18) (Go.Operand.tmp 21) 9, type := 9, pos := "l09_bytes.go:30", after := #[{ on := 10, ground := Go.Ground.data }, { on := 13, ground := Go.Ground.data }], guard := none }) (v := ?vt191) rfl (by kernel_rfl) (by kernel_rfl) (by kernel_rfl) (fun _ _ _ h => h) (Or.inl ⟨by rfl, ?yt191⟩) hH189 ?zt191
          case yt191 =>
            intro w hSw
            (try dsimp only at hSw)
            go_simp
            try with_reducible rfl
          simp only [Act.put, List.setIfInBounds_toArray, List.set_cons_zero, List.set_cons_succ]
          refine wpAnyH_ready (rs := [19]) (by kernel_rfl) (by simp) ?_
          refine AllReadyH.cons (o := { dst := some 27, op := Go.Op.buildSlice 63 1 #[(0, Go.Operand.tmp 26)], type := 63, pos := "l09_bytes.go:30", after := #[{ on := 18, ground := Go.Ground.data }], guard := none }) rfl (fun K hK => ?_) (AllReadyH.nil)
          · go_simp
            try go_wp2_with fail
            have HZ192 : Hid (Below W.heap.size W (X188.alloc (.cells #[.int .u8 (IntKind.u8.wrap (b.size : Int))] 5))) := bel_a HZ188.out _
            have HB192 : Hid (∀ W', Below (X188.alloc (.cells #[.int .u8 (IntKind.u8.wrap (b.size : Int))] 5)).heap.size (X188.alloc (.cells #[.int .u8 (IntKind.u8.wrap (b.size : Int))] 5)) W' → W'.cell? ⟨X188.heap.size, 0, none⟩ = some (.int .u8 (IntKind.u8.wrap (b.size : Int)))) := fun W' h => (h.cell (p := ⟨X188.heap.size, 0, none⟩) (by simp)).trans (by go_simp)
            have bO192 : Hid (Below X188.heap.size X188 (X188.alloc (.cells #[.int .u8 (IntKind.u8.wrap (b.size : Int))] 5))) := bel_a bZ188.out _
            refine hK.out _ _ (HKS.out _ HZ192.out) (fun hH192 => ?_)
            clear hH189 hK K
            generalize X188.alloc (.cells #[.int .u8 (IntKind.u8.wrap (b.size : Int))] 5) = X192 at *
            have bZ192 : Hid (Below X192.heap.size X192 X192) := Below.refl _ _
            refine wpAnyH_ready (rs := [20]) (by kernel_rfl) (by simp) ?_
            refine AllReadyH.cons (o := { dst := some 28, op := Go.Op.convert 63 9 (Go.Operand.tmp 27), type := 9, pos := "l09_bytes.go:30", after := #[{ on := 19, ground := Go.Ground.data }], guard := none }) rfl (fun K hK => ?_) (AllReadyH.nil)
            · have r197 := kc2 _ _ (HB192.out _ bZ192.out)
              go_simp
              try go_wp2_with fail
              refine hK.out _ _ (HKS.out _ HZ192.out) (fun hH197 => ?_)
              clear hH192 hK K r197
              refine wpAnyH_take (i := 21) (oi := { dst := some 29, op := Go.Op.binOp Go.BinOp.add 9 (Go.Operand.tmp 22) (Go.Operand.tmp 28) 9, type := 9, pos := "l09_bytes.go:30", after := #[{ on := 14, ground := Go.Ground.data }, { on := 20, ground := Go.Ground.data }], guard := none }) (v := ?vt198) rfl (by kernel_rfl) (by kernel_rfl) (by kernel_rfl) (fun _ _ _ h => h) (Or.inl ⟨by rfl, ?yt198⟩) hH197 ?zt198
              case yt198 =>
                intro w hSw
                (try dsimp only at hSw)
                go_simp
                try with_reducible rfl
              simp only [Act.put, List.setIfInBounds_toArray, List.set_cons_zero, List.set_cons_succ]
              refine wpAnyH_take (i := 24) (oi := { dst := some 32, op := Go.Op.binOp Go.BinOp.add 9 (Go.Operand.tmp 29) (Go.Operand.tmp 31) 9, type := 9, pos := "l09_bytes.go:30", after := #[{ on := 21, ground := Go.Ground.data }, { on := 23, ground := Go.Ground.data }], guard := none }) (v := ?vt199) rfl (by kernel_rfl) (by kernel_rfl) (by kernel_rfl) (fun _ _ _ h => h) (Or.inl ⟨by rfl, ?yt199⟩) hH197 ?zt199
              case yt199 =>
                intro w hSw
                (try dsimp only at hSw)
                go_simp
                try with_reducible rfl
              simp only [Act.put, List.setIfInBounds_toArray, List.set_cons_zero, List.set_cons_succ]
              refine wpAnyH_take (i := 25) (oi := { dst := some 2, op := Go.Op.assign (Go.Operand.tmp 32), type := 9, pos := "l09_bytes.go:30", after := #[{ on := 24, ground := Go.Ground.data }, { on := 13, ground := Go.Ground.chain }, { on := 0, ground := Go.Ground.phase }, { on := 1, ground := Go.Ground.phase }, { on := 2, ground := Go.Ground.phase }, { on := 3, ground := Go.Ground.phase }, { on := 4, ground := Go.Ground.phase }, { on := 5, ground := Go.Ground.phase }, { on := 6, ground := Go.Ground.phase }, { on := 7, ground := Go.Ground.phase }, { on := 8, ground := Go.Ground.phase }, { on := 9, ground := Go.Ground.phase }, { on := 10, ground := Go.Ground.phase }, { on := 11, ground := Go.Ground.phase }, { on := 12, ground := Go.Ground.phase }, { on := 13, ground := Go.Ground.phase }, { on := 14, ground := Go.Ground.phase }, { on := 15, ground := Go.Ground.phase }, { on := 16, ground := Go.Ground.phase }, { on := 17, ground := Go.Ground.phase }, { on := 18, ground := Go.Ground.phase }, { on := 19, ground := Go.Ground.phase }, { on := 20, ground := Go.Ground.phase }, { on := 21, ground := Go.Ground.phase }, { on := 22, ground := Go.Ground.phase }, { on := 23, ground := Go.Ground.phase }, { on := 24, ground := Go.Ground.phase }], guard := none }) (v := ?vt200) rfl (by kernel_rfl) (by kernel_rfl) (by kernel_rfl) (fun _ _ _ h => h) (Or.inl ⟨by rfl, ?yt200⟩) hH197 ?zt200
              case yt200 =>
                intro w hSw
                (try dsimp only at hSw)
                go_simp
                try with_reducible rfl
              simp only [Act.put, List.setIfInBounds_toArray, List.set_cons_zero, List.set_cons_succ]
              refine wpAnyH_done (by kernel_rfl) ?_ _
              go_wp2_with fail
              go_ret
              exact ⟨Q4, rfl, HEQ.out T HTT.out Q2 Q3 Q4 HQ2.out HQ3.out HQ4.out, eA.trans (HZ192.out.mono eA.size)⟩
        · go_simp
          try go_wp2_with fail
          have HZ201 : Hid (Below W.heap.size W (X188.alloc (.cells #[.int .u8 (IntKind.u8.wrap (b.size : Int))] 5))) := bel_a HZ188.out _
          have HB201 : Hid (∀ W', Below (X188.alloc (.cells #[.int .u8 (IntKind.u8.wrap (b.size : Int))] 5)).heap.size (X188.alloc (.cells #[.int .u8 (IntKind.u8.wrap (b.size : Int))] 5)) W' → W'.cell? ⟨X188.heap.size, 0, none⟩ = some (.int .u8 (IntKind.u8.wrap (b.size : Int)))) := fun W' h => (h.cell (p := ⟨X188.heap.size, 0, none⟩) (by simp)).trans (by go_simp)
          have bO201 : Hid (Below X188.heap.size X188 (X188.alloc (.cells #[.int .u8 (IntKind.u8.wrap (b.size : Int))] 5))) := bel_a bZ188.out _
          refine hK.out _ _ (HKS.out _ HZ201.out) (fun hH201 => ?_)
          clear hH188 hK K
          generalize X188.alloc (.cells #[.int .u8 (IntKind.u8.wrap (b.size : Int))] 5) = X201 at *
          have bZ201 : Hid (Below X201.heap.size X201 X201) := Below.refl _ _
          refine wpAnyH_ready (rs := [7, 20]) (by kernel_rfl) (by simp) ?_
          refine AllReadyH.cons (o := { dst := some 15, op := Go.Op.convert 63 9 (Go.Operand.tmp 14), type := 9, pos := "l09_bytes.go:30", after := #[{ on := 6, ground := Go.Ground.data }], guard := none }) rfl (fun K hK => ?_) (AllReadyH.cons (o := { dst := some 28, op := Go.Op.convert 63 9 (Go.Operand.tmp 27), type := 9, pos := "l09_bytes.go:30", after := #[{ on := 19, ground := Go.Ground.data }], guard := none }) rfl (fun K hK => ?_) (AllReadyH.nil))
          · have r216 := kc1 _ _ (HA188.out _ bO201.out).1 (HA188.out _ bO201.out).2
            go_simp
            try go_wp2_with fail
            refine hK.out _ _ (HKS.out _ HZ201.out) (fun hH216 => ?_)
            clear hH201 hK K r216
            refine wpAnyH_take (i := 10) (oi := { dst := some 18, op := Go.Op.binOp Go.BinOp.add 9 (Go.Operand.tmp 15) (Go.Operand.tmp 17) 9, type := 9, pos := "l09_bytes.go:30", after := #[{ on := 7, ground := Go.Ground.data }, { on := 9, ground := Go.Ground.data }], guard := none }) (v := ?vt217) rfl (by kernel_rfl) (by kernel_rfl) (by kernel_rfl) (fun _ _ _ h => h) (Or.inl ⟨by rfl, ?yt217⟩) hH216 ?zt217
            case yt217 =>
              intro w hSw
              (try dsimp only at hSw)
              go_simp
              try with_reducible rfl
            simp only [Act.put, List.setIfInBounds_toArray, List.set_cons_zero, List.set_cons_succ]
            refine wpAnyH_take (i := 14) (oi := { dst := some 22, op := Go.Op.binOp Go.BinOp.add 9 (Go.Operand.tmp 18) (Go.Operand.tmp 21) 9, type := 9, pos := "l09_bytes.go:30", after := #[{ on := 10, ground := Go.Ground.data }, { on := 13, ground := Go.Ground.data }], guard := none }) (v := ?vt218) rfl (by kernel_rfl) (by kernel_rfl) (by kernel_rfl) (fun _ _ _ h => h) (Or.inl ⟨by rfl, ?yt218⟩) hH216 ?zt218
            case yt218 =>
              intro w hSw
              (try dsimp only at hSw)
              go_simp
              try with_reducible rfl
            simp only [Act.put, List.setIfInBounds_toArray, List.set_cons_zero, List.set_cons_succ]
            refine wpAnyH_ready (rs := [20]) (by kernel_rfl) (by simp) ?_
            refine AllReadyH.cons (o := { dst := some 28, op := Go.Op.convert 63 9 (Go.Operand.tmp 27), type := 9, pos := "l09_bytes.go:30", after := #[{ on := 19, ground := Go.Ground.data }], guard := none }) rfl (fun K hK => ?_) (AllReadyH.nil)
            · have r219 := kc2 _ _ (HB201.out _ bZ201.out)
              go_simp
              try go_wp2_with fail
              refine hK.out _ _ (HKS.out _ HZ201.out) (fun hH219 => ?_)
              clear hH216 hK K r219
              refine wpAnyH_take (i := 21) (oi := { dst := some 29, op := Go.Op.binOp Go.BinOp.add 9 (Go.Operand.tmp 22) (Go.Operand.tmp 28) 9, type := 9, pos := "l09_bytes.go:30", after := #[{ on := 14, ground := Go.Ground.data }, { on := 20, ground := Go.Ground.data }], guard := none }) (v := ?vt220) rfl (by kernel_rfl) (by kernel_rfl) (by kernel_rfl) (fun _ _ _ h => h) (Or.inl ⟨by rfl, ?yt220⟩) hH219 ?zt220
              case yt220 =>
                intro w hSw
                (try dsimp only at hSw)
                go_simp
                try with_reducible rfl
              simp only [Act.put, List.setIfInBounds_toArray, List.set_cons_zero, List.set_cons_succ]
              refine wpAnyH_take (i := 24) (oi := { dst := some 32, op := Go.Op.binOp Go.BinOp.add 9 (Go.Operand.tmp 29) (Go.Operand.tmp 31) 9, type := 9, pos := "l09_bytes.go:30", after := #[{ on := 21, ground := Go.Ground.data }, { on := 23, ground := Go.Ground.data }], guard := none }) (v := ?vt221) rfl (by kernel_rfl) (by kernel_rfl) (by kernel_rfl) (fun _ _ _ h => h) (Or.inl ⟨by rfl, ?yt221⟩) hH219 ?zt221
              case yt221 =>
                intro w hSw
                (try dsimp only at hSw)
                go_simp
                try with_reducible rfl
              simp only [Act.put, List.setIfInBounds_toArray, List.set_cons_zero, List.set_cons_succ]
              refine wpAnyH_take (i := 25) (oi := { dst := some 2, op := Go.Op.assign (Go.Operand.tmp 32), type := 9, pos := "l09_bytes.go:30", after := #[{ on := 24, ground := Go.Ground.data }, { on := 13, ground := Go.Ground.chain }, { on := 0, ground := Go.Ground.phase }, { on := 1, ground := Go.Ground.phase }, { on := 2, ground := Go.Ground.phase }, { on := 3, ground := Go.Ground.phase }, { on := 4, ground := Go.Ground.phase }, { on := 5, ground := Go.Ground.phase }, { on := 6, ground := Go.Ground.phase }, { on := 7, ground := Go.Ground.phase }, { on := 8, ground := Go.Ground.phase }, { on := 9, ground := Go.Ground.phase }, { on := 10, ground := Go.Ground.phase }, { on := 11, ground := Go.Ground.phase }, { on := 12, ground := Go.Ground.phase }, { on := 13, ground := Go.Ground.phase }, { on := 14, ground := Go.Ground.phase }, { on := 15, ground := Go.Ground.phase }, { on := 16, ground := Go.Ground.phase }, { on := 17, ground := Go.Ground.phase }, { on := 18, ground := Go.Ground.phase }, { on := 19, ground := Go.Ground.phase }, { on := 20, ground := Go.Ground.phase }, { on := 21, ground := Go.Ground.phase }, { on := 22, ground := Go.Ground.phase }, { on := 23, ground := Go.Ground.phase }, { on := 24, ground := Go.Ground.phase }], guard := none }) (v := ?vt222) rfl (by kernel_rfl) (by kernel_rfl) (by kernel_rfl) (fun _ _ _ h => h) (Or.inl ⟨by rfl, ?yt222⟩) hH219 ?zt222
              case yt222 =>
                intro w hSw
                (try dsimp only at hSw)
                go_simp
                try with_reducible rfl
              simp only [Act.put, List.setIfInBounds_toArray, List.set_cons_zero, List.set_cons_succ]
              refine wpAnyH_done (by kernel_rfl) ?_ _
              go_wp2_with fail
              go_ret
              exact ⟨Q4, rfl, HEQ.out T HTT.out Q2 Q3 Q4 HQ2.out HQ3.out HQ4.out, eA.trans (HZ201.out.mono eA.size)⟩
          · have r223 := kc2 _ _ (HB201.out _ bZ201.out)
            go_simp
            try go_wp2_with fail
            refine hK.out _ _ (HKS.out _ HZ201.out) (fun hH223 => ?_)
            clear hH201 hK K r223
            refine wpAnyH_ready (rs := [7]) (by kernel_rfl) (by simp) ?_
            refine AllReadyH.cons (o := { dst := some 15, op := Go.Op.convert 63 9 (Go.Operand.tmp 14), type := 9, pos := "l09_bytes.go:30", after := #[{ on := 6, ground := Go.Ground.data }], guard := none }) rfl (fun K hK => ?_) (AllReadyH.nil)
            · have r224 := kc1 _ _ (HA188.out _ bO201.out).1 (HA188.out _ bO201.out).2
              go_simp
              try go_wp2_with fail
              refine hK.out _ _ (HKS.out _ HZ201.out) (fun hH224 => ?_)
              clear hH223 hK K r224
              refine wpAnyH_take (i := 10) (oi := { dst := some 18, op := Go.Op.binOp Go.BinOp.add 9 (Go.Operand.tmp 15) (Go.Operand.tmp 17) 9, type := 9, pos := "l09_bytes.go:30", after := #[{ on := 7, ground := Go.Ground.data }, { on := 9, ground := Go.Ground.data }], guard := none }) (v := ?vt225) rfl (by kernel_rfl) (by kernel_rfl) (by kernel_rfl) (fun _ _ _ h => h) (Or.inl ⟨by rfl, ?yt225⟩) hH224 ?zt225
              case yt225 =>
                intro w hSw
                (try dsimp only at hSw)
                go_simp
                try with_reducible rfl
              simp only [Act.put, List.setIfInBounds_toArray, List.set_cons_zero, List.set_cons_succ]
              refine wpAnyH_take (i := 14) (oi := { dst := some 22, op := Go.Op.binOp Go.BinOp.add 9 (Go.Operand.tmp 18) (Go.Operand.tmp 21) 9, type := 9, pos := "l09_bytes.go:30", after := #[{ on := 10, ground := Go.Ground.data }, { on := 13, ground := Go.Ground.data }], guard := none }) (v := ?vt226) rfl (by kernel_rfl) (by kernel_rfl) (by kernel_rfl) (fun _ _ _ h => h) (Or.inl ⟨by rfl, ?yt226⟩) hH224 ?zt226
              case yt226 =>
                intro w hSw
                (try dsimp only at hSw)
                go_simp
                try with_reducible rfl
              simp only [Act.put, List.setIfInBounds_toArray, List.set_cons_zero, List.set_cons_succ]
              refine wpAnyH_take (i := 21) (oi := { dst := some 29, op := Go.Op.binOp Go.BinOp.add 9 (Go.Operand.tmp 22) (Go.Operand.tmp 28) 9, type := 9, pos := "l09_bytes.go:30", after := #[{ on := 14, ground := Go.Ground.data }, { on := 20, ground := Go.Ground.data }], guard := none }) (v := ?vt227) rfl (by kernel_rfl) (by kernel_rfl) (by kernel_rfl) (fun _ _ _ h => h) (Or.inl ⟨by rfl, ?yt227⟩) hH224 ?zt227
              case yt227 =>
                intro w hSw
                (try dsimp only at hSw)
                go_simp
                try with_reducible rfl
              simp only [Act.put, List.setIfInBounds_toArray, List.set_cons_zero, List.set_cons_succ]
              refine wpAnyH_take (i := 24) (oi := { dst := some 32, op := Go.Op.binOp Go.BinOp.add 9 (Go.Operand.tmp 29) (Go.Operand.tmp 31) 9, type := 9, pos := "l09_bytes.go:30", after := #[{ on := 21, ground := Go.Ground.data }, { on := 23, ground := Go.Ground.data }], guard := none }) (v := ?vt228) rfl (by kernel_rfl) (by kernel_rfl) (by kernel_rfl) (fun _ _ _ h => h) (Or.inl ⟨by rfl, ?yt228⟩) hH224 ?zt228
              case yt228 =>
                intro w hSw
                (try dsimp only at hSw)
                go_simp
                try with_reducible rfl
              simp only [Act.put, List.setIfInBounds_toArray, List.set_cons_zero, List.set_cons_succ]
              refine wpAnyH_take (i := 25) (oi := { dst := some 2, op := Go.Op.assign (Go.Operand.tmp 32), type := 9, pos := "l09_bytes.go:30", after := #[{ on := 24, ground := Go.Ground.data }, { on := 13, ground := Go.Ground.chain }, { on := 0, ground := Go.Ground.phase }, { on := 1, ground := Go.Ground.phase }, { on := 2, ground := Go.Ground.phase }, { on := 3, ground := Go.Ground.phase }, { on := 4, ground := Go.Ground.phase }, { on := 5, ground := Go.Ground.phase }, { on := 6, ground := Go.Ground.phase }, { on := 7, ground := Go.Ground.phase }, { on := 8, ground := Go.Ground.phase }, { on := 9, ground := Go.Ground.phase }, { on := 10, ground := Go.Ground.phase }, { on := 11, ground := Go.Ground.phase }, { on := 12, ground := Go.Ground.phase }, { on := 13, ground := Go.Ground.phase }, { on := 14, ground := Go.Ground.phase }, { on := 15, ground := Go.Ground.phase }, { on := 16, ground := Go.Ground.phase }, { on := 17, ground := Go.Ground.phase }, { on := 18, ground := Go.Ground.phase }, { on := 19, ground := Go.Ground.phase }, { on := 20, ground := Go.Ground.phase }, { on := 21, ground := Go.Ground.phase }, { on := 22, ground := Go.Ground.phase }, { on := 23, ground := Go.Ground.phase }, { on := 24, ground := Go.Ground.phase }], guard := none }) (v := ?vt229) rfl (by kernel_rfl) (by kernel_rfl) (by kernel_rfl) (fun _ _ _ h => h) (Or.inl ⟨by rfl, ?yt229⟩) hH224 ?zt229
              case yt229 =>
                intro w hSw
                (try dsimp only at hSw)
                go_simp
                try with_reducible rfl
              simp only [Act.put, List.setIfInBounds_toArray, List.set_cons_zero, List.set_cons_succ]
              refine wpAnyH_done (by kernel_rfl) ?_ _
              go_wp2_with fail
              go_ret
              exact ⟨Q4, rfl, HEQ.out T HTT.out Q2 Q3 Q4 HQ2.out HQ3.out HQ4.out, eA.trans (HZ201.out.mono eA.size)⟩
      · go_simp
        try go_wp2_with fail
        have HZ230 : Hid (Below W.heap.size W (X187.alloc (.cells #[.int .u8 (IntKind.u8.wrap (b.size : Int))] 5))) := bel_a HZ187.out _
        have HB230 : Hid (∀ W', Below (X187.alloc (.cells #[.int .u8 (IntKind.u8.wrap (b.size : Int))] 5)).heap.size (X187.alloc (.cells #[.int .u8 (IntKind.u8.wrap (b.size : Int))] 5)) W' → W'.cell? ⟨X187.heap.size, 0, none⟩ = some (.int .u8 (IntKind.u8.wrap (b.size : Int)))) := fun W' h => (h.cell (p := ⟨X187.heap.size, 0, none⟩) (by simp)).trans (by go_simp)
        refine hK.out _ _ (HKS.out _ HZ230.out) (fun hH230 => ?_)
        clear hH187 hK K
        generalize X187.alloc (.cells #[.int .u8 (IntKind.u8.wrap (b.size : Int))] 5) = X230 at *
        have bZ230 : Hid (Below X230.heap.size X230 X230) := Below.refl _ _
        refine wpAnyH_ready (rs := [6, 20]) (by kernel_rfl) (by simp) ?_
        refine AllReadyH.cons (o := { dst := some 14, op := Go.Op.buildSlice 63 2 #[(0, Go.Operand.tmp 9), (1, Go.Operand.tmp 13)], type := 63, pos := "l09_bytes.go:30", after := #[{ on := 1, ground := Go.Ground.data }, { on := 5, ground := Go.Ground.data }], guard := none }) rfl (fun K hK => ?_) (AllReadyH.cons (o := { dst := some 28, op := Go.Op.convert 63 9 (Go.Operand.tmp 27), type := 9, pos := "l09_bytes.go:30", after := #[{ on := 19, ground := Go.Ground.data }], guard := none }) rfl (fun K hK => ?_) (AllReadyH.nil))
        · go_simp
          try go_wp2_with fail
          have HZ231 : Hid (Below W.heap.size W (X230.alloc (.cells #[.int .u8 (IntKind.u8.wrap kk), .int .u8 (IntKind.u8.wrap (p.size : Int))] 5))) := bel_a HZ230.out _
          have HA231 : Hid (∀ W', Below (X230.alloc (.cells #[.int .u8 (IntKind.u8.wrap kk), .int .u8 (IntKind.u8.wrap (p.size : Int))] 5)).heap.size (X230.alloc (.cells #[.int .u8 (IntKind.u8.wrap kk), .int .u8 (IntKind.u8.wrap (p.size : Int))] 5)) W' → W'.cell? ⟨X230.heap.size, 0, none⟩ = some (.int .u8 (IntKind.u8.wrap kk)) ∧ W'.cell? ⟨X230.heap.size, 1, none⟩ = some (.int .u8 (IntKind.u8.wrap (p.size : Int)))) := fun W' h => ⟨(h.cell (p := ⟨X230.heap.size, 0, none⟩) (by simp)).trans (by go_simp), (h.cell (p := ⟨X230.heap.size, 1, none⟩) (by simp)).trans (by go_simp)⟩
          have bO231 : Hid (Below X230.heap.size X230 (X230.alloc (.cells #[.int .u8 (IntKind.u8.wrap kk), .int .u8 (IntKind.u8.wrap (p.size : Int))] 5))) := bel_a bZ230.out _
          refine hK.out _ _ (HKS.out _ HZ231.out) (fun hH231 => ?_)
          clear hH230 hK K
          generalize X230.alloc (.cells #[.int .u8 (IntKind.u8.wrap kk), .int .u8 (IntKind.u8.wrap (p.size : Int))] 5) = X231 at *
          have bZ231 : Hid (Below X231.heap.size X231 X231) := Below.refl _ _
          refine wpAnyH_ready (rs := [7, 20]) (by kernel_rfl) (by simp) ?_
          refine AllReadyH.cons (o := { dst := some 15, op := Go.Op.convert 63 9 (Go.Operand.tmp 14), type := 9, pos := "l09_bytes.go:30", after := #[{ on := 6, ground := Go.Ground.data }], guard := none }) rfl (fun K hK => ?_) (AllReadyH.cons (o := { dst := some 28, op := Go.Op.convert 63 9 (Go.Operand.tmp 27), type := 9, pos := "l09_bytes.go:30", after := #[{ on := 19, ground := Go.Ground.data }], guard := none }) rfl (fun K hK => ?_) (AllReadyH.nil))
          · have r246 := kc1 _ _ (HA231.out _ bZ231.out).1 (HA231.out _ bZ231.out).2
            go_simp
            try go_wp2_with fail
            refine hK.out _ _ (HKS.out _ HZ231.out) (fun hH246 => ?_)
            clear hH231 hK K r246
            refine wpAnyH_take (i := 10) (oi := { dst := some 18, op := Go.Op.binOp Go.BinOp.add 9 (Go.Operand.tmp 15) (Go.Operand.tmp 17) 9, type := 9, pos := "l09_bytes.go:30", after := #[{ on := 7, ground := Go.Ground.data }, { on := 9, ground := Go.Ground.data }], guard := none }) (v := ?vt247) rfl (by kernel_rfl) (by kernel_rfl) (by kernel_rfl) (fun _ _ _ h => h) (Or.inl ⟨by rfl, ?yt247⟩) hH246 ?zt247
            case yt247 =>
              intro w hSw
              (try dsimp only at hSw)
              go_simp
              try with_reducible rfl
            simp only [Act.put, List.setIfInBounds_toArray, List.set_cons_zero, List.set_cons_succ]
            refine wpAnyH_take (i := 14) (oi := { dst := some 22, op := Go.Op.binOp Go.BinOp.add 9 (Go.Operand.tmp 18) (Go.Operand.tmp 21) 9, type := 9, pos := "l09_bytes.go:30", after := #[{ on := 10, ground := Go.Ground.data }, { on := 13, ground := Go.Ground.data }], guard := none }) (v := ?vt248) rfl (by kernel_rfl) (by kernel_rfl) (by kernel_rfl) (fun _ _ _ h => h) (Or.inl ⟨by rfl, ?yt248⟩) hH246 ?zt248
            case yt248 =>
              intro w hSw
              (try dsimp only at hSw)
              go_simp
              try with_reducible rfl
            simp only [Act.put, List.setIfInBounds_toArray, List.set_cons_zero, List.set_cons_succ]
            refine wpAnyH_ready (rs := [20]) (by kernel_rfl) (by simp) ?_
            refine AllReadyH.cons (o := { dst := some 28, op := Go.Op.convert 63 9 (Go.Operand.tmp 27), type := 9, pos := "l09_bytes.go:30", after := #[{ on := 19, ground := Go.Ground.data }], guard := none }) rfl (fun K hK => ?_) (AllReadyH.nil)
            · have r249 := kc2 _ _ (HB230.out _ bO231.out)
              go_simp
              try go_wp2_with fail
              refine hK.out _ _ (HKS.out _ HZ231.out) (fun hH249 => ?_)
              clear hH246 hK K r249
              refine wpAnyH_take (i := 21) (oi := { dst := some 29, op := Go.Op.binOp Go.BinOp.add 9 (Go.Operand.tmp 22) (Go.Operand.tmp 28) 9, type := 9, pos := "l09_bytes.go:30", after := #[{ on := 14, ground := Go.Ground.data }, { on := 20, ground := Go.Ground.data }], guard := none }) (v := ?vt250) rfl (by kernel_rfl) (by kernel_rfl) (by kernel_rfl) (fun _ _ _ h => h) (Or.inl ⟨by rfl, ?yt250⟩) hH249 ?zt250
              case yt250 =>
                intro w hSw
                (try dsimp only at hSw)
                go_simp
                try with_reducible rfl
              simp only [Act.put, List.setIfInBounds_toArray, List.set_cons_zero, List.set_cons_succ]
              refine wpAnyH_take (i := 24) (oi := { dst := some 32, op := Go.Op.binOp Go.BinOp.add 9 (Go.Operand.tmp 29) (Go.Operand.tmp 31) 9, type := 9, pos := "l09_bytes.go:30", after := #[{ on := 21, ground := Go.Ground.data }, { on := 23, ground := Go.Ground.data }], guard := none }) (v := ?vt251) rfl (by kernel_rfl) (by kernel_rfl) (by kernel_rfl) (fun _ _ _ h => h) (Or.inl ⟨by rfl, ?yt251⟩) hH249 ?zt251
              case yt251 =>
                intro w hSw
                (try dsimp only at hSw)
                go_simp
                try with_reducible rfl
              simp only [Act.put, List.setIfInBounds_toArray, List.set_cons_zero, List.set_cons_succ]
              refine wpAnyH_take (i := 25) (oi := { dst := some 2, op := Go.Op.assign (Go.Operand.tmp 32), type := 9, pos := "l09_bytes.go:30", after := #[{ on := 24, ground := Go.Ground.data }, { on := 13, ground := Go.Ground.chain }, { on := 0, ground := Go.Ground.phase }, { on := 1, ground := Go.Ground.phase }, { on := 2, ground := Go.Ground.phase }, { on := 3, ground := Go.Ground.phase }, { on := 4, ground := Go.Ground.phase }, { on := 5, ground := Go.Ground.phase }, { on := 6, ground := Go.Ground.phase }, { on := 7, ground := Go.Ground.phase }, { on := 8, ground := Go.Ground.phase }, { on := 9, ground := Go.Ground.phase }, { on := 10, ground := Go.Ground.phase }, { on := 11, ground := Go.Ground.phase }, { on := 12, ground := Go.Ground.phase }, { on := 13, ground := Go.Ground.phase }, { on := 14, ground := Go.Ground.phase }, { on := 15, ground := Go.Ground.phase }, { on := 16, ground := Go.Ground.phase }, { on := 17, ground := Go.Ground.phase }, { on := 18, ground := Go.Ground.phase }, { on := 19, ground := Go.Ground.phase }, { on := 20, ground := Go.Ground.phase }, { on := 21, ground := Go.Ground.phase }, { on := 22, ground := Go.Ground.phase }, { on := 23, ground := Go.Ground.phase }, { on := 24, ground := Go.Ground.phase }], guard := none }) (v := ?vt252) rfl (by kernel_rfl) (by kernel_rfl) (by kernel_rfl) (fun _ _ _ h => h) (Or.inl ⟨by rfl, ?yt252⟩) hH249 ?zt252
              case yt252 =>
                intro w hSw
                (try dsimp only at hSw)
                go_simp
                try with_reducible rfl
              simp only [Act.put, List.setIfInBounds_toArray, List.set_cons_zero, List.set_cons_succ]
              refine wpAnyH_done (by kernel_rfl) ?_ _
              go_wp2_with fail
              go_ret
              exact ⟨Q4, rfl, HEQ.out T HTT.out Q2 Q3 Q4 HQ2.out HQ3.out HQ4.out, eA.trans (HZ231.out.mono eA.size)⟩
          · have r253 := kc2 _ _ (HB230.out _ bO231.out)
            go_simp
            try go_wp2_with fail
            refine hK.out _ _ (HKS.out _ HZ231.out) (fun hH253 => ?_)
            clear hH231 hK K r253
            refine wpAnyH_ready (rs := [7]) (by kernel_rfl) (by simp) ?_
            refine AllReadyH.cons (o := { dst := some 15, op := Go.Op.convert 63 9 (Go.Operand.tmp 14), type := 9, pos := "l09_bytes.go:30", after := #[{ on := 6, ground := Go.Ground.data }], guard := none }) rfl (fun K hK => ?_) (AllReadyH.nil)
            · have r254 := kc1 _ _ (HA231.out _ bZ231.out).1 (HA231.out _ bZ231.out).2
              go_simp
              try go_wp2_with fail
              refine hK.out _ _ (HKS.out _ HZ231.out) (fun hH254 => ?_)
              clear hH253 hK K r254
              refine wpAnyH_take (i := 10) (oi := { dst := some 18, op := Go.Op.binOp Go.BinOp.add 9 (Go.Operand.tmp 15) (Go.Operand.tmp 17) 9, type := 9, pos := "l09_bytes.go:30", after := #[{ on := 7, ground := Go.Ground.data }, { on := 9, ground := Go.Ground.data }], guard := none }) (v := ?vt255) rfl (by kernel_rfl) (by kernel_rfl) (by kernel_rfl) (fun _ _ _ h => h) (Or.inl ⟨by rfl, ?yt255⟩) hH254 ?zt255
              case yt255 =>
                intro w hSw
                (try dsimp only at hSw)
                go_simp
                try with_reducible rfl
              simp only [Act.put, List.setIfInBounds_toArray, List.set_cons_zero, List.set_cons_succ]
              refine wpAnyH_take (i := 14) (oi := { dst := some 22, op := Go.Op.binOp Go.BinOp.add 9 (Go.Operand.tmp 18) (Go.Operand.tmp 21) 9, type := 9, pos := "l09_bytes.go:30", after := #[{ on := 10, ground := Go.Ground.data }, { on := 13, ground := Go.Ground.data }], guard := none }) (v := ?vt256) rfl (by kernel_rfl) (by kernel_rfl) (by kernel_rfl) (fun _ _ _ h => h) (Or.inl ⟨by rfl, ?yt256⟩) hH254 ?zt256
              case yt256 =>
                intro w hSw
                (try dsimp only at hSw)
                go_simp
                try with_reducible rfl
              simp only [Act.put, List.setIfInBounds_toArray, List.set_cons_zero, List.set_cons_succ]
              refine wpAnyH_take (i := 21) (oi := { dst := some 29, op := Go.Op.binOp Go.BinOp.add 9 (Go.Operand.tmp 22) (Go.Operand.tmp 28) 9, type := 9, pos := "l09_bytes.go:30", after := #[{ on := 14, ground := Go.Ground.data }, { on := 20, ground := Go.Ground.data }], guard := none }) (v := ?vt257) rfl (by kernel_rfl) (by kernel_rfl) (by kernel_rfl) (fun _ _ _ h => h) (Or.inl ⟨by rfl, ?yt257⟩) hH254 ?zt257
              case yt257 =>
                intro w hSw
                (try dsimp only at hSw)
                go_simp
                try with_reducible rfl
              simp only [Act.put, List.setIfInBounds_toArray, List.set_cons_zero, List.set_cons_succ]
              refine wpAnyH_take (i := 24) (oi := { dst := some 32, op := Go.Op.binOp Go.BinOp.add 9 (Go.Operand.tmp 29) (Go.Operand.tmp 31) 9, type := 9, pos := "l09_bytes.go:30", after := #[{ on := 21, ground := Go.Ground.data }, { on := 23, ground := Go.Ground.data }], guard := none }) (v := ?vt258) rfl (by kernel_rfl) (by kernel_rfl) (by kernel_rfl) (fun _ _ _ h => h) (Or.inl ⟨by rfl, ?yt258⟩) hH254 ?zt258
              case yt258 =>
                intro w hSw
                (try dsimp only at hSw)
                go_simp
                try with_reducible rfl
              simp only [Act.put, List.setIfInBounds_toArray, List.set_cons_zero, List.set_cons_succ]
              refine wpAnyH_take (i := 25) (oi := { dst := some 2, op := Go.Op.assign (Go.Operand.tmp 32), type := 9, pos := "l09_bytes.go:30", after := #[{ on := 24, ground := Go.Ground.data }, { on := 13, ground := Go.Ground.chain }, { on := 0, ground := Go.Ground.phase }, { on := 1, ground := Go.Ground.phase }, { on := 2, ground := Go.Ground.phase }, { on := 3, ground := Go.Ground.phase }, { on := 4, ground := Go.Ground.phase }, { on := 5, ground := Go.Ground.phase }, { on := 6, ground := Go.Ground.phase }, { on := 7, ground := Go.Ground.phase }, { on := 8, ground := Go.Ground.phase }, { on := 9, ground := Go.Ground.phase }, { on := 10, ground := Go.Ground.phase }, { on := 11, ground := Go.Ground.phase }, { on := 12, ground := Go.Ground.phase }, { on := 13, ground := Go.Ground.phase }, { on := 14, ground := Go.Ground.phase }, { on := 15, ground := Go.Ground.phase }, { on := 16, ground := Go.Ground.phase }, { on := 17, ground := Go.Ground.phase }, { on := 18, ground := Go.Ground.phase }, { on := 19, ground := Go.Ground.phase }, { on := 20, ground := Go.Ground.phase }, { on := 21, ground := Go.Ground.phase }, { on := 22, ground := Go.Ground.phase }, { on := 23, ground := Go.Ground.phase }, { on := 24, ground := Go.Ground.phase }], guard := none }) (v := ?vt259) rfl (by kernel_rfl) (by kernel_rfl) (by kernel_rfl) (fun _ _ _ h => h) (Or.inl ⟨by rfl, ?yt259⟩) hH254 ?zt259
              case yt259 =>
                intro w hSw
                (try dsimp only at hSw)
                go_simp
                try with_reducible rfl
              simp only [Act.put, List.setIfInBounds_toArray, List.set_cons_zero, List.set_cons_succ]
              refine wpAnyH_done (by kernel_rfl) ?_ _
              go_wp2_with fail
              go_ret
              exact ⟨Q4, rfl, HEQ.out T HTT.out Q2 Q3 Q4 HQ2.out HQ3.out HQ4.out, eA.trans (HZ231.out.mono eA.size)⟩
        · have r260 := kc2 _ _ (HB230.out _ bZ230.out)
          go_simp
          try go_wp2_with fail
          refine hK.out _ _ (HKS.out _ HZ230.out) (fun hH260 => ?_)
          clear hH230 hK K r260
          refine wpAnyH_ready (rs := [6]) (by kernel_rfl) (by simp) ?_
          refine AllReadyH.cons (o := { dst := some 14, op := Go.Op.buildSlice 63 2 #[(0, Go.Operand.tmp 9), (1, Go.Operand.tmp 13)], type := 63, pos := "l09_bytes.go:30", after := #[{ on := 1, ground := Go.Ground.data }, { on := 5, ground := Go.Ground.data }], guard := none }) rfl (fun K hK => ?_) (AllReadyH.nil)
          · go_simp
            try go_wp2_with fail
            have HZ261 : Hid (Below W.heap.size W (X230.alloc (.cells #[.int .u8 (IntKind.u8.wrap kk), .int .u8 (IntKind.u8.wrap (p.size : Int))] 5))) := bel_a HZ230.out _
            have HA261 : Hid (∀ W', Below (X230.alloc (.cells #[.int .u8 (IntKind.u8.wrap kk), .int .u8 (IntKind.u8.wrap (p.size : Int))] 5)).heap.size (X230.alloc (.cells #[.int .u8 (IntKind.u8.wrap kk), .int .u8 (IntKind.u8.wrap (p.size : Int))] 5)) W' → W'.cell? ⟨X230.heap.size, 0, none⟩ = some (.int .u8 (IntKind.u8.wrap kk)) ∧ W'.cell? ⟨X230.heap.size, 1, none⟩ = some (.int .u8 (IntKind.u8.wrap (p.size : Int)))) := fun W' h => ⟨(h.cell (p := ⟨X230.heap.size, 0, none⟩) (by simp)).trans (by go_simp), (h.cell (p := ⟨X230.heap.size, 1, none⟩) (by simp)).trans (by go_simp)⟩
            have bO261 : Hid (Below X230.heap.size X230 (X230.alloc (.cells #[.int .u8 (IntKind.u8.wrap kk), .int .u8 (IntKind.u8.wrap (p.size : Int))] 5))) := bel_a bZ230.out _
            refine hK.out _ _ (HKS.out _ HZ261.out) (fun hH261 => ?_)
            clear hH260 hK K
            generalize X230.alloc (.cells #[.int .u8 (IntKind.u8.wrap kk), .int .u8 (IntKind.u8.wrap (p.size : Int))] 5) = X261 at *
            have bZ261 : Hid (Below X261.heap.size X261 X261) := Below.refl _ _
            refine wpAnyH_ready (rs := [7]) (by kernel_rfl) (by simp) ?_
            refine AllReadyH.cons (o := { dst := some 15, op := Go.Op.convert 63 9 (Go.Operand.tmp 14), type := 9, pos := "l09_bytes.go:30", after := #[{ on := 6, ground := Go.Ground.data }], guard := none }) rfl (fun K hK => ?_) (AllReadyH.nil)
            · have r268 := kc1 _ _ (HA261.out _ bZ261.out).1 (HA261.out _ bZ261.out).2
              go_simp
              try go_wp2_with fail
              refine hK.out _ _ (HKS.out _ HZ261.out) (fun hH268 => ?_)
              clear hH261 hK K r268
              refine wpAnyH_take (i := 10) (oi := { dst := some 18, op := Go.Op.binOp Go.BinOp.add 9 (Go.Operand.tmp 15) (Go.Operand.tmp 17) 9, type := 9, pos := "l09_bytes.go:30", after := #[{ on := 7, ground := Go.Ground.data }, { on := 9, ground := Go.Ground.data }], guard := none }) (v := ?vt269) rfl (by kernel_rfl) (by kernel_rfl) (by kernel_rfl) (fun _ _ _ h => h) (Or.inl ⟨by rfl, ?yt269⟩) hH268 ?zt269
              case yt269 =>
                intro w hSw
                (try dsimp only at hSw)
                go_simp
                try with_reducible rfl
              simp only [Act.put, List.setIfInBounds_toArray, List.set_cons_zero, List.set_cons_succ]
              refine wpAnyH_take (i := 14) (oi := { dst := some 22, op := Go.Op.binOp Go.BinOp.add 9 (Go.Operand.tmp 18) (Go.Operand.tmp 21) 9, type := 9, pos := "l09_bytes.go:30", after := #[{ on := 10, ground := Go.Ground.data }, { on := 13, ground := Go.Ground.data }], guard := none }) (v := ?vt270) rfl (by kernel_rfl) (by kernel_rfl) (by kernel_rfl) (fun _ _ _ h => h) (Or.inl ⟨by rfl, ?yt270⟩) hH268 ?zt270
              case yt270 =>
                intro w hSw
                (try dsimp only at hSw)
                go_simp
                try with_reducible rfl
              simp only [Act.put, List.setIfInBounds_toArray, List.set_cons_zero, List.set_cons_succ]
              refine wpAnyH_take (i := 21) (oi := { dst := some 29, op := Go.Op.binOp Go.BinOp.add 9 (Go.Operand.tmp 22) (Go.Operand.tmp 28) 9, type := 9, pos := "l09_bytes.go:30", after := #[{ on := 14, ground := Go.Ground.data }, { on := 20, ground := Go.Ground.data }], guard := none }) (v := ?vt271) rfl (by kernel_rfl) (by kernel_rfl) (by kernel_rfl) (fun _ _ _ h => h) (Or.inl ⟨by rfl, ?yt271⟩) hH268 ?zt271
              case yt271 =>
                intro w hSw
                (try dsimp only at hSw)
                go_simp
                try with_reducible rfl
              simp only [Act.put, List.setIfInBounds_toArray, List.set_cons_zero, List.set_cons_succ]
              refine wpAnyH_take (i := 24) (oi := { dst := some 32, op := Go.Op.binOp Go.BinOp.add 9 (Go.Operand.tmp 29) (Go.Operand.tmp 31) 9, type := 9, pos := "l09_bytes.go:30", after := #[{ on := 21, ground := Go.Ground.data }, { on := 23, ground := Go.Ground.data }], guard := none }) (v := ?vt272) rfl (by kernel_rfl) (by kernel_rfl) (by kernel_rfl) (fun _ _ _ h => h) (Or.inl ⟨by rfl, ?yt272⟩) hH268 ?zt272
              case yt272 =>
                intro w hSw
                (try dsimp only at hSw)
                go_simp
                try with_reducible rfl
              simp only [Act.put, List.setIfInBounds_toArray, List.set_cons_zero, List.set_cons_succ]
              refine wpAnyH_take (i := 25) (oi := { dst := some 2, op := Go.Op.assign (Go.Operand.tmp 32), type := 9, pos := "l09_bytes.go:30", after := #[{ on := 24, ground := Go.Ground.data }, { on := 13, ground := Go.Ground.chain }, { on := 0, ground := Go.Ground.phase }, { on := 1, ground := Go.Ground.phase }, { on := 2, ground := Go.Ground.phase }, { on := 3, ground := Go.Ground.phase }, { on := 4, ground := Go.Ground.phase }, { on := 5, ground := Go.Ground.phase }, { on := 6, ground := Go.Ground.phase }, { on := 7, ground := Go.Ground.phase }, { on := 8, ground := Go.Ground.phase }, { on := 9, ground := Go.Ground.phase }, { on := 10, ground := Go.Ground.phase }, { on := 11, ground := Go.Ground.phase }, { on := 12, ground := Go.Ground.phase }, { on := 13, ground := Go.Ground.phase }, { on := 14, ground := Go.Ground.phase }, { on := 15, ground := Go.Ground.phase }, { on := 16, ground := Go.Ground.phase }, { on := 17, ground := Go.Ground.phase }, { on := 18, ground := Go.Ground.phase }, { on := 19, ground := Go.Ground.phase }, { on := 20, ground := Go.Ground.phase }, { on := 21, ground := Go.Ground.phase }, { on := 22, ground := Go.Ground.phase }, { on := 23, ground := Go.Ground.phase }, { on := 24, ground := Go.Ground.phase }], guard := none }) (v := ?vt273) rfl (by kernel_rfl) (by kernel_rfl) (by kernel_rfl) (fun _ _ _ h => h) (Or.inl ⟨by rfl, ?yt273⟩) hH268 ?zt273
              case yt273 =>
                intro w hSw
                (try dsimp only at hSw)
                go_simp
                try with_reducible rfl
              simp only [Act.put, List.setIfInBounds_toArray, List.set_cons_zero, List.set_cons_succ]
              refine wpAnyH_done (by kernel_rfl) ?_ _
              go_wp2_with fail
              go_ret
              exact ⟨Q4, rfl, HEQ.out T HTT.out Q2 Q3 Q4 HQ2.out HQ3.out HQ4.out, eA.trans (HZ261.out.mono eA.size)⟩
    · go_simp
      try go_wp2_with fail
      have HZ274 : Hid (Below W.heap.size W (X0.alloc (.cells #[.int .u8 (IntKind.u8.wrap (b.size : Int))] 5))) := bel_a HZ.out _
      have HB274 : Hid (∀ W', Below (X0.alloc (.cells #[.int .u8 (IntKind.u8.wrap (b.size : Int))] 5)).heap.size (X0.alloc (.cells #[.int .u8 (IntKind.u8.wrap (b.size : Int))] 5)) W' → W'.cell? ⟨X0.heap.size, 0, none⟩ = some (.int .u8 (IntKind.u8.wrap (b.size : Int)))) := fun W' h => (h.cell (p := ⟨X0.heap.size, 0, none⟩) (by simp)).trans (by go_simp)
      refine hK.out _ _ (HKS.out _ HZ274.out) (fun hH274 => ?_)
      clear hHeld hK K
      generalize X0.alloc (.cells #[.int .u8 (IntKind.u8.wrap (b.size : Int))] 5) = X274 at *
      have bZ274 : Hid (Below X274.heap.size X274 X274) := Below.refl _ _
      refine wpAnyH_ready (rs := [6, 13, 20]) (by kernel_rfl) (by simp) ?_
      refine AllReadyH.cons (o := { dst := some 14, op := Go.Op.buildSlice 63 2 #[(0, Go.Operand.tmp 9), (1, Go.Operand.tmp 13)], type := 63, pos := "l09_bytes.go:30", after := #[{ on := 1, ground := Go.Ground.data }, { on := 5, ground := Go.Ground.data }], guard := none }) rfl (fun K hK => ?_) (AllReadyH.cons (o := { dst := some 21, op := Go.Op.call { callee := Go.Callee.value (Go.Operand.func 44), args := #[Go.Operand.tmp 20], argTypes := #[3] }, type := 9, pos := "l09_bytes.go:30", after := #[{ on := 12, ground := Go.Ground.data }], guard := none }) rfl (fun K hK => ?_) (AllReadyH.cons (o := { dst := some 28, op := Go.Op.convert 63 9 (Go.Operand.tmp 27), type := 9, pos := "l09_bytes.go:30", after := #[{ on := 19, ground := Go.Ground.data }], guard := none }) rfl (fun K hK => ?_) (AllReadyH.nil)))
      · go_simp
        try go_wp2_with fail
        have HZ275 : Hid (Below W.heap.size W (X274.alloc (.cells #[.int .u8 (IntKind.u8.wrap kk), .int .u8 (IntKind.u8.wrap (p.size : Int))] 5))) := bel_a HZ274.out _
        have HA275 : Hid (∀ W', Below (X274.alloc (.cells #[.int .u8 (IntKind.u8.wrap kk), .int .u8 (IntKind.u8.wrap (p.size : Int))] 5)).heap.size (X274.alloc (.cells #[.int .u8 (IntKind.u8.wrap kk), .int .u8 (IntKind.u8.wrap (p.size : Int))] 5)) W' → W'.cell? ⟨X274.heap.size, 0, none⟩ = some (.int .u8 (IntKind.u8.wrap kk)) ∧ W'.cell? ⟨X274.heap.size, 1, none⟩ = some (.int .u8 (IntKind.u8.wrap (p.size : Int)))) := fun W' h => ⟨(h.cell (p := ⟨X274.heap.size, 0, none⟩) (by simp)).trans (by go_simp), (h.cell (p := ⟨X274.heap.size, 1, none⟩) (by simp)).trans (by go_simp)⟩
        have bO275 : Hid (Below X274.heap.size X274 (X274.alloc (.cells #[.int .u8 (IntKind.u8.wrap kk), .int .u8 (IntKind.u8.wrap (p.size : Int))] 5))) := bel_a bZ274.out _
        refine hK.out _ _ (HKS.out _ HZ275.out) (fun hH275 => ?_)
        clear hH274 hK K
        generalize X274.alloc (.cells #[.int .u8 (IntKind.u8.wrap kk), .int .u8 (IntKind.u8.wrap (p.size : Int))] 5) = X275 at *
        have bZ275 : Hid (Below X275.heap.size X275 X275) := Below.refl _ _
        refine wpAnyH_ready (rs := [7, 13, 20]) (by kernel_rfl) (by simp) ?_
        refine AllReadyH.cons (o := { dst := some 15, op := Go.Op.convert 63 9 (Go.Operand.tmp 14), type := 9, pos := "l09_bytes.go:30", after := #[{ on := 6, ground := Go.Ground.data }], guard := none }) rfl (fun K hK => ?_) (AllReadyH.cons (o := { dst := some 21, op := Go.Op.call { callee := Go.Callee.value (Go.Operand.func 44), args := #[Go.Operand.tmp 20], argTypes := #[3] }, type := 9, pos := "l09_bytes.go:30", after := #[{ on := 12, ground := Go.Ground.data }], guard := none }) rfl (fun K hK => ?_) (AllReadyH.cons (o := { dst := some 28, op := Go.Op.convert 63 9 (Go.Operand.tmp 27), type := 9, pos := "l09_bytes.go:30", after := #[{ on := 19, ground := Go.Ground.data }], guard := none }) rfl (fun K hK => ?_) (AllReadyH.nil)))
        · have r320 := kc1 _ _ (HA275.out _ bZ275.out).1 (HA275.out _ bZ275.out).2
          go_simp
          try go_wp2_with fail
          refine hK.out _ _ (HKS.out _ HZ275.out) (fun hH320 => ?_)
          clear hH275 hK K r320
          refine wpAnyH_take (i := 10) (oi := { dst := some 18, op := Go.Op.binOp Go.BinOp.add 9 (Go.Operand.tmp 15) (Go.Operand.tmp 17) 9, type := 9, pos := "l09_bytes.go:30", after := #[{ on := 7, ground := Go.Ground.data }, { on := 9, ground := Go.Ground.data }], guard := none }) (v := ?vt321) rfl (by kernel_rfl) (by kernel_rfl) (by kernel_rfl) (fun _ _ _ h => h) (Or.inl ⟨by rfl, ?yt321⟩) hH320 ?zt321
          case yt321 =>
            intro w hSw
            (try dsimp only at hSw)
            go_simp
            try with_reducible rfl
          simp only [Act.put, List.setIfInBounds_toArray, List.set_cons_zero, List.set_cons_succ]
          refine wpAnyH_ready (rs := [13, 20]) (by kernel_rfl) (by simp) ?_
          refine AllReadyH.cons (o := { dst := some 21, op := Go.Op.call { callee := Go.Callee.value (Go.Operand.func 44), args := #[Go.Operand.tmp 20], argTypes := #[3] }, type := 9, pos := "l09_bytes.go:30", after := #[{ on := 12, ground := Go.Ground.data }], guard := none }) rfl (fun K hK => ?_) (AllReadyH.cons (o := { dst := some 28, op := Go.Op.convert 63 9 (Go.Operand.tmp 27), type := 9, pos := "l09_bytes.go:30", after := #[{ on := 19, ground := Go.Ground.data }], guard := none }) rfl (fun K hK => ?_) (AllReadyH.nil))
          · go_simp
            refine (l09Two_any m _ hm0 hm1).mono ?_
            rintro e X322 ⟨T, rfl, hT, hTs, hb1⟩
            have HTT := Lib.hid hT
            have hz0 : T.size ≤ 2 := Nat.le_of_eq hTs
            obtain ⟨Q2, HQ2, hq2, kA2⟩ := glue_run Q1 T (by omega)
            obtain ⟨Q3, HQ3, hq3, kA3⟩ := glue_run Q2 S2 (by omega)
            obtain ⟨Q4, HQ4, hq4, kA4⟩ := glue_run Q3 b (by omega)
            clear hT hTs
            have HZ322 : Hid (Below W.heap.size W X322) := bel_t HZ275.out hb1
            have bY322A : Hid (Below X275.heap.size X275 X322) := bel_t bZ275.out hb1
            have bY322B : Hid (Below X274.heap.size X274 X322) := bel_t bO275.out hb1
            go_wp2_with fail
            refine hK.out _ _ (HKS.out _ HZ322.out) (fun hH322 => ?_)
            clear hH320 hK K hb1
            refine wpAnyH_take (i := 14) (oi := { dst := some 22, op := Go.Op.binOp Go.BinOp.add 9 (Go.Operand.tmp 18) (Go.Operand.tmp 21) 9, type := 9, pos := "l09_bytes.go:30", after := #[{ on := 10, ground := Go.Ground.data }, { on := 13, ground := Go.Ground.data }], guard := none }) (v := ?vt323) rfl (by kernel_rfl) (by kernel_rfl) (by kernel_rfl) (fun _ _ _ h => h) (Or.inl ⟨by rfl, ?yt323⟩) hH322 ?zt323
            case yt323 =>
              intro w hSw
              (try dsimp only at hSw)
              go_simp
              try with_reducible rfl
            simp only [Act.put, List.setIfInBounds_toArray, List.set_cons_zero, List.set_cons_succ]
            refine wpAnyH_ready (rs := [20]) (by kernel_rfl) (by simp) ?_
            refine AllReadyH.cons (o := { dst := some 28, op := Go.Op.convert 63 9 (Go.Operand.tmp 27), type := 9, pos := "l09_bytes.go:30", after := #[{ on := 19, ground := Go.Ground.data }], guard := none }) rfl (fun K hK => ?_) (AllReadyH.nil)
            · have r324 := kc2 _ _ (HB274.out _ bY322B.out)
              go_simp
              try go_wp2_with fail
              refine hK.out _ _ (HKS.out _ HZ322.out) (fun hH324 => ?_)
              clear hH322 hK K r324
              refine wpAnyH_take (i := 21) (oi := { dst := some 29, op := Go.Op.binOp Go.BinOp.add 9 (Go.Operand.tmp 22) (Go.Operand.tmp 28) 9, type := 9, pos := "l09_bytes.go:30", after := #[{ on := 14, ground := Go.Ground.data }, { on := 20, ground := Go.Ground.data }], guard := none }) (v := ?vt325) rfl (by kernel_rfl) (by kernel_rfl) (by kernel_rfl) (fun _ _ _ h => h) (Or.inl ⟨by rfl, ?yt325⟩) hH324 ?zt325
              case yt325 =>
                intro w hSw
                (try dsimp only at hSw)
                go_simp
                try with_reducible rfl
              simp only [Act.put, List.setIfInBounds_toArray, List.set_cons_zero, List.set_cons_succ]
              refine wpAnyH_take (i := 24) (oi := { dst := some 32, op := Go.Op.binOp Go.BinOp.add 9 (Go.Operand.tmp 29) (Go.Operand.tmp 31) 9, type := 9, pos := "l09_bytes.go:30", after := #[{ on := 21, ground := Go.Ground.data }, { on := 23, ground := Go.Ground.data }], guard := none }) (v := ?vt326) rfl (by kernel_rfl) (by kernel_rfl) (by kernel_rfl) (fun _ _ _ h => h) (Or.inl ⟨by rfl, ?yt326⟩) hH324 ?zt326
              case yt326 =>
                intro w hSw
                (try dsimp only at hSw)
                go_simp
                try with_reducible rfl
              simp only [Act.put, List.setIfInBounds_toArray, List.set_cons_zero, List.set_cons_succ]
              refine wpAnyH_take (i := 25) (oi := { dst := some 2, op := Go.Op.assign (Go.Operand.tmp 32), type := 9, pos := "l09_bytes.go:30", after := #[{ on := 24, ground := Go.Ground.data }, { on := 13, ground := Go.Ground.chain }, { on := 0, ground := Go.Ground.phase }, { on := 1, ground := Go.Ground.phase }, { on := 2, ground := Go.Ground.phase }, { on := 3, ground := Go.Ground.phase }, { on := 4, ground := Go.Ground.phase }, { on := 5, ground := Go.Ground.phase }, { on := 6, ground := Go.Ground.phase }, { on := 7, ground := Go.Ground.phase }, { on := 8, ground := Go.Ground.phase }, { on := 9, ground := Go.Ground.phase }, { on := 10, ground := Go.Ground.phase }, { on := 11, ground := Go.Ground.phase }, { on := 12, ground := Go.Ground.phase }, { on := 13, ground := Go.Ground.phase }, { on := 14, ground := Go.Ground.phase }, { on := 15, ground := Go.Ground.phase }, { on := 16, ground := Go.Ground.phase }, { on := 17, ground := Go.Ground.phase }, { on := 18, ground := Go.Ground.phase }, { on := 19, ground := Go.Ground.phase }, { on := 20, ground := Go.Ground.phase }, { on := 21, ground := Go.Ground.phase }, { on := 22, ground := Go.Ground.phase }, { on := 23, ground := Go.Ground.phase }, { on := 24, ground := Go.Ground.phase }], guard := none }) (v := ?vt327) rfl (by kernel_rfl) (by kernel_rfl) (by kernel_rfl) (fun _ _ _ h => h) (Or.inl ⟨by rfl, ?yt327⟩) hH324 ?zt327
              case yt327 =>
                intro w hSw
                (try dsimp only at hSw)
                go_simp
                try with_reducible rfl
              simp only [Act.put, List.setIfInBounds_toArray, List.set_cons_zero, List.set_cons_succ]
              refine wpAnyH_done (by kernel_rfl) ?_ _
              go_wp2_with fail
              go_ret
              exact ⟨Q4, rfl, HEQ.out T HTT.out Q2 Q3 Q4 HQ2.out HQ3.out HQ4.out, eA.trans (HZ322.out.mono eA.size)⟩
          · have r328 := kc2 _ _ (HB274.out _ bO275.out)
            go_simp
            try go_wp2_with fail
            refine hK.out _ _ (HKS.out _ HZ275.out) (fun hH328 => ?_)
            clear hH320 hK K r328
            refine wpAnyH_ready (rs := [13]) (by kernel_rfl) (by simp) ?_
            refine AllReadyH.cons (o := { dst := some 21, op := Go.Op.call { callee := Go.Callee.value (Go.Operand.func 44), args := #[Go.Operand.tmp 20], argTypes := #[3] }, type := 9, pos := "l09_bytes.go:30", after := #[{ on := 12, ground := Go.Ground.data }], guard := none }) rfl (fun K hK => ?_) (AllReadyH.nil)
            · go_simp
              refine (l09Two_any m _ hm0 hm1).mono ?_
              rintro e X329 ⟨T, rfl, hT, hTs, hb1⟩
              have HTT := Lib.hid hT
              have hz0 : T.size ≤ 2 := Nat.le_of_eq hTs
              obtain ⟨Q2, HQ2, hq2, kA2⟩ := glue_run Q1 T (by omega)
              obtain ⟨Q3, HQ3, hq3, kA3⟩ := glue_run Q2 S2 (by omega)
              obtain ⟨Q4, HQ4, hq4, kA4⟩ := glue_run Q3 b (by omega)
              clear hT hTs
              have HZ329 : Hid (Below W.heap.size W X329) := bel_t HZ275.out hb1
              have bY329A : Hid (Below X275.heap.size X275 X329) := bel_t bZ275.out hb1
              have bY329B : Hid (Below X274.heap.size X274 X329) := bel_t bO275.out hb1
              go_wp2_with fail
              refine hK.out _ _ (HKS.out _ HZ329.out) (fun hH329 => ?_)
              clear hH328 hK K hb1
              refine wpAnyH_take (i := 14) (oi := { dst := some 22, op := Go.Op.binOp Go.BinOp.add 9 (Go.Operand.tmp 18) (Go.Operand.tmp 21) 9, type := 9, pos := "l09_bytes.go:30", after := #[{ on := 10, ground := Go.Ground.data }, { on := 13, ground := Go.Ground.data }], guard := none }) (v := ?vt330) rfl (by kernel_rfl) (by kernel_rfl) (by kernel_rfl) (fun _ _ _ h => h) (Or.inl ⟨by rfl, ?yt330⟩) hH329 ?zt330
              case yt330 =>
                intro w hSw
                (try dsimp only at hSw)
                go_simp
                try with_reducible rfl
              simp only [Act.put, List.setIfInBounds_toArray, List.set_cons_zero, List.set_cons_succ]
              refine wpAnyH_take (i := 21) (oi := { dst := some 29, op := Go.Op.binOp Go.BinOp.add 9 (Go.Operand.tmp 22) (Go.Operand.tmp 28) 9, type := 9, pos := "l09_bytes.go:30", after := #[{ on := 14, ground := Go.Ground.data }, { on := 20, ground := Go.Ground.data }], guard := none }) (v := ?vt331) rfl (by kernel_rfl) (by kernel_rfl) (by kernel_rfl) (fun _ _ _ h => h) (Or.inl ⟨by rfl, ?yt331⟩) hH329 ?zt331
              case yt331 =>
                intro w hSw
                (try dsimp only at hSw)
                go_simp
                try with_reducible rfl
              simp only [Act.put, List.setIfInBounds_toArray, List.set_cons_zero, List.set_cons_succ]
              refine wpAnyH_take (i := 24) (oi := { dst := some 32, op := Go.Op.binOp Go.BinOp.add 9 (Go.Operand.tmp 29) (Go.Operand.tmp 31) 9, type := 9, pos := "l09_bytes.go:30", after := #[{ on := 21, ground := Go.Ground.data }, { on := 23, ground := Go.Ground.data }], guard := none }) (v := ?vt332) rfl (by kernel_rfl) (by kernel_rfl) (by kernel_rfl) (fun _ _ _ h => h) (Or.inl ⟨by rfl, ?yt332⟩) hH329 ?zt332
              case yt332 =>
                intro w hSw
                (try dsimp only at hSw)
                go_simp
                try with_reducible rfl
              simp only [Act.put, List.setIfInBounds_toArray, List.set_cons_zero, List.set_cons_succ]
              refine wpAnyH_take (i := 25) (oi := { dst := some 2, op := Go.Op.assign (Go.Operand.tmp 32), type := 9, pos := "l09_bytes.go:30", after := #[{ on := 24, ground := Go.Ground.data }, { on := 13, ground := Go.Ground.chain }, { on := 0, ground := Go.Ground.phase }, { on := 1, ground := Go.Ground.phase }, { on := 2, ground := Go.Ground.phase }, { on := 3, ground := Go.Ground.phase }, { on := 4, ground := Go.Ground.phase }, { on := 5, ground := Go.Ground.phase }, { on := 6, ground := Go.Ground.phase }, { on := 7, ground := Go.Ground.phase }, { on := 8, ground := Go.Ground.phase }, { on := 9, ground := Go.Ground.phase }, { on := 10, ground := Go.Ground.phase }, { on := 11, ground := Go.Ground.phase }, { on := 12, ground := Go.Ground.phase }, { on := 13, ground := Go.Ground.phase }, { on := 14, ground := Go.Ground.phase }, { on := 15, ground := Go.Ground.phase }, { on := 16, ground := Go.Ground.phase }, { on := 17, ground := Go.Ground.phase }, { on := 18, ground := Go.Ground.phase }, { on := 19, ground := Go.Ground.phase }, { on := 20, ground := Go.Ground.phase }, { on := 21, ground := Go.Ground.phase }, { on := 22, ground := Go.Ground.phase }, { on := 23, ground := Go.Ground.phase }, { on := 24, ground := Go.Ground.phase }], guard := none }) (v := ?vt333) rfl (by kernel_rfl) (by kernel_rfl) (by kernel_rfl) (fun _ _ _ h => h) (Or.inl ⟨by rfl, ?yt333⟩) hH329 ?zt333
              case yt333 =>
                intro w hSw
                (try dsimp only at hSw)
                go_simp
                try with_reducible rfl
              simp only [Act.put, List.setIfInBounds_toArray, List.set_cons_zero, List.set_cons_succ]
              refine wpAnyH_done (by kernel_rfl) ?_ _
              go_wp2_with fail
              go_ret
              exact ⟨Q4, rfl, HEQ.out T HTT.out Q2 Q3 Q4 HQ2.out HQ3.out HQ4.out, eA.trans (HZ329.out.mono eA.size)⟩
        · go_simp
          refine (l09Two_any m _ hm0 hm1).mono ?_
          rintro e X334 ⟨T, rfl, hT, hTs, hb1⟩
          have HTT := Lib.hid hT
          have hz0 : T.size ≤ 2 := Nat.le_of_eq hTs
          obtain ⟨Q2, HQ2, hq2, kA2⟩ := glue_run Q1 T (by omega)
          obtain ⟨Q3, HQ3, hq3, kA3⟩ := glue_run Q2 S2 (by omega)
          obtain ⟨Q4, HQ4, hq4, kA4⟩ := glue_run Q3 b (by omega)
          clear hT hTs
          have HZ334 : Hid (Below W.heap.size W X334) := bel_t HZ275.out hb1
          have bY334A : Hid (Below X275.heap.size X275 X334) := bel_t bZ275.out hb1
          have bY334B : Hid (Below X274.heap.size X274 X334) := bel_t bO275.out hb1
          go_wp2_with fail
          refine hK.out _ _ (HKS.out _ HZ334.out) (fun hH334 => ?_)
          clear hH275 hK K hb1
          refine wpAnyH_ready (rs := [7, 20]) (by kernel_rfl) (by simp) ?_
          refine AllReadyH.cons (o := { dst := some 15, op := Go.Op.convert 63 9 (Go.Operand.tmp 14), type := 9, pos := "l09_bytes.go:30", after := #[{ on := 6, ground := Go.Ground.data }], guard := none }) rfl (fun K hK => ?_) (AllReadyH.cons (o := { dst := some 28, op := Go.Op.convert 63 9 (Go.Operand.tmp 27), type := 9, pos := "l09_bytes.go:30", after := #[{ on := 19, ground := Go.Ground.data }], guard := none }) rfl (fun K hK => ?_) (AllReadyH.nil))
          · have r335 := kc1 _ _ (HA275.out _ bY334A.out).1 (HA275.out _ bY334A.out).2
            go_simp
            try go_wp2_with fail
            refine hK.out _ _ (HKS.out _ HZ334.out) (fun hH335 => ?_)
            clear hH334 hK K r335
            refine wpAnyH_take (i := 10) (oi := { dst := some 18, op := Go.Op.binOp Go.BinOp.add 9 (Go.Operand.tmp 15) (Go.Operand.tmp 17) 9, type := 9, pos := "l09_bytes.go:30", after := #[{ on := 7, ground := Go.Ground.data }, { on := 9, ground := Go.Ground.data }], guard := none }) (v := ?vt336) rfl (by kernel_rfl) (by kernel_rfl) (by kernel_rfl) (fun _ _ _ h => h) (Or.inl ⟨by rfl, ?yt336⟩) hH335 ?zt336
            case yt336 =>
              intro w hSw
              (try dsimp only at hSw)
              go_simp
              try with_reducible rfl
            simp only [Act.put, List.setIfInBounds_toArray, List.set_cons_zero, List.set_cons_succ]
            refine wpAnyH_take (i := 14) (oi := { dst := some 22, op := Go.Op.binOp Go.BinOp.add 9 (Go.Operand.tmp 18) (Go.Operand.tmp 21) 9, type := 9, pos := "l09_bytes.go:30", after := #[{ on := 10, ground := Go.Ground.data }, { on := 13, ground := Go.Ground.data }], guard := none }) (v := ?vt337) rfl (by kernel_rfl) (by kernel_rfl) (by kernel_rfl) (fun _ _ _ h => h) (Or.inl ⟨by rfl, ?yt337⟩) hH335 ?zt337
            case yt337 =>
              intro w hSw
              (try dsimp only at hSw)
              go_simp
              try with_reducible rfl
            simp only [Act.put, List.setIfInBounds_toArray, List.set_cons_zero, List.set_cons_succ]
            refine wpAnyH_ready (rs := [20]) (by kernel_rfl) (by simp) ?_
            refine AllReadyH.cons (o := { dst := some 28, op := Go.Op.convert 63 9 (Go.Operand.tmp 27), type := 9, pos := "l09_bytes.go:30", after := #[{ on := 19, ground := Go.Ground.data }], guard := none }) rfl (fun K hK => ?_) (AllReadyH.nil)
            · have r338 := kc2 _ _ (HB274.out _ bY334B.out)
              go_simp
              try go_wp2_with fail
              refine hK.out _ _ (HKS.out _ HZ334.out) (fun hH338 => ?_)
              clear hH335 hK K r338
              refine wpAnyH_take (i := 21) (oi := { dst := some 29, op := Go.Op.binOp Go.BinOp.add 9 (Go.Operand.tmp 22) (Go.Operand.tmp 28) 9, type := 9, pos := "l09_bytes.go:30", after := #[{ on := 14, ground := Go.Ground.data }, { on := 20, ground := Go.Ground.data }], guard := none }) (v := ?vt339) rfl (by kernel_rfl) (by kernel_rfl) (by kernel_rfl) (fun _ _ _ h => h) (Or.inl ⟨by rfl, ?yt339⟩) hH338 ?zt339
              case yt339 =>
                intro w hSw
                (try dsimp only at hSw)
                go_simp
                try with_reducible rfl
              simp only [Act.put, List.setIfInBounds_toArray, List.set_cons_zero, List.set_cons_succ]
              refine wpAnyH_take (i := 24) (oi := { dst := some 32, op := Go.Op.binOp Go.BinOp.add 9 (Go.Operand.tmp 29) (Go.Operand.tmp 31) 9, type := 9, pos := "l09_bytes.go:30", after := #[{ on := 21, ground := Go.Ground.data }, { on := 23, ground := Go.Ground.data }], guard := none }) (v := ?vt340) rfl (by kernel_rfl) (by kernel_rfl) (by kernel_rfl) (fun _ _ _ h => h) (Or.inl ⟨by rfl, ?yt340⟩) hH338 ?zt340
              case yt340 =>
                intro w hSw
                (try dsimp only at hSw)
                go_simp
                try with_reducible rfl
              simp only [Act.put, List.setIfInBounds_toArray, List.set_cons_zero, List.set_cons_succ]
              refine wpAnyH_take (i := 25) (oi := { dst := some 2, op := Go.Op.assign (Go.Operand.tmp 32), type := 9, pos := "l09_bytes.go:30", after := #[{ on := 24, ground := Go.Ground.data }, { on := 13, ground := Go.Ground.chain }, { on := 0, ground := Go.Ground.phase }, { on := 1, ground := Go.Ground.phase }, { on := 2, ground := Go.Ground.phase }, { on := 3, ground := Go.Ground.phase }, { on := 4, ground := Go.Ground.phase }, { on := 5, ground := Go.Ground.phase }, { on := 6, ground := Go.Ground.phase }, { on := 7, ground := Go.Ground.phase }, { on := 8, ground := Go.Ground.phase }, { on := 9, ground := Go.Ground.phase }, { on := 10, ground := Go.Ground.phase }, { on := 11, ground := Go.Ground.phase }, { on := 12, ground := Go.Ground.phase }, { on := 13, ground := Go.Ground.phase }, { on := 14, ground := Go.Ground.phase }, { on := 15, ground := Go.Ground.phase }, { on := 16, ground := Go.Ground.phase }, { on := 17, ground := Go.Ground.phase }, { on := 18, ground := Go.Ground.phase }, { on := 19, ground := Go.Ground.phase }, { on := 20, ground := Go.Ground.phase }, { on := 21, ground := Go.Ground.phase }, { on := 22, ground := Go.Ground.phase }, { on := 23, ground := Go.Ground.phase }, { on := 24, ground := Go.Ground.phase }], guard := none }) (v := ?vt341) rfl (by kernel_rfl) (by kernel_rfl) (by kernel_rfl) (fun _ _ _ h => h) (Or.inl ⟨by rfl, ?yt341⟩) hH338 ?zt341
              case yt341 =>
                intro w hSw
                (try dsimp only at hSw)
                go_simp
                try with_reducible rfl
              simp only [Act.put, List.setIfInBounds_toArray, List.set_cons_zero, List.set_cons_succ]
              refine wpAnyH_done (by kernel_rfl) ?_ _
              go_wp2_with fail
              go_ret
              exact ⟨Q4, rfl, HEQ.out T HTT.out Q2 Q3 Q4 HQ2.out HQ3.out HQ4.out, eA.trans (HZ334.out.mono eA.size)⟩
          · have r342 := kc2 _ _ (HB274.out _ bY334B.out)
            go_simp
            try go_wp2_with fail
            refine hK.out _ _ (HKS.out _ HZ334.out) (fun hH342 => ?_)
            clear hH334 hK K r342
            refine wpAnyH_ready (rs := [7]) (by kernel_rfl) (by simp) ?_
            refine AllReadyH.cons (o := { dst := some 15, op := Go.Op.convert 63 9 (Go.Operand.tmp 14), type := 9, pos := "l09_bytes.go:30", after := #[{ on := 6, ground := Go.Ground.data }], guard := none }) rfl (fun K hK => ?_) (AllReadyH.nil)
            · have r343 := kc1 _ _ (HA275.out _ bY334A.out).1 (HA275.out _ bY334A.out).2
              go_simp
              try go_wp2_with fail
              refine hK.out _ _ (HKS.out _ HZ334.out) (fun hH343 => ?_)
              clear hH342 hK K r343
              refine wpAnyH_take (i := 10) (oi := { dst := some 18, op := Go.Op.binOp Go.BinOp.add 9 (Go.Operand.tmp 15) (Go.Operand.tmp 17) 9, type := 9, pos := "l09_bytes.go:30", after := #[{ on := 7, ground := Go.Ground.data }, { on := 9, ground := Go.Ground.data }], guard := none }) (v := ?vt344) rfl (by kernel_rfl) (by kernel_rfl) (by kernel_rfl) (fun _ _ _ h => h) (Or.inl ⟨by rfl, ?yt344⟩) hH343 ?zt344
              case yt344 =>
                intro w hSw
                (try dsimp only at hSw)
                go_simp
                try with_reducible rfl
              simp only [Act.put, List.setIfInBounds_toArray, List.set_cons_zero, List.set_cons_succ]
              refine wpAnyH_take (i := 14) (oi := { dst := some 22, op := Go.Op.binOp Go.BinOp.add 9 (Go.Operand.tmp 18) (Go.Operand.tmp 21) 9, type := 9, pos := "l09_bytes.go:30", after := #[{ on := 10, ground := Go.Ground.data }, { on := 13, ground := Go.Ground.data }], guard := none }) (v := ?vt345) rfl (by kernel_rfl) (by kernel_rfl) (by kernel_rfl) (fun _ _ _ h => h) (Or.inl ⟨by rfl, ?yt345⟩) hH343 ?zt345
              case yt345 =>
                intro w hSw
                (try dsimp only at hSw)
                go_simp
                try with_reducible rfl
              simp only [Act.put, List.setIfInBounds_toArray, List.set_cons_zero, List.set_cons_succ]
              refine wpAnyH_take (i := 21) (oi := { dst := some 29, op := Go.Op.binOp Go.BinOp.add 9 (Go.Operand.tmp 22) (Go.Operand.tmp 28) 9, type := 9, pos := "l09_bytes.go:30", after := #[{ on := 14, ground := Go.Ground.data }, { on := 20, ground := Go.Ground.data }], guard := none }) (v := ?vt346) rfl (by kernel_rfl) (by kernel_rfl) (by kernel_rfl) (fun _ _ _ h => h) (Or.inl ⟨by rfl, ?yt346⟩) hH343 ?zt346
              case yt346 =>
                intro w hSw
                (try dsimp only at hSw)
                go_simp
                try with_reducible rfl
              simp only [Act.put, List.setIfInBounds_toArray, List.set_cons_zero, List.set_cons_succ]
              refine wpAnyH_take (i := 24) (oi := { dst := some 32, op := Go.Op.binOp Go.BinOp.add 9 (Go.Operand.tmp 29) (Go.Operand.tmp 31) 9, type := 9, pos := "l09_bytes.go:30", after := #[{ on := 21, ground := Go.Ground.data }, { on := 23, ground := Go.Ground.data }], guard := none }) (v := ?vt347) rfl (by kernel_rfl) (by kernel_rfl) (by kernel_rfl) (fun _ _ _ h => h) (Or.inl ⟨by rfl, ?yt347⟩) hH343 ?zt347
              case yt347 =>
                intro w hSw
                (try dsimp only at hSw)
                go_simp
                try with_reducible rfl
              simp only [Act.put, List.setIfInBounds_toArray, List.set_cons_zero, List.set_cons_succ]
              refine wpAnyH_take (i := 25) (oi := { dst := some 2, op := Go.Op.assign (Go.Operand.tmp 32), type := 9, pos := "l09_bytes.go:30", after := #[{ on := 24, ground := Go.Ground.data }, { on := 13, ground := Go.Ground.chain }, { on := 0, ground := Go.Ground.phase }, { on := 1, ground := Go.Ground.phase }, { on := 2, ground := Go.Ground.phase }, { on := 3, ground := Go.Ground.phase }, { on := 4, ground := Go.Ground.phase }, { on := 5, ground := Go.Ground.phase }, { on := 6, ground := Go.Ground.phase }, { on := 7, ground := Go.Ground.phase }, { on := 8, ground := Go.Ground.phase }, { on := 9, ground := Go.Ground.phase }, { on := 10, ground := Go.Ground.phase }, { on := 11, ground := Go.Ground.phase }, { on := 12, ground := Go.Ground.phase }, { on := 13, ground := Go.Ground.phase }, { on := 14, ground := Go.Ground.phase }, { on := 15, ground := Go.Ground.phase }, { on := 16, ground := Go.Ground.phase }, { on := 17, ground := Go.Ground.phase }, { on := 18, ground := Go.Ground.phase }, { on := 19, ground := Go.Ground.phase }, { on := 20, ground := Go.Ground.phase }, { on := 21, ground := Go.Ground.phase }, { on := 22, ground := Go.Ground.phase }, { on := 23, ground := Go.Ground.phase }, { on := 24, ground := Go.Ground.phase }], guard := none }) (v := ?vt348) rfl (by kernel_rfl) (by kernel_rfl) (by kernel_rfl) (fun _ _ _ h => h) (Or.inl ⟨by rfl, ?yt348⟩) hH343 ?zt348
              case yt348 =>
                intro w hSw
                (try dsimp only at hSw)
                go_simp
                try with_reducible rfl
              simp only [Act.put, List.setIfInBounds_toArray, List.set_cons_zero, List.set_cons_succ]
              refine wpAnyH_done (by kernel_rfl) ?_ _
              go_wp2_with fail
              go_ret
              exact ⟨Q4, rfl, HEQ.out T HTT.out Q2 Q3 Q4 HQ2.out HQ3.out HQ4.out, eA.trans (HZ334.out.mono eA.size)⟩
        · have r349 := kc2 _ _ (HB274.out _ bO275.out)
          go_simp
          try go_wp2_with fail
          refine hK.out _ _ (HKS.out _ HZ275.out) (fun hH349 => ?_)
          clear hH275 hK K r349
          refine wpAnyH_ready (rs := [7, 13]) (by kernel_rfl) (by simp) ?_
          refine AllReadyH.cons (o := { dst := some 15, op := Go.Op.convert 63 9 (Go.Operand.tmp 14), type := 9, pos := "l09_bytes.go:30", after := #[{ on := 6, ground := Go.Ground.data }], guard := none }) rfl (fun K hK => ?_) (AllReadyH.cons (o := { dst := some 21, op := Go.Op.call { callee := Go.Callee.value (Go.Operand.func 44), args := #[Go.Operand.tmp 20], argTypes := #[3] }, type := 9, pos := "l09_bytes.go:30", after := #[{ on := 12, ground := Go.Ground.data }], guard := none }) rfl (fun K hK => ?_) (AllReadyH.nil))
          · have r350 := kc1 _ _ (HA275.out _ bZ275.out).1 (HA275.out _ bZ275.out).2
            go_simp
            try go_wp2_with fail
            refine hK.out _ _ (HKS.out _ HZ275.out) (fun hH350 => ?_)
            clear hH349 hK K r350
            refine wpAnyH_take (i := 10) (oi := { dst := some 18, op := Go.Op.binOp Go.BinOp.add 9 (Go.Operand.tmp 15) (Go.Operand.tmp 17) 9, type := 9, pos := "l09_bytes.go:30", after := #[{ on := 7, ground := Go.Ground.data }, { on := 9, ground := Go.Ground.data }], guard := none }) (v := ?vt351) rfl (by kernel_rfl) (by kernel_rfl) (by kernel_rfl) (fun _ _ _ h => h) (Or.inl ⟨by rfl, ?yt351⟩) hH350 ?zt351
            case yt351 =>
              intro w hSw
              (try dsimp only at hSw)
              go_simp
              try with_reducible rfl
            simp only [Act.put, List.setIfInBounds_toArray, List.set_cons_zero, List.set_cons_succ]
            refine wpAnyH_ready (rs := [13]) (by kernel_rfl) (by simp) ?_
            refine AllReadyH.cons (o := { dst := some 21, op := Go.Op.call { callee := Go.Callee.value (Go.Operand.func 44), args := #[Go.Operand.tmp 20], argTypes := #[3] }, type := 9, pos := "l09_bytes.go:30", after := #[{ on := 12, ground := Go.Ground.data }], guard := none }) rfl (fun K hK => ?_) (AllReadyH.nil)
            · go_simp
              refine (l09Two_any m _ hm0 hm1).mono ?_
              rintro e X352 ⟨T, rfl, hT, hTs, hb1⟩
              have HTT := Lib.hid hT
              have hz0 : T.size ≤ 2 := Nat.le_of_eq hTs
              obtain ⟨Q2, HQ2, hq2, kA2⟩ := glue_run Q1 T (by omega)
              obtain ⟨Q3, HQ3, hq3, kA3⟩ := glue_run Q2 S2 (by omega)
              obtain ⟨Q4, HQ4, hq4, kA4⟩ := glue_run Q3 b (by omega)
              clear hT hTs
              have HZ352 : Hid (Below W.heap.size W X352) := bel_t HZ275.out hb1
              have bY352A : Hid (Below X275.heap.size X275 X352) := bel_t bZ275.out hb1
              have bY352B : Hid (Below X274.heap.size X274 X352) := bel_t bO275.out hb1
              go_wp2_with fail
              refine hK.out _ _ (HKS.out _ HZ352.out) (fun hH352 => ?_)
              clear hH350 hK K hb1
              refine wpAnyH_take (i := 14) (oi := { dst := some 22, op := Go.Op.binOp Go.BinOp.add 9 (Go.Operand.tmp 18) (Go.Operand.tmp 21) 9, type := 9, pos := "l09_bytes.go:30", after := #[{ on := 10, ground := Go.Ground.data }, { on := 13, ground := Go.Ground.data }], guard := none }) (v := ?vt353) rfl (by kernel_rfl) (by kernel_rfl) (by kernel_rfl) (fun _ _ _ h => h) (Or.inl ⟨by rfl, ?yt353⟩) hH352 ?zt353
              case yt353 =>
                intro w hSw
                (try dsimp only at hSw)
                go_simp
                try with_reducible rfl
              simp only [Act.put, List.setIfInBounds_toArray, List.set_cons_zero, List.set_cons_succ]
              refine wpAnyH_take (i := 21) (oi := { dst := some 29, op := Go.Op.binOp Go.BinOp.add 9 (Go.Operand.tmp 22) (Go.Operand.tmp 28) 9, type := 9, pos := "l09_bytes.go:30", after := #[{ on := 14, ground := Go.Ground.data }, { on := 20, ground := Go.Ground.data }], guard := none }) (v := ?vt354) rfl (by kernel_rfl) (by kernel_rfl) (by kernel_rfl) (fun _ _ _ h => h) (Or.inl ⟨by rfl, ?yt354⟩) hH352 ?zt354
              case yt354 =>
                intro w hSw
                (try dsimp only at hSw)
                go_simp
                try with_reducible rfl
              simp only [Act.put, List.setIfInBounds_toArray, List.set_cons_zero, List.set_cons_succ]
              refine wpAnyH_take (i := 24) (oi := { dst := some 32, op := Go.Op.binOp Go.BinOp.add 9 (Go.Operand.tmp 29) (Go.Operand.tmp 31) 9, type := 9, pos := "l09_bytes.go:30", after := #[{ on := 21, ground := Go.Ground.data }, { on := 23, ground := Go.Ground.data }], guard := none }) (v := ?vt355) rfl (by kernel_rfl) (by kernel_rfl) (by kernel_rfl) (fun _ _ _ h => h) (Or.inl ⟨by rfl, ?yt355⟩) hH352 ?zt355
              case yt355 =>
                intro w hSw
                (try dsimp only at hSw)
                go_simp
                try with_reducible rfl
              simp only [Act.put, List.setIfInBounds_toArray, List.set_cons_zero, List.set_cons_succ]
              refine wpAnyH_take (i := 25) (oi := { dst := some 2, op := Go.Op.assign (Go.Operand.tmp 32), type := 9, pos := "l09_bytes.go:30", after := #[{ on := 24, ground := Go.Ground.data }, { on := 13, ground := Go.Ground.chain }, { on := 0, ground := Go.Ground.phase }, { on := 1, ground := Go.Ground.phase }, { on := 2, ground := Go.Ground.phase }, { on := 3, ground := Go.Ground.phase }, { on := 4, ground := Go.Ground.phase }, { on := 5, ground := Go.Ground.phase }, { on := 6, ground := Go.Ground.phase }, { on := 7, ground := Go.Ground.phase }, { on := 8, ground := Go.Ground.phase }, { on := 9, ground := Go.Ground.phase }, { on := 10, ground := Go.Ground.phase }, { on := 11, ground := Go.Ground.phase }, { on := 12, ground := Go.Ground.phase }, { on := 13, ground := Go.Ground.phase }, { on := 14, ground := Go.Ground.phase }, { on := 15, ground := Go.Ground.phase }, { on := 16, ground := Go.Ground.phase }, { on := 17, ground := Go.Ground.phase }, { on := 18, ground := Go.Ground.phase }, { on := 19, ground := Go.Ground.phase }, { on := 20, ground := Go.Ground.phase }, { on := 21, ground := Go.Ground.phase }, { on := 22, ground := Go.Ground.phase }, { on := 23, ground := Go.Ground.phase }, { on := 24, ground := Go.Ground.phase }], guard := none }) (v := ?vt356) rfl (by kernel_rfl) (by kernel_rfl) (by kernel_rfl) (fun _ _ _ h => h) (Or.inl ⟨by rfl, ?yt356⟩) hH352 ?zt356
              case yt356 =>
                intro w hSw
                (try dsimp only at hSw)
                go_simp
                try with_reducible rfl
              simp only [Act.put, List.setIfInBounds_toArray, List.set_cons_zero, List.set_cons_succ]
              refine wpAnyH_done (by kernel_rfl) ?_ _
              go_wp2_with fail
              go_ret
              exact ⟨Q4, rfl, HEQ.out T HTT.out Q2 Q3 Q4 HQ2.out HQ3.out HQ4.out, eA.trans (HZ352.out.mono eA.size)⟩
          · go_simp
            refine (l09Two_any m _ hm0 hm1).mono ?_
            rintro e X357 ⟨T, rfl, hT, hTs, hb1⟩
            have HTT := Lib.hid hT
            have hz0 : T.size ≤ 2 := Nat.le_of_eq hTs
            obtain ⟨Q2, HQ2, hq2, kA2⟩ := glue_run Q1 T (by omega)
            obtain ⟨Q3, HQ3, hq3, kA3⟩ := glue_run Q2 S2 (by omega)
            obtain ⟨Q4, HQ4, hq4, kA4⟩ := glue_run Q3 b (by omega)
            clear hT hTs
            have HZ357 : Hid (Below W.heap.size W X357) := bel_t HZ275.out hb1
            have bY357A : Hid (Below X275.heap.size X275 X357) := bel_t bZ275.out hb1
            have bY357B : Hid (Below X274.heap.size X274 X357) := bel_t bO275.out hb1
            go_wp2_with fail
            refine hK.out _ _ (HKS.out _ HZ357.out) (fun hH357 => ?_)
            clear hH349 hK K hb1
            refine wpAnyH_ready (rs := [7]) (by kernel_rfl) (by simp) ?_
            refine AllReadyH.cons (o := { dst := some 15, op := Go.Op.convert 63 9 (Go.Operand.tmp 14), type := 9, pos := "l09_bytes.go:30", after := #[{ on := 6, ground := Go.Ground.data }], guard := none }) rfl (fun K hK => ?_) (AllReadyH.nil)
            · have r358 := kc1 _ _ (HA275.out _ bY357A.out).1 (HA275.out _ bY357A.out).2
              go_simp
              try go_wp2_with fail
              refine hK.out _ _ (HKS.out _ HZ357.out) (fun hH358 => ?_)
              clear hH357 hK K r358
              refine wpAnyH_take (i := 10) (oi := { dst := some 18, op := Go.Op.binOp Go.BinOp.add 9 (Go.Operand.tmp 15) (Go.Operand.tmp 17) 9, type := 9, pos := "l09_bytes.go:30", after := #[{ on := 7, ground := Go.Ground.data }, { on := 9, ground := Go.Ground.data }], guard := none }) (v := ?vt359) rfl (by kernel_rfl) (by kernel_rfl) (by kernel_rfl) (fun _ _ _ h => h) (Or.inl ⟨by rfl, ?yt359⟩) hH358 ?zt359
              case yt359 =>
                intro w hSw
                (try dsimp only at hSw)
                go_simp
                try with_reducible rfl
              simp only [Act.put, List.setIfInBounds_toArray, List.set_cons_zero, List.set_cons_succ]
              refine wpAnyH_take (i := 14) (oi := { dst := some 22, op := Go.Op.binOp Go.BinOp.add 9 (Go.Operand.tmp 18) (Go.Operand.tmp 21) 9, type := 9, pos := "l09_bytes.go:30", after := #[{ on := 10, ground := Go.Ground.data }, { on := 13, ground := Go.Ground.data }], guard := none }) (v := ?vt360) rfl (by kernel_rfl) (by kernel_rfl) (by kernel_rfl) (fun _ _ _ h => h) (Or.inl ⟨by rfl, ?yt360⟩) hH358 ?zt360
              case yt360 =>
                intro w hSw
                (try dsimp only at hSw)
                go_simp
                try with_reducible rfl
              simp only [Act.put, List.setIfInBounds_toArray, List.set_cons_zero, List.set_cons_succ]
              refine wpAnyH_take (i := 21) (oi := { dst := some 29, op := Go.Op.binOp Go.BinOp.add 9 (Go.Operand.tmp 22) (Go.Operand.tmp 28) 9, type := 9, pos := "l09_bytes.go:30", after := #[{ on := 14, ground := Go.Ground.data }, { on := 20, ground := Go.Ground.data }], guard := none }) (v := ?vt361) rfl (by kernel_rfl) (by kernel_rfl) (by kernel_rfl) (fun _ _ _ h => h) (Or.inl ⟨by rfl, ?yt361⟩) hH358 ?zt361
              case yt361 =>
                intro w hSw
                (try dsimp only at hSw)
                go_simp
                try with_reducible rfl
              simp only [Act.put, List.setIfInBounds_toArray, List.set_cons_zero, List.set_cons_succ]
              refine wpAnyH_take (i := 24) (oi := { dst := some 32, op := Go.Op.binOp Go.BinOp.add 9 (Go.Operand.tmp 29) (Go.Operand.tmp 31) 9, type := 9, pos := "l09_bytes.go:30", after := #[{ on := 21, ground := Go.Ground.data }, { on := 23, ground := Go.Ground.data }], guard := none }) (v := ?vt362) rfl (by kernel_rfl) (by kernel_rfl) (by kernel_rfl) (fun _ _ _ h => h) (Or.inl ⟨by rfl, ?yt362⟩) hH358 ?zt362
              case yt362 =>
                intro w hSw
                (try dsimp only at hSw)
                go_simp
                try with_reducible rfl
              simp only [Act.put, List.setIfInBounds_toArray, List.set_cons_zero, List.set_cons_succ]
              refine wpAnyH_take (i := 25) (oi := { dst := some 2, op := Go.Op.assign (Go.Operand.tmp 32), type := 9, pos := "l09_bytes.go:30", after := #[{ on := 24, ground := Go.Ground.data }, { on := 13, ground := Go.Ground.chain }, { on := 0, ground := Go.Ground.phase }, { on := 1, ground := Go.Ground.phase }, { on := 2, ground := Go.Ground.phase }, { on := 3, ground := Go.Ground.phase }, { on := 4, ground := Go.Ground.phase }, { on := 5, ground := Go.Ground.phase }, { on := 6, ground := Go.Ground.phase }, { on := 7, ground := Go.Ground.phase }, { on := 8, ground := Go.Ground.phase }, { on := 9, ground := Go.Ground.phase }, { on := 10, ground := Go.Ground.phase }, { on := 11, ground := Go.Ground.phase }, { on := 12, ground := Go.Ground.phase }, { on := 13, ground := Go.Ground.phase }, { on := 14, ground := Go.Ground.phase }, { on := 15, ground := Go.Ground.phase }, { on := 16, ground := Go.Ground.phase }, { on := 17, ground := Go.Ground.phase }, { on := 18, ground := Go.Ground.phase }, { on := 19, ground := Go.Ground.phase }, { on := 20, ground := Go.Ground.phase }, { on := 21, ground := Go.Ground.phase }, { on := 22, ground := Go.Ground.phase }, { on := 23, ground := Go.Ground.phase }, { on := 24, ground := Go.Ground.phase }], guard := none }) (v := ?vt363) rfl (by kernel_rfl) (by kernel_rfl) (by kernel_rfl) (fun _ _ _ h => h) (Or.inl ⟨by rfl, ?yt363⟩) hH358 ?zt363
              case yt363 =>
                intro w hSw
                (try dsimp only at hSw)
                go_simp
                try with_reducible rfl
              simp only [Act.put, List.setIfInBounds_toArray, List.set_cons_zero, List.set_cons_succ]
              refine wpAnyH_done (by kernel_rfl) ?_ _
              go_wp2_with fail
              go_ret
              exact ⟨Q4, rfl, HEQ.out T HTT.out Q2 Q3 Q4 HQ2.out HQ3.out HQ4.out, eA.trans (HZ357.out.mono eA.size)⟩
      · go_simp
        refine (l09Two_any m _ hm0 hm1).mono ?_
        rintro e X364 ⟨T, rfl, hT, hTs, hb1⟩
        have HTT := Lib.hid hT
        have hz0 : T.size ≤ 2 := Nat.le_of_eq hTs
        obtain ⟨Q2, HQ2, hq2, kA2⟩ := glue_run Q1 T (by omega)
        obtain ⟨Q3, HQ3, hq3, kA3⟩ := glue_run Q2 S2 (by omega)
        obtain ⟨Q4, HQ4, hq4, kA4⟩ := glue_run Q3 b (by omega)
        clear hT hTs
        have HZ364 : Hid (Below W.heap.size W X364) := bel_t HZ274.out hb1
        have bY364B : Hid (Below X274.heap.size X274 X364) := bel_t bZ274.out hb1
        go_wp2_with fail
        refine hK.out _ _ (HKS.out _ HZ364.out) (fun hH364 => ?_)
        clear hH274 hK K hb1
        refine wpAnyH_ready (rs := [6, 20]) (by kernel_rfl) (by simp) ?_
        refine AllReadyH.cons (o := { dst := some 14, op := Go.Op.buildSlice 63 2 #[(0, Go.Operand.tmp 9), (1, Go.Operand.tmp 13)], type := 63, pos := "l09_bytes.go:30", after := #[{ on := 1, ground := Go.Ground.data }, { on := 5, ground := Go.Ground.data }], guard := none }) rfl (fun K hK => ?_) (AllReadyH.cons (o := { dst := some 28, op := Go.Op.convert 63 9 (Go.Operand.tmp 27), type := 9, pos := "l09_bytes.go:30", after := #[{ on := 19, ground := Go.Ground.data }], guard := none }) rfl (fun K hK => ?_) (AllReadyH.nil))
        · go_simp
          try go_wp2_with fail
          have HZ365 : Hid (Below W.heap.size W (X364.alloc (.cells #[.int .u8 (IntKind.u8.wrap kk), .int .u8 (IntKind.u8.wrap (p.size : Int))] 5))) := bel_a HZ364.out _
          have HA365 : Hid (∀ W', Below (X364.alloc (.cells #[.int .u8 (IntKind.u8.wrap kk), .int .u8 (IntKind.u8.wrap (p.size : Int))] 5)).heap.size (X364.alloc (.cells #[.int .u8 (IntKind.u8.wrap kk), .int .u8 (IntKind.u8.wrap (p.size : Int))] 5)) W' → W'.cell? ⟨X364.heap.size, 0, none⟩ = some (.int .u8 (IntKind.u8.wrap kk)) ∧ W'.cell? ⟨X364.heap.size, 1, none⟩ = some (.int .u8 (IntKind.u8.wrap (p.size : Int)))) := fun W' h => ⟨(h.cell (p := ⟨X364.heap.size, 0, none⟩) (by simp)).trans (by go_simp), (h.cell (p := ⟨X364.heap.size, 1, none⟩) (by simp)).trans (by go_simp)⟩
          have bO365 : Hid (Below X274.heap.size X274 (X364.alloc (.cells #[.int .u8 (IntKind.u8.wrap kk), .int .u8 (IntKind.u8.wrap (p.size : Int))] 5))) := bel_a bY364B.out _
          refine hK.out _ _ (HKS.out _ HZ365.out) (fun hH365 => ?_)
          clear hH364 hK K
          generalize X364.alloc (.cells #[.int .u8 (IntKind.u8.wrap kk), .int .u8 (IntKind.u8.wrap (p.size : Int))] 5) = X365 at *
          have bZ365 : Hid (Below X365.heap.size X365 X365) := Below.refl _ _
          refine wpAnyH_ready (rs := [7, 20]) (by kernel_rfl) (by simp) ?_
          refine AllReadyH.cons (o := { dst := some 15, op := Go.Op.convert 63 9 (Go.Operand.tmp 14), type := 9, pos := "l09_bytes.go:30", after := #[{ on := 6, ground := Go.Ground.data }], guard := none }) rfl (fun K hK => ?_) (AllReadyH.cons (o := { dst := some 28, op := Go.Op.convert 63 9 (Go.Operand.tmp 27), type := 9, pos := "l09_bytes.go:30", after := #[{ on := 19, ground := Go.Ground.data }], guard := none }) rfl (fun K hK => ?_) (AllReadyH.nil))
          · have r380 := kc1 _ _ (HA365.out _ bZ365.out).1 (HA365.out _ bZ365.out).2
            go_simp
            try go_wp2_with fail
            refine hK.out _ _ (HKS.out _ HZ365.out) (fun hH380 => ?_)
            clear hH365 hK K r380
            refine wpAnyH_take (i := 10) (oi := { dst := some 18, op := Go.Op.binOp Go.BinOp.add 9 (Go.Operand.tmp 15) (Go.Operand.tmp 17) 9, type := 9, pos := "l09_bytes.go:30", after := #[{ on := 7, ground := Go.Ground.data }, { on := 9, ground := Go.Ground.data }], guard := none }) (v := ?vt381) rfl (by kernel_rfl) (by kernel_rfl) (by kernel_rfl) (fun _ _ _ h => h) (Or.inl ⟨by rfl, ?yt381⟩) hH380 ?zt381
            case yt381 =>
              intro w hSw
              (try dsimp only at hSw)
              go_simp
              try with_reducible rfl
            simp only [Act.put, List.setIfInBounds_toArray, List.set_cons_zero, List.set_cons_succ]
            refine wpAnyH_take (i := 14) (oi := { dst := some 22, op := Go.Op.binOp Go.BinOp.add 9 (Go.Operand.tmp 18) (Go.Operand.tmp 21) 9, type := 9, pos := "l09_bytes.go:30", after := #[{ on := 10, ground := Go.Ground.data }, { on := 13, ground := Go.Ground.data }], guard := none }) (v := ?vt382) rfl (by kernel_rfl) (by kernel_rfl) (by kernel_rfl) (fun _ _ _ h => h) (Or.inl ⟨by rfl, ?yt382⟩) hH380 ?zt382
            case yt382 =>
              intro w hSw
              (try dsimp only at hSw)
              go_simp
              try with_reducible rfl
            simp only [Act.put, List.setIfInBounds_toArray, List.set_cons_zero, List.set_cons_succ]
            refine wpAnyH_ready (rs := [20]) (by kernel_rfl) (by simp) ?_
            refine AllReadyH.cons (o := { dst := some 28, op := Go.Op.convert 63 9 (Go.Operand.tmp 27), type := 9, pos := "l09_bytes.go:30", after := #[{ on := 19, ground := Go.Ground.data }], guard := none }) rfl (fun K hK => ?_) (AllReadyH.nil)
            · have r383 := kc2 _ _ (HB274.out _ bO365.out)
              go_simp
              try go_wp2_with fail
              refine hK.out _ _ (HKS.out _ HZ365.out) (fun hH383 => ?_)
              clear hH380 hK K r383
              refine wpAnyH_take (i := 21) (oi := { dst := some 29, op := Go.Op.binOp Go.BinOp.add 9 (Go.Operand.tmp 22) (Go.Operand.tmp 28) 9, type := 9, pos := "l09_bytes.go:30", after := #[{ on := 14, ground := Go.Ground.data }, { on := 20, ground := Go.Ground.data }], guard := none }) (v := ?vt384) rfl (by kernel_rfl) (by kernel_rfl) (by kernel_rfl) (fun _ _ _ h => h) (Or.inl ⟨by rfl, ?yt384⟩) hH383 ?zt384
              case yt384 =>
                intro w hSw
                (try dsimp only at hSw)
                go_simp
                try with_reducible rfl
              simp only [Act.put, List.setIfInBounds_toArray, List.set_cons_zero, List.set_cons_succ]
              refine wpAnyH_take (i := 24) (oi := { dst := some 32, op := Go.Op.binOp Go.BinOp.add 9 (Go.Operand.tmp 29) (Go.Operand.tmp 31) 9, type := 9, pos := "l09_bytes.go:30", after := #[{ on := 21, ground := Go.Ground.data }, { on := 23, ground := Go.Ground.data }], guard := none }) (v := ?vt385) rfl (by kernel_rfl) (by kernel_rfl) (by kernel_rfl) (fun _ _ _ h => h) (Or.inl ⟨by rfl, ?yt385⟩) hH383 ?zt385
              case yt385 =>
                intro w hSw
                (try dsimp only at hSw)
                go_simp
                try with_reducible rfl
              simp only [Act.put, List.setIfInBounds_toArray, List.set_cons_zero, List.set_cons_succ]
              refine wpAnyH_take (i := 25) (oi := { dst := some 2, op := Go.Op.assign (Go.Operand.tmp 32), type := 9, pos := "l09_bytes.go:30", after := #[{ on := 24, ground := Go.Ground.data }, { on := 13, ground := Go.Ground.chain }, { on := 0, ground := Go.Ground.phase }, { on := 1, ground := Go.Ground.phase }, { on := 2, ground := Go.Ground.phase }, { on := 3, ground := Go.Ground.phase }, { on := 4, ground := Go.Ground.phase }, { on := 5, ground := Go.Ground.phase }, { on := 6, ground := Go.Ground.phase }, { on := 7, ground := Go.Ground.phase }, { on := 8, ground := Go.Ground.phase }, { on := 9, ground := Go.Ground.phase }, { on := 10, ground := Go.Ground.phase }, { on := 11, ground := Go.Ground.phase }, { on := 12, ground := Go.Ground.phase }, { on := 13, ground := Go.Ground.phase }, { on := 14, ground := Go.Ground.phase }, { on := 15, ground := Go.Ground.phase }, { on := 16, ground := Go.Ground.phase }, { on := 17, ground := Go.Ground.phase }, { on := 18, ground := Go.Ground.phase }, { on := 19, ground := Go.Ground.phase }, { on := 20, ground := Go.Ground.phase }, { on := 21, ground := Go.Ground.phase }, { on := 22, ground := Go.Ground.phase }, { on := 23, ground := Go.Ground.phase }, { on := 24, ground := Go.Ground.phase }], guard := none }) (v := ?vt386) rfl (by kernel_rfl) (by kernel_rfl) (by kernel_rfl) (fun _ _ _ h => h) (Or.inl ⟨by rfl, ?yt386⟩) hH383 ?zt386
              case yt386 =>
                intro w hSw
                (try dsimp only at hSw)
                go_simp
                try with_reducible rfl
              simp only [Act.put, List.setIfInBounds_toArray, List.set_cons_zero, List.set_cons_succ]
              refine wpAnyH_done (by kernel_rfl) ?_ _
              go_wp2_with fail
              go_ret
              exact ⟨Q4, rfl, HEQ.out T HTT.out Q2 Q3 Q4 HQ2.out HQ3.out HQ4.out, eA.trans (HZ365.out.mono eA.size)⟩
          · have r387 := kc2 _ _ (HB274.out _ bO365.out)
            go_simp
            try go_wp2_with fail
            refine hK.out _ _ (HKS.out _ HZ365.out) (fun hH387 => ?_)
            clear hH365 hK K r387
            refine wpAnyH_ready (rs := [7]) (by kernel_rfl) (by simp) ?_
            refine AllReadyH.cons (o := { dst := some 15, op := Go.Op.convert 63 9 (Go.Operand.tmp 14), type := 9, pos := "l09_bytes.go:30", after := #[{ on := 6, ground := Go.Ground.data }], guard := none }) rfl (fun K hK => ?_) (AllReadyH.nil)
            · have r388 := kc1 _ _ (HA365.out _ bZ365.out).1 (HA365.out _ bZ365.out).2
              go_simp
              try go_wp2_with fail
              refine hK.out _ _ (HKS.out _ HZ365.out) (fun hH388 => ?_)
              clear hH387 hK K r388
              refine wpAnyH_take (i := 10) (oi := { dst := some 18, op := Go.Op.binOp Go.BinOp.add 9 (Go.Operand.tmp 15) (Go.Operand.tmp 17) 9, type := 9, pos := "l09_bytes.go:30", after := #[{ on := 7, ground := Go.Ground.data }, { on := 9, ground := Go.Ground.data }], guard := none }) (v := ?vt389) rfl (by kernel_rfl) (by kernel_rfl) (by kernel_rfl) (fun _ _ _ h => h) (Or.inl ⟨by rfl, ?yt389⟩) hH388 ?zt389
              case yt389 =>
                intro w hSw
                (try dsimp only at hSw)
                go_simp
                try with_reducible rfl
              simp only [Act.put, List.setIfInBounds_toArray, List.set_cons_zero, List.set_cons_succ]
              refine wpAnyH_take (i := 14) (oi := { dst := some 22, op := Go.Op.binOp Go.BinOp.add 9 (Go.Operand.tmp 18) (Go.Operand.tmp 21) 9, type := 9, pos := "l09_bytes.go:30", after := #[{ on := 10, ground := Go.Ground.data }, { on := 13, ground := Go.Ground.data }], guard := none }) (v := ?vt390) rfl (by kernel_rfl) (by kernel_rfl) (by kernel_rfl) (fun _ _ _ h => h) (Or.inl ⟨by rfl, ?yt390⟩) hH388 ?zt390
              case yt390 =>
                intro w hSw
                (try dsimp only at hSw)
                go_simp
                try with_reducible rfl
              simp only [Act.put, List.setIfInBounds_toArray, List.set_cons_zero, List.set_cons_succ]
              refine wpAnyH_take (i := 21) (oi := { dst := some 29, op := Go.Op.binOp Go.BinOp.add 9 (Go.Operand.tmp 22) (Go.Operand.tmp 28) 9, type := 9, pos := "l09_bytes.go:30", after := #[{ on := 14, ground := Go.Ground.data }, { on := 20, ground := Go.Ground.data }], guard := none }) (v := ?vt391) rfl (by kernel_rfl) (by kernel_rfl) (by kernel_rfl) (fun _ _ _ h => h) (Or.inl ⟨by rfl, ?yt391⟩) hH388 ?zt391
              case yt391 =>
                intro w hSw
                (try dsimp only at hSw)
                go_simp
                try with_reducible rfl
              simp only [Act.put, List.setIfInBounds_toArray, List.set_cons_zero, List.set_cons_succ]
              refine wpAnyH_take (i := 24) (oi := { dst := some 32, op := Go.Op.binOp Go.BinOp.add 9 (Go.Operand.tmp 29) (Go.Operand.tmp 31) 9, type := 9, pos := "l09_bytes.go:30", after := #[{ on := 21, ground := Go.Ground.data }, { on := 23, ground := Go.Ground.data }], guard := none }) (v := ?vt392) rfl (by kernel_rfl) (by kernel_rfl) (by kernel_rfl) (fun _ _ _ h => h) (Or.inl ⟨by rfl, ?yt392⟩) hH388 ?zt392
              case yt392 =>
                intro w hSw
                (try dsimp only at hSw)
                go_simp
                try with_reducible rfl
              simp only [Act.put, List.setIfInBounds_toArray, List.set_cons_zero, List.set_cons_succ]
              refine wpAnyH_take (i := 25) (oi := { dst := some 2, op := Go.Op.assign (Go.Operand.tmp 32), type := 9, pos := "l09_bytes.go:30", after := #[{ on := 24, ground := Go.Ground.data }, { on := 13, ground := Go.Ground.chain }, { on := 0, ground := Go.Ground.phase }, { on := 1, ground := Go.Ground.phase }, { on := 2, ground := Go.Ground.phase }, { on := 3, ground := Go.Ground.phase }, { on := 4, ground := Go.Ground.phase }, { on := 5, ground := Go.Ground.phase }, { on := 6, ground := Go.Ground.phase }, { on := 7, ground := Go.Ground.phase }, { on := 8, ground := Go.Ground.phase }, { on := 9, ground := Go.Ground.phase }, { on := 10, ground := Go.Ground.phase }, { on := 11, ground := Go.Ground.phase }, { on := 12, ground := Go.Ground.phase }, { on := 13, ground := Go.Ground.phase }, { on := 14, ground := Go.Ground.phase }, { on := 15, ground := Go.Ground.phase }, { on := 16, ground := Go.Ground.phase }, { on := 17, ground := Go.Ground.phase }, { on := 18, ground := Go.Ground.phase }, { on := 19, ground := Go.Ground.phase }, { on := 20, ground := Go.Ground.phase }, { on := 21, ground := Go.Ground.phase }, { on := 22, ground := Go.Ground.phase }, { on := 23, ground := Go.Ground.phase }, { on := 24, ground := Go.Ground.phase }], guard := none }) (v := ?vt393) rfl (by kernel_rfl) (by kernel_rfl) (by kernel_rfl) (fun _ _ _ h => h) (Or.inl ⟨by rfl, ?yt393⟩) hH388 ?zt393
              case yt393 =>
                intro w hSw
                (try dsimp only at hSw)
                go_simp
                try with_reducible rfl
              simp only [Act.put, List.setIfInBounds_toArray, List.set_cons_zero, List.set_cons_succ]
              refine wpAnyH_done (by kernel_rfl) ?_ _
              go_wp2_with fail
              go_ret
              exact ⟨Q4, rfl, HEQ.out T HTT.out Q2 Q3 Q4 HQ2.out HQ3.out HQ4.out, eA.trans (HZ365.out.mono eA.size)⟩
        · have r394 := kc2 _ _ (HB274.out _ bY364B.out)
          go_simp
          try go_wp2_with fail
          refine hK.out _ _ (HKS.out _ HZ364.out) (fun hH394 => ?_)
          clear hH364 hK K r394
          refine wpAnyH_ready (rs := [6]) (by kernel_rfl) (by simp) ?_
          refine AllReadyH.cons (o := { dst := some 14, op := Go.Op.buildSlice 63 2 #[(0, Go.Operand.tmp 9), (1, Go.Operand.tmp 13)], type := 63, pos := "l09_bytes.go:30", after := #[{ on := 1, ground := Go.Ground.data }, { on := 5, ground := Go.Ground.data }], guard := none }) rfl (fun K hK => ?_) (AllReadyH.nil)
          · go_simp
            try go_wp2_with fail
            have HZ395 : Hid (Below W.heap.size W (X364.alloc (.cells #[.int .u8 (IntKind.u8.wrap kk), .int .u8 (IntKind.u8.wrap (p.size : Int))] 5))) := bel_a HZ364.out _
            have HA395 : Hid (∀ W', Below (X364.alloc (.cells #[.int .u8 (IntKind.u8.wrap kk), .int .u8 (IntKind.u8.wrap (p.size : Int))] 5)).heap.size (X364.alloc (.cells #[.int .u8 (IntKind.u8.wrap kk), .int .u8 (IntKind.u8.wrap (p.size : Int))] 5)) W' → W'.cell? ⟨X364.heap.size, 0, none⟩ = some (.int .u8 (IntKind.u8.wrap kk)) ∧ W'.cell? ⟨X364.heap.size, 1, none⟩ = some (.int .u8 (IntKind.u8.wrap (p.size : Int)))) := fun W' h => ⟨(h.cell (p := ⟨X364.heap.size, 0, none⟩) (by simp)).trans (by go_simp), (h.cell (p := ⟨X364.heap.size, 1, none⟩) (by simp)).trans (by go_simp)⟩
            have bO395 : Hid (Below X274.heap.size X274 (X364.alloc (.cells #[.int .u8 (IntKind.u8.wrap kk), .int .u8 (IntKind.u8.wrap (p.size : Int))] 5))) := bel_a bY364B.out _
            refine hK.out _ _ (HKS.out _ HZ395.out) (fun hH395 => ?_)
            clear hH394 hK K
            generalize X364.alloc (.cells #[.int .u8 (IntKind.u8.wrap kk), .int .u8 (IntKind.u8.wrap (p.size : Int))] 5) = X395 at *
            have bZ395 : Hid (Below X395.heap.size X395 X395) := Below.refl _ _
            refine wpAnyH_ready (rs := [7]) (by kernel_rfl) (by simp) ?_
            refine AllReadyH.cons (o := { dst := some 15, op := Go.Op.convert 63 9 (Go.Operand.tmp 14), type := 9, pos := "l09_bytes.go:30", after := #[{ on := 6, ground := Go.Ground.data }], guard := none }) rfl (fun K hK => ?_) (AllReadyH.nil)
            · have r402 := kc1 _ _ (HA395.out _ bZ395.out).1 (HA395.out _ bZ395.out).2
              go_simp
              try go_wp2_with fail
              refine hK.out _ _ (HKS.out _ HZ395.out) (fun hH402 => ?_)
              clear hH395 hK K r402
              refine wpAnyH_take (i := 10) (oi := { dst := some 18, op := Go.Op.binOp Go.BinOp.add 9 (Go.Operand.tmp 15) (Go.Operand.tmp 17) 9, type := 9, pos := "l09_bytes.go:30", after := #[{ on := 7, ground := Go.Ground.data }, { on := 9, ground := Go.Ground.data }], guard := none }) (v := ?vt403) rfl (by kernel_rfl) (by kernel_rfl) (by kernel_rfl) (fun _ _ _ h => h) (Or.inl ⟨by rfl, ?yt403⟩) hH402 ?zt403
              case yt403 =>
                intro w hSw
                (try dsimp only at hSw)
                go_simp
                try with_reducible rfl
              simp only [Act.put, List.setIfInBounds_toArray, List.set_cons_zero, List.set_cons_succ]
              refine wpAnyH_take (i := 14) (oi := { dst := some 22, op := Go.Op.binOp Go.BinOp.add 9 (Go.Operand.tmp 18) (Go.Operand.tmp 21) 9, type := 9, pos := "l09_bytes.go:30", after := #[{ on := 10, ground := Go.Ground.data }, { on := 13, ground := Go.Ground.data }], guard := none }) (v := ?vt404) rfl (by kernel_rfl) (by kernel_rfl) (by kernel_rfl) (fun _ _ _ h => h) (Or.inl ⟨by rfl, ?yt404⟩) hH402 ?zt404
              case yt404 =>
                intro w hSw
                (try dsimp only at hSw)
                go_simp
                try with_reducible rfl
              simp only [Act.put, List.setIfInBounds_toArray, List.set_cons_zero, List.set_cons_succ]
              refine wpAnyH_take (i := 21) (oi := { dst := some 29, op := Go.Op.binOp Go.BinOp.add 9 (Go.Operand.tmp 22) (Go.Operand.tmp 28) 9, type := 9, pos := "l09_bytes.go:30", after := #[{ on := 14, ground := Go.Ground.data }, { on := 20, ground := Go.Ground.data }], guard := none }) (v := ?vt405) rfl (by kernel_rfl) (by kernel_rfl) (by kernel_rfl) (fun _ _ _ h => h) (Or.inl ⟨by rfl, ?yt405⟩) hH402 ?zt405
              case yt405 =>
                intro w hSw
                (try dsimp only at hSw)
                go_simp
                try with_reducible rfl
              simp only [Act.put, List.setIfInBounds_toArray, List.set_cons_zero, List.set_cons_succ]
              refine wpAnyH_take (i := 24) (oi := { dst := some 32, op := Go.Op.binOp Go.BinOp.add 9 (Go.Operand.tmp 29) (Go.Operand.tmp 31) 9, type := 9, pos := "l09_bytes.go:30", after := #[{ on := 21, ground := Go.Ground.data }, { on := 23, ground := Go.Ground.data }], guard := none }) (v := ?vt406) rfl (by kernel_rfl) (by kernel_rfl) (by kernel_rfl) (fun _ _ _ h => h) (Or.inl ⟨by rfl, ?yt406⟩) hH402 ?zt406
              case yt406 =>
                intro w hSw
                (try dsimp only at hSw)
                go_simp
                try with_reducible rfl
              simp only [Act.put, List.setIfInBounds_toArray, List.set_cons_zero, List.set_cons_succ]
              refine wpAnyH_take (i := 25) (oi := { dst := some 2, op := Go.Op.assign (Go.Operand.tmp 32), type := 9, pos := "l09_bytes.go:30", after := #[{ on := 24, ground := Go.Ground.data }, { on := 13, ground := Go.Ground.chain }, { on := 0, ground := Go.Ground.phase }, { on := 1, ground := Go.Ground.phase }, { on := 2, ground := Go.Ground.phase }, { on := 3, ground := Go.Ground.phase }, { on := 4, ground := Go.Ground.phase }, { on := 5, ground := Go.Ground.phase }, { on := 6, ground := Go.Ground.phase }, { on := 7, ground := Go.Ground.phase }, { on := 8, ground := Go.Ground.phase }, { on := 9, ground := Go.Ground.phase }, { on := 10, ground := Go.Ground.phase }, { on := 11, ground := Go.Ground.phase }, { on := 12, ground := Go.Ground.phase }, { on := 13, ground := Go.Ground.phase }, { on := 14, ground := Go.Ground.phase }, { on := 15, ground := Go.Ground.phase }, { on := 16, ground := Go.Ground.phase }, { on := 17, ground := Go.Ground.phase }, { on := 18, ground := Go.Ground.phase }, { on := 19, ground := Go.Ground.phase }, { on := 20, ground := Go.Ground.phase }, { on := 21, ground := Go.Ground.phase }, { on := 22, ground := Go.Ground.phase }, { on := 23, ground := Go.Ground.phase }, { on := 24, ground := Go.Ground.phase }], guard := none }) (v := ?vt407) rfl (by kernel_rfl) (by kernel_rfl) (by kernel_rfl) (fun _ _ _ h => h) (Or.inl ⟨by rfl, ?yt407⟩) hH402 ?zt407
              case yt407 =>
                intro w hSw
                (try dsimp only at hSw)
                go_simp
                try with_reducible rfl
              simp only [Act.put, List.setIfInBounds_toArray, List.set_cons_zero, List.set_cons_succ]
              refine wpAnyH_done (by kernel_rfl) ?_ _
              go_wp2_with fail
              go_ret
              exact ⟨Q4, rfl, HEQ.out T HTT.out Q2 Q3 Q4 HQ2.out HQ3.out HQ4.out, eA.trans (HZ395.out.mono eA.size)⟩
      · have r408 := kc2 _ _ (HB274.out _ bZ274.out)
        go_simp
        try go_wp2_with fail
        refine hK.out _ _ (HKS.out _ HZ274.out) (fun hH408 => ?_)
        clear hH274 hK K r408
        refine wpAnyH_ready (rs := [6, 13]) (by kernel_rfl) (by simp) ?_
        refine AllReadyH.cons (o := { dst := some 14, op := Go.Op.buildSlice 63 2 #[(0, Go.Operand.tmp 9), (1, Go.Operand.tmp 13)], type := 63, pos := "l09_bytes.go:30", after := #[{ on := 1, ground := Go.Ground.data }, { on := 5, ground := Go.Ground.data }], guard := none }) rfl (fun K hK => ?_) (AllReadyH.cons (o := { dst := some 21, op := Go.Op.call { callee := Go.Callee.value (Go.Operand.func 44), args := #[Go.Operand.tmp 20], argTypes := #[3] }, type := 9, pos := "l09_bytes.go:30", after := #[{ on := 12, ground := Go.Ground.data }], guard := none }) rfl (fun K hK => ?_) (AllReadyH.nil))
        · go_simp
          try go_wp2_with fail
          have HZ409 : Hid (Below W.heap.size W (X274.alloc (.cells #[.int .u8 (IntKind.u8.wrap kk), .int .u8 (IntKind.u8.wrap (p.size : Int))] 5))) := bel_a HZ274.out _
          have HA409 : Hid (∀ W', Below (X274.alloc (.cells #[.int .u8 (IntKind.u8.wrap kk), .int .u8 (IntKind.u8.wrap (p.size : Int))] 5)).heap.size (X274.alloc (.cells #[.int .u8 (IntKind.u8.wrap kk), .int .u8 (IntKind.u8.wrap (p.size : Int))] 5)) W' → W'.cell? ⟨X274.heap.size, 0, none⟩ = some (.int .u8 (IntKind.u8.wrap kk)) ∧ W'.cell? ⟨X274.heap.size, 1, none⟩ = some (.int .u8 (IntKind.u8.wrap (p.size : Int)))) := fun W' h => ⟨(h.cell (p := ⟨X274.heap.size, 0, none⟩) (by simp)).trans (by go_simp), (h.cell (p := ⟨X274.heap.size, 1, none⟩) (by simp)).trans (by go_simp)⟩
          have bO409 : Hid (Below X274.heap.size X274 (X274.alloc (.cells #[.int .u8 (IntKind.u8.wrap kk), .int .u8 (IntKind.u8.wrap (p.size : Int))] 5))) := bel_a bZ274.out _
          refine hK.out _ _ (HKS.out _ HZ409.out) (fun hH409 => ?_)
          clear hH408 hK K
          generalize X274.alloc (.cells #[.int .u8 (IntKind.u8.wrap kk), .int .u8 (IntKind.u8.wrap (p.size : Int))] 5) = X409 at *
          have bZ409 : Hid (Below X409.heap.size X409 X409) := Below.refl _ _
          refine wpAnyH_ready (rs := [7, 13]) (by kernel_rfl) (by simp) ?_
          refine AllReadyH.cons (o := { dst := some 15, op := Go.Op.convert 63 9 (Go.Operand.tmp 14), type := 9, pos := "l09_bytes.go:30", after := #[{ on := 6, ground := Go.Ground.data }], guard := none }) rfl (fun K hK => ?_) (AllReadyH.cons (o := { dst := some 21, op := Go.Op.call { callee := Go.Callee.value (Go.Operand.func 44), args := #[Go.Operand.tmp 20], argTypes := #[3] }, type := 9, pos := "l09_bytes.go:30", after := #[{ on := 12, ground := Go.Ground.data }], guard := none }) rfl (fun K hK => ?_) (AllReadyH.nil))
          · have r424 := kc1 _ _ (HA409.out _ bZ409.out).1 (HA409.out _ bZ409.out).2
            go_simp
            try go_wp2_with fail
            refine hK.out _ _ (HKS.out _ HZ409.out) (fun hH424 => ?_)
            clear hH409 hK K r424
            refine wpAnyH_take (i := 10) (oi := { dst := some 18, op := Go.Op.binOp Go.BinOp.add 9 (Go.Operand.tmp 15) (Go.Operand.tmp 17) 9, type := 9, pos := "l09_bytes.go:30", after := #[{ on := 7, ground := Go.Ground.data }, { on := 9, ground := Go.Ground.data }], guard := none }) (v := ?vt425) rfl (by kernel_rfl) (by kernel_rfl) (by kernel_rfl) (fun _ _ _ h => h) (Or.inl ⟨by rfl, ?yt425⟩) hH424 ?zt425
            case yt425 =>
              intro w hSw
              (try dsimp only at hSw)
              go_simp
              try with_reducible rfl
            simp only [Act.put, List.setIfInBounds_toArray, List.set_cons_zero, List.set_cons_succ]
            refine wpAnyH_ready (rs := [13]) (by kernel_rfl) (by simp) ?_
            refine AllReadyH.cons (o := { dst := some 21, op := Go.Op.call { callee := Go.Callee.value (Go.Operand.func 44), args := #[Go.Operand.tmp 20], argTypes := #[3] }, type := 9, pos := "l09_bytes.go:30", after := #[{ on := 12, ground := Go.Ground.data }], guard := none }) rfl (fun K hK => ?_) (AllReadyH.nil)
            · go_simp
              refine (l09Two_any m _ hm0 hm1).mono ?_
              rintro e X426 ⟨T, rfl, hT, hTs, hb1⟩
              have HTT := Lib.hid hT
              have hz0 : T.size ≤ 2 := Nat.le_of_eq hTs
              obtain ⟨Q2, HQ2, hq2, kA2⟩ := glue_run Q1 T (by omega)
              obtain ⟨Q3, HQ3, hq3, kA3⟩ := glue_run Q2 S2 (by omega)
              obtain ⟨Q4, HQ4, hq4, kA4⟩ := glue_run Q3 b (by omega)
              clear hT hTs
              have HZ426 : Hid (Below W.heap.size W X426) := bel_t HZ409.out hb1
              have bY426A : Hid (Below X409.heap.size X409 X426) := bel_t bZ409.out hb1
              have bY426B : Hid (Below X274.heap.size X274 X426) := bel_t bO409.out hb1
              go_wp2_with fail
              refine hK.out _ _ (HKS.out _ HZ426.out) (fun hH426 => ?_)
              clear hH424 hK K hb1
              refine wpAnyH_take (i := 14) (oi := { dst := some 22, op := Go.Op.binOp Go.BinOp.add 9 (Go.Operand.tmp 18) (Go.Operand.tmp 21) 9, type := 9, pos := "l09_bytes.go:30", after := #[{ on := 10, ground := Go.Ground.data }, { on := 13, ground := Go.Ground.data }], guard := none }) (v := ?vt427) rfl (by kernel_rfl) (by kernel_rfl) (by kernel_rfl) (fun _ _ _ h => h) (Or.inl ⟨by rfl, ?yt427⟩) hH426 ?zt427
              case yt427 =>
                intro w hSw
                (try dsimp only at hSw)
                go_simp
                try with_reducible rfl
              simp only [Act.put, List.setIfInBounds_toArray, List.set_cons_zero, List.set_cons_succ]
              refine wpAnyH_take (i := 21) (oi := { dst := some 29, op := Go.Op.binOp Go.BinOp.add 9 (Go.Operand.tmp 22) (Go.Operand.tmp 28) 9, type := 9, pos := "l09_bytes.go:30", after := #[{ on := 14, ground := Go.Ground.data }, { on := 20, ground := Go.Ground.data }], guard := none }) (v := ?vt428) rfl (by kernel_rfl) (by kernel_rfl) (by kernel_rfl) (fun _ _ _ h => h) (Or.inl ⟨by rfl, ?yt428⟩) hH426 ?zt428
              case yt428 =>
                intro w hSw
                (try dsimp only at hSw)
                go_simp
                try with_reducible rfl
              simp only [Act.put, List.setIfInBounds_toArray, List.set_cons_zero, List.set_cons_succ]
              refine wpAnyH_take (i := 24) (oi := { dst := some 32, op := Go.Op.binOp Go.BinOp.add 9 (Go.Operand.tmp 29) (Go.Operand.tmp 31) 9, type := 9, pos := "l09_bytes.go:30", after := #[{ on := 21, ground := Go.Ground.data }, { on := 23, ground := Go.Ground.data }], guard := none }) (v := ?vt429) rfl (by kernel_rfl) (by kernel_rfl) (by kernel_rfl) (fun _ _ _ h => h) (Or.inl ⟨by rfl, ?yt429⟩) hH426 ?zt429
              case yt429 =>
                intro w hSw
                (try dsimp only at hSw)
                go_simp
                try with_reducible rfl
              simp only [Act.put, List.setIfInBounds_toArray, List.set_cons_zero, List.set_cons_succ]
              refine wpAnyH_take (i := 25) (oi := { dst := some 2, op := Go.Op.assign (Go.Operand.tmp 32), type := 9, pos := "l09_bytes.go:30", after := #[{ on := 24, ground := Go.Ground.data }, { on := 13, ground := Go.Ground.chain }, { on := 0, ground := Go.Ground.phase }, { on := 1, ground := Go.Ground.phase }, { on := 2, ground := Go.Ground.phase }, { on := 3, ground := Go.Ground.phase }, { on := 4, ground := Go.Ground.phase }, { on := 5, ground := Go.Ground.phase }, { on := 6, ground := Go.Ground.phase }, { on := 7, ground := Go.Ground.phase }, { on := 8, ground := Go.Ground.phase }, { on := 9, ground := Go.Ground.phase }, { on := 10, ground := Go.Ground.phase }, { on := 11, ground := Go.Ground.phase }, { on := 12, ground := Go.Ground.phase }, { on := 13, ground := Go.Ground.phase }, { on := 14, ground := Go.Ground.phase }, { on := 15, ground := Go.Ground.phase }, { on := 16, ground := Go.Ground.phase }, { on := 17, ground := Go.Ground.phase }, { on := 18, ground := Go.Ground.phase }, { on := 19, ground := Go.Ground.phase }, { on := 20, ground := Go.Ground.phase }, { on := 21, ground := Go.Ground.phase }, { on := 22, ground := Go.Ground.phase }, { on := 23, ground := Go.Ground.phase }, { on := 24, ground := Go.Ground.phase }], guard := none }) (v := ?vt430) rfl (by kernel_rfl) (by kernel_rfl) (by kernel_rfl) (fun _ _ _ h => h) (Or.inl ⟨by rfl, ?yt430⟩) hH426 ?zt430
              case yt430 =>
                intro w hSw
                (try dsimp only at hSw)
                go_simp
                try with_reducible rfl
              simp only [Act.put, List.setIfInBounds_toArray, List.set_cons_zero, List.set_cons_succ]
              refine wpAnyH_done (by kernel_rfl) ?_ _
              go_wp2_with fail
              go_ret
              exact ⟨Q4, rfl, HEQ.out T HTT.out Q2 Q3 Q4 HQ2.out HQ3.out HQ4.out, eA.trans (HZ426.out.mono eA.size)⟩
          · go_simp
            refine (l09Two_any m _ hm0 hm1).mono ?_
            rintro e X431 ⟨T, rfl, hT, hTs, hb1⟩
            have HTT := Lib.hid hT
            have hz0 : T.size ≤ 2 := Nat.le_of_eq hTs
            obtain ⟨Q2, HQ2, hq2, kA2⟩ := glue_run Q1 T (by omega)
            obtain ⟨Q3, HQ3, hq3, kA3⟩ := glue_run Q2 S2 (by omega)
            obtain ⟨Q4, HQ4, hq4, kA4⟩ := glue_run Q3 b (by omega)
            clear hT hTs
            have HZ431 : Hid (Below W.heap.size W X431) := bel_t HZ409.out hb1
            have bY431A : Hid (Below X409.heap.size X409 X431) := bel_t bZ409.out hb1
            have bY431B : Hid (Below X274.heap.size X274 X431) := bel_t bO409.out hb1
            go_wp2_with fail
            refine hK.out _ _ (HKS.out _ HZ431.out) (fun hH431 => ?_)
            clear hH409 hK K hb1
            refine wpAnyH_ready (rs := [7]) (by kernel_rfl) (by simp) ?_
            refine AllReadyH.cons (o := { dst := some 15, op := Go.Op.convert 63 9 (Go.Operand.tmp 14), type := 9, pos := "l09_bytes.go:30", after := #[{ on := 6, ground := Go.Ground.data }], guard := none }) rfl (fun K hK => ?_) (AllReadyH.nil)
            · have r432 := kc1 _ _ (HA409.out _ bY431A.out).1 (HA409.out _ bY431A.out).2
              go_simp
              try go_wp2_with fail
              refine hK.out _ _ (HKS.out _ HZ431.out) (fun hH432 => ?_)
              clear hH431 hK K r432
              refine wpAnyH_take (i := 10) (oi := { dst := some 18, op := Go.Op.binOp Go.BinOp.add 9 (Go.Operand.tmp 15) (Go.Operand.tmp 17) 9, type := 9, pos := "l09_bytes.go:30", after := #[{ on := 7, ground := Go.Ground.data }, { on := 9, ground := Go.Ground.data }], guard := none }) (v := ?vt433) rfl (by kernel_rfl) (by kernel_rfl) (by kernel_rfl) (fun _ _ _ h => h) (Or.inl ⟨by rfl, ?yt433⟩) hH432 ?zt433
              case yt433 =>
                intro w hSw
                (try dsimp only at hSw)
                go_simp
                try with_reducible rfl
              simp only [Act.put, List.setIfInBounds_toArray, List.set_cons_zero, List.set_cons_succ]
              refine wpAnyH_take (i := 14) (oi := { dst := some 22, op := Go.Op.binOp Go.BinOp.add 9 (Go.Operand.tmp 18) (Go.Operand.tmp 21) 9, type := 9, pos := "l09_bytes.go:30", after := #[{ on := 10, ground := Go.Ground.data }, { on := 13, ground := Go.Ground.data }], guard := none }) (v := ?vt434) rfl (by kernel_rfl) (by kernel_rfl) (by kernel_rfl) (fun _ _ _ h => h) (Or.inl ⟨by rfl, ?yt434⟩) hH432 ?zt434
              case yt434 =>
                intro w hSw
                (try dsimp only at hSw)
                go_simp
                try with_reducible rfl
              simp only [Act.put, List.setIfInBounds_toArray, List.set_cons_zero, List.set_cons_succ]
              refine wpAnyH_take (i := 21) (oi := { dst := some 29, op := Go.Op.binOp Go.BinOp.add 9 (Go.Operand.tmp 22) (Go.Operand.tmp 28) 9, type := 9, pos := "l09_bytes.go:30", after := #[{ on := 14, ground := Go.Ground.data }, { on := 20, ground := Go.Ground.data }], guard := none }) (v := ?vt435) rfl (by kernel_rfl) (by kernel_rfl) (by kernel_rfl) (fun _ _ _ h => h) (Or.inl ⟨by rfl, ?yt435⟩) hH432 ?zt435
              case yt435 =>
                intro w hSw
                (try dsimp only at hSw)
                go_simp
                try with_reducible rfl
              simp only [Act.put, List.setIfInBounds_toArray, List.set_cons_zero, List.set_cons_succ]
              refine wpAnyH_take (i := 24) (oi := { dst := some 32, op := Go.Op.binOp Go.BinOp.add 9 (Go.Operand.tmp 29) (Go.Operand.tmp 31) 9, type := 9, pos := "l09_bytes.go:30", after := #[{ on := 21, ground := Go.Ground.data }, { on := 23, ground := Go.Ground.data }], guard := none }) (v := ?vt436) rfl (by kernel_rfl) (by kernel_rfl) (by kernel_rfl) (fun _ _ _ h => h) (Or.inl ⟨by rfl, ?yt436⟩) hH432 ?zt436
              case yt436 =>
                intro w hSw
                (try dsimp only at hSw)
                go_simp
                try with_reducible rfl
              simp only [Act.put, List.setIfInBounds_toArray, List.set_cons_zero, List.set_cons_succ]
              refine wpAnyH_take (i := 25) (oi := { dst := some 2, op := Go.Op.assign (Go.Operand.tmp 32), type := 9, pos := "l09_bytes.go:30", after := #[{ on := 24, ground := Go.Ground.data }, { on := 13, ground := Go.Ground.chain }, { on := 0, ground := Go.Ground.phase }, { on := 1, ground := Go.Ground.phase }, { on := 2, ground := Go.Ground.phase }, { on := 3, ground := Go.Ground.phase }, { on := 4, ground := Go.Ground.phase }, { on := 5, ground := Go.Ground.phase }, { on := 6, ground := Go.Ground.phase }, { on := 7, ground := Go.Ground.phase }, { on := 8, ground := Go.Ground.phase }, { on := 9, ground := Go.Ground.phase }, { on := 10, ground := Go.Ground.phase }, { on := 11, ground := Go.Ground.phase }, { on := 12, ground := Go.Ground.phase }, { on := 13, ground := Go.Ground.phase }, { on := 14, ground := Go.Ground.phase }, { on := 15, ground := Go.Ground.phase }, { on := 16, ground := Go.Ground.phase }, { on := 17, ground := Go.Ground.phase }, { on := 18, ground := Go.Ground.phase }, { on := 19, ground := Go.Ground.phase }, { on := 20, ground := Go.Ground.phase }, { on := 21, ground := Go.Ground.phase }, { on := 22, ground := Go.Ground.phase }, { on := 23, ground := Go.Ground.phase }, { on := 24, ground := Go.Ground.phase }], guard := none }) (v := ?vt437) rfl (by kernel_rfl) (by kernel_rfl) (by kernel_rfl) (fun _ _ _ h => h) (Or.inl ⟨by rfl, ?yt437⟩) hH432 ?zt437
              case yt437 =>
                intro w hSw
                (try dsimp only at hSw)
                go_simp
                try with_reducible rfl
              simp only [Act.put, List.setIfInBounds_toArray, List.set_cons_zero, List.set_cons_succ]
              refine wpAnyH_done (by kernel_rfl) ?_ _
              go_wp2_with fail
              go_ret
              exact ⟨Q4, rfl, HEQ.out T HTT.out Q2 Q3 Q4 HQ2.out HQ3.out HQ4.out, eA.trans (HZ431.out.mono eA.size)⟩
        · go_simp
          refine (l09Two_any m _ hm0 hm1).mono ?_
          rintro e X438 ⟨T, rfl, hT, hTs, hb1⟩
          have HTT := Lib.hid hT
          have hz0 : T.size ≤ 2 := Nat.le_of_eq hTs
          obtain ⟨Q2, HQ2, hq2, kA2⟩ := glue_run Q1 T (by omega)
          obtain ⟨Q3, HQ3, hq3, kA3⟩ := glue_run Q2 S2 (by omega)
          obtain ⟨Q4, HQ4, hq4, kA4⟩ := glue_run Q3 b (by omega)
          clear hT hTs
          have HZ438 : Hid (Below W.heap.size W X438) := bel_t HZ274.out hb1
          have bY438B : Hid (Below X274.heap.size X274 X438) := bel_t bZ274.out hb1
          go_wp2_with fail
          refine hK.out _ _ (HKS.out _ HZ438.out) (fun hH438 => ?_)
          clear hH408 hK K hb1
          refine wpAnyH_ready (rs := [6]) (by kernel_rfl) (by simp) ?_
          refine AllReadyH.cons (o := { dst := some 14, op := Go.Op.buildSlice 63 2 #[(0, Go.Operand.tmp 9), (1, Go.Operand.tmp 13)], type := 63, pos := "l09_bytes.go:30", after := #[{ on := 1, ground := Go.Ground.data }, { on := 5, ground := Go.Ground.data }], guard := none }) rfl (fun K hK => ?_) (AllReadyH.nil)
          · go_simp
            try go_wp2_with fail
            have HZ439 : Hid (Below W.heap.size W (X438.alloc (.cells #[.int .u8 (IntKind.u8.wrap kk), .int .u8 (IntKind.u8.wrap (p.size : Int))] 5))) := bel_a HZ438.out _
            have HA439 : Hid (∀ W', Below (X438.alloc (.cells #[.int .u8 (IntKind.u8.wrap kk), .int .u8 (IntKind.u8.wrap (p.size : Int))] 5)).heap.size (X438.alloc (.cells #[.int .u8 (IntKind.u8.wrap kk), .int .u8 (IntKind.u8.wrap (p.size : Int))] 5)) W' → W'.cell? ⟨X438.heap.size, 0, none⟩ = some (.int .u8 (IntKind.u8.wrap kk)) ∧ W'.cell? ⟨X438.heap.size, 1, none⟩ = some (.int .u8 (IntKind.u8.wrap (p.size : Int)))) := fun W' h => ⟨(h.cell (p := ⟨X438.heap.size, 0, none⟩) (by simp)).trans (by go_simp), (h.cell (p := ⟨X438.heap.size, 1, none⟩) (by simp)).trans (by go_simp)⟩
            have bO439 : Hid (Below X274.heap.size X274 (X438.alloc (.cells #[.int .u8 (IntKind.u8.wrap kk), .int .u8 (IntKind.u8.wrap (p.size : Int))] 5))) := bel_a bY438B.out _
            refine hK.out _ _ (HKS.out _ HZ439.out) (fun hH439 => ?_)
            clear hH438 hK K
            generalize X438.alloc (.cells #[.int .u8 (IntKind.u8.wrap kk), .int .u8 (IntKind.u8.wrap (p.size : Int))] 5) = X439 at *
            have bZ439 : Hid (Below X439.heap.size X439 X439) := Below.refl _ _
            refine wpAnyH_ready (rs := [7]) (by kernel_rfl) (by simp) ?_
            refine AllReadyH.cons (o := { dst := some 15, op := Go.Op.convert 63 9 (Go.Operand.tmp 14), type := 9, pos := "l09_bytes.go:30", after := #[{ on := 6, ground := Go.Ground.data }], guard := none }) rfl (fun K hK => ?_) (AllReadyH.nil)
            · have r446 := kc1 _ _ (HA439.out _ bZ439.out).1 (HA439.out _ bZ439.out).2
              go_simp
              try go_wp2_with fail
              refine hK.out _ _ (HKS.out _ HZ439.out) (fun hH446 => ?_)
              clear hH439 hK K r446
              refine wpAnyH_take (i := 10) (oi := { dst := some 18, op := Go.Op.binOp Go.BinOp.add 9 (Go.Operand.tmp 15) (Go.Operand.tmp 17) 9, type := 9, pos := "l09_bytes.go:30", after := #[{ on := 7, ground := Go.Ground.data }, { on := 9, ground := Go.Ground.data }], guard := none }) (v := ?vt447) rfl (by kernel_rfl) (by kernel_rfl) (by kernel_rfl) (fun _ _ _ h => h) (Or.inl ⟨by rfl, ?yt447⟩) hH446 ?zt447
              case yt447 =>
                intro w hSw
                (try dsimp only at hSw)
                go_simp
                try with_reducible rfl
              simp only [Act.put, List.setIfInBounds_toArray, List.set_cons_zero, List.set_cons_succ]
              refine wpAnyH_take (i := 14) (oi := { dst := some 22, op := Go.Op.binOp Go.BinOp.add 9 (Go.Operand.tmp 18) (Go.Operand.tmp 21) 9, type := 9, pos := "l09_bytes.go:30", after := #[{ on := 10, ground := Go.Ground.data }, { on := 13, ground := Go.Ground.data }], guard := none }) (v := ?vt448) rfl (by kernel_rfl) (by kernel_rfl) (by kernel_rfl) (fun _ _ _ h => h) (Or.inl ⟨by rfl, ?yt448⟩) hH446 ?zt448
              case yt448 =>
                intro w hSw
                (try dsimp only at hSw)
                go_simp
                try with_reducible rfl
              simp only [Act.put, List.setIfInBounds_toArray, List.set_cons_zero, List.set_cons_succ]
              refine wpAnyH_take (i := 21) (oi := { dst := some 29, op := Go.Op.binOp Go.BinOp.add 9 (Go.Operand.tmp 22) (Go.Operand.tmp 28) 9, type := 9, pos := "l09_bytes.go:30", after := #[{ on := 14, ground := Go.Ground.data }, { on := 20, ground := Go.Ground.data }], guard := none }) (v := ?vt449) rfl (by kernel_rfl) (by kernel_rfl) (by kernel_rfl) (fun _ _ _ h => h) (Or.inl ⟨by rfl, ?yt449⟩) hH446 ?zt449
              case yt449 =>
                intro w hSw
                (try dsimp only at hSw)
                go_simp
                try with_reducible rfl
              simp only [Act.put, List.setIfInBounds_toArray, List.set_cons_zero, List.set_cons_succ]
              refine wpAnyH_take (i := 24) (oi := { dst := some 32, op := Go.Op.binOp Go.BinOp.add 9 (Go.Operand.tmp 29) (Go.Operand.tmp 31) 9, type := 9, pos := "l09_bytes.go:30", after := #[{ on := 21, ground := Go.Ground.data }, { on := 23, ground := Go.Ground.data }], guard := none }) (v := ?vt450) rfl (by kernel_rfl) (by kernel_rfl) (by kernel_rfl) (fun _ _ _ h => h) (Or.inl ⟨by rfl, ?yt450⟩) hH446 ?zt450
              case yt450 =>
                intro w hSw
                (try dsimp only at hSw)
                go_simp
                try with_reducible rfl
              simp only [Act.put, List.setIfInBounds_toArray, List.set_cons_zero, List.set_cons_succ]
              refine wpAnyH_take (i := 25) (oi := { dst := some 2, op := Go.Op.assign (Go.Operand.tmp 32), type := 9, pos := "l09_bytes.go:30", after := #[{ on := 24, ground := Go.Ground.data }, { on := 13, ground := Go.Ground.chain }, { on := 0, ground := Go.Ground.phase }, { on := 1, ground := Go.Ground.phase }, { on := 2, ground := Go.Ground.phase }, { on := 3, ground := Go.Ground.phase }, { on := 4, ground := Go.Ground.phase }, { on := 5, ground := Go.Ground.phase }, { on := 6, ground := Go.Ground.phase }, { on := 7, ground := Go.Ground.phase }, { on := 8, ground := Go.Ground.phase }, { on := 9, ground := Go.Ground.phase }, { on := 10, ground := Go.Ground.phase }, { on := 11, ground := Go.Ground.phase }, { on := 12, ground := Go.Ground.phase }, { on := 13, ground := Go.Ground.phase }, { on := 14, ground := Go.Ground.phase }, { on := 15, ground := Go.Ground.phase }, { on := 16, ground := Go.Ground.phase }, { on := 17, ground := Go.Ground.phase }, { on := 18, ground := Go.Ground.phase }, { on := 19, ground := Go.Ground.phase }, { on := 20, ground := Go.Ground.phase }, { on := 21, ground := Go.Ground.phase }, { on := 22, ground := Go.Ground.phase }, { on := 23, ground := Go.Ground.phase }, { on := 24, ground := Go.Ground.phase }], guard := none }) (v := ?vt451) rfl (by kernel_rfl) (by kernel_rfl) (by kernel_rfl) (fun _ _ _ h => h) (Or.inl ⟨by rfl, ?yt451⟩) hH446 ?zt451
              case yt451 =>
                intro w hSw
                (try dsimp only at hSw)
                go_simp
                try with_reducible rfl
              simp only [Act.put, List.setIfInBounds_toArray, List.set_cons_zero, List.set_cons_succ]
              refine wpAnyH_done (by kernel_rfl) ?_ _
              go_wp2_with fail
              go_ret
              exact ⟨Q4, rfl, HEQ.out T HTT.out Q2 Q3 Q4 HQ2.out HQ3.out HQ4.out, eA.trans (HZ439.out.mono eA.size)⟩
end Go.Proofs.YtciflchaepchiaaDoor.Recs
