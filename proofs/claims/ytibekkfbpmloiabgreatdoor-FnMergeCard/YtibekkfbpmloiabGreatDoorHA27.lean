/- Parts of several texts of mine in one file (each begins with its own remark). -/
import Derived.Test.YtibekkfbpmloiabGreatDoorHA1
import Derived.Test.YtibekkfbpmloiabGreatDoorHA10
import Derived.Test.YtibekkfbpmloiabGreatDoorHA12
import Derived.Test.YtibekkfbpmloiabGreatDoorHA13
import Derived.Test.YtibekkfbpmloiabGreatDoorHA15
import Derived.Test.YtibekkfbpmloiabGreatDoorHA16
import Derived.Test.YtibekkfbpmloiabGreatDoorHA2
import Derived.Test.YtibekkfbpmloiabGreatDoorHA20
import Derived.Test.YtibekkfbpmloiabGreatDoorHA26
import Derived.Test.YtibekkfbpmloiabGreatDoorHA3
import Derived.Test.YtibekkfbpmloiabGreatDoorHA4
import Derived.Test.YtibekkfbpmloiabGreatDoorHA6
import Derived.Test.YtibekkfbpmloiabGreatDoorHA8
import Derived.Test.YtibekkfbpmloiabGreatDoorHA9
import Derived.Test.YtibekkfbpmloiabGreatDoorChecked
import Derived.Test.YtibekkfbpmloiabGreatDoorRows
import Derived.Test.YtibekkfbpmloiabGreatDoorProg
import Derived.Test.YtibekkfbpmloiabGreatDoorShelf
import Derived.Deep.Cut
import Derived.Deep.CutRange
import Derived.Deep.CutBlock
import Derived.Deep.Slices
import Derived.OpenShut
import Derived.ShutString
import Derived.ChangeArms
import Derived.WideShapes
import Derived.Lib.LaidTab
import Derived.BigQuiet
import Derived.Deep.QuietTactic
import Derived.Deep.RegionHeld3
import Derived.StillTailTactics
import Derived.Deep.Draws
import Derived.Deep.LoopGhost
import Derived.WalkKit
import Derived.WalkSpells
import Derived.WalkSmall
import Derived.Lib.OthersKept
import Derived.Lib.Hide
import Derived.Lib.Strings
import Derived.Lib.Join
import Derived.Laws.OwnMore
import Derived.BigRegion
import Derived.Laws.BytesArg
import Derived.Deep.RegionWith
import Derived.OneCell
import Derived.Lib.SliceRun
import Derived.Lib.Overlaps
import Derived.Lib.AppendZerosOnto
import Derived.Laws.NewBlocks
import Derived.Laws.IdiomCopy
import Derived.Deep.RegionLaw
import Derived.ChangeVars
import Derived.Deep.DeepHandedRow
import Derived.LaidEql
import Derived.Stop.Asserts
import Derived.Below
import Derived.Stop.LaidErr
import Derived.Stop.LaidTwo
import Derived.WalkLawsBesides
/- The paths of a stack, of the model. -/
namespace Go.Proofs.YtibekkfbpmloiabGreatDoor.Recs
set_option maxRecDepth 100000
open Go.RowKit Paths

def vS (P : List ByteArray) : List Value := P.map Value.string
theorem vS_get {P : List ByteArray} {j : Nat} (h : j < P.length) : (vS P)[j]? = some (.string P[j]) := by unfold vS; rw [List.getElem?_map, List.getElem?_eq_getElem h]; rfl
def StrRow (w : World) (b : Nat) (x : Value) (P : List ByteArray) : Prop := w.ownsRow b 9 1 x P.length (vS P) ∧ ∃ g cap, x = .slice (some ⟨g, 0, none⟩) P.length cap ∧ b ≤ g ∧ g < w.heap.size ∧ P.length ≤ cap ∧ cap ≤ maxLen
theorem StrRow.below {w w' : World} {b : Nat} {x : Value} {P : List ByteArray} (h : StrRow w b x P) (hb : Below w.heap.size w w') : StrRow w' b x P := by
  obtain ⟨h1, g, cap, e, h2, h3, h4, h5⟩ := h
  exact ⟨own_below h1 hb, g, cap, e, h2, Nat.lt_of_lt_of_le h3 hb.size, h4, h5⟩
theorem vS_len (P : List ByteArray) : (vS P).length = P.length := List.length_map _
theorem vS_one (P : List ByteArray) : ∀ u ∈ vS P, u.oneCell' = true := fun u hu => by
  obtain ⟨x, _, rfl⟩ := List.mem_map.1 hu
  rfl
theorem srcS {w : World} {b g cap : Nat} {P : List ByteArray} (h : w.ownsRow b 9 1 (.slice (some ⟨g, 0, none⟩) P.length cap) P.length (vS P)) (i : Nat) (M : List ByteArray) (hm : M = P.drop i ∨ (i = 0 ∧ ∃ k, M = P.take k)) :
    ∀ j u, (vS M)[j]? = some u → w.cell? ((⟨g, i, none⟩ : Addr).add j) = some u := by
  intro j u hj
  rw [Addr.add_lit]
  have key : (vS P)[i + j]? = some u := by
    rcases hm with rfl | ⟨rfl, k, rfl⟩
    · unfold vS at hj ⊢
      rw [List.map_drop, List.getElem?_drop] at hj
      exact hj
    · unfold vS at hj ⊢
      rw [List.map_take, List.getElem?_take] at hj
      rw [Nat.zero_add]
      split at hj
      · exact hj
      · cases hj
  have hlt : i + j < P.length := by have := (List.getElem?_eq_some_iff.1 key).1; rw [vS_len] at this; exact this
  have := h.cellAt (i + j) (by omega)
  rw [key] at this
  exact this
theorem StrRow.of {w : World} {b m : Nat} {x : Value} {P : List ByteArray} {xs : List Value} (h : w.ownsRow b 9 1 x m xs) (hx : xs = vS P) (hm : m = P.length) (h0 : 0 < P.length) (hc : P.length ≤ 1000) : StrRow w b x P := by
  subst hx
  subst hm
  have hh := h
  rcases h.2 with ⟨_, hn⟩ | ⟨g, cap, cur, rfl, hb, hg, hcc, hcm, _⟩
  · omega
  · exact ⟨hh, g, cap, rfl, hb, (Array.getElem?_eq_some_iff.1 hg).1, hcc, hcm⟩
theorem step_append_ownS {P : Program} (w : World) {ops : Array Oper} {o : Oper} {a : Act} {K : Act → World → Prop} {Q : Exit → Act → World → Prop} {E : Prop} (hgd : o.guard = none) (s x : Operand) (t : TypeId)
    (ho : o.op = .call { callee := .builtin .append, args := #[s, x], argTypes := #[t, t] })
    (base : Nat) (e : TypeId) (i : TypeInfo) (z : Value) (size bytes : Nat) (ht : P.underlying t = some (.slice e)) (hi : P.info? e = some i) (hz : i.zero = some z)
    (hsize : i.size = size) (hby : i.bytes = bytes) (hzs : z.cells.size = size) (hsz : 0 < size)
    (v : Value) (n : Nat) (xs : List Value) (hs : a.eval s = v) (hown : w.ownsRow base e size v n xs)
    (ad : Addr) (m c : Nat) (news : List Value) (hx : a.eval x = .slice (some ad) m c) (hl : news.length = m * size) (hnews : ∀ j u, news[j]? = some u → w.cell? (ad.add j) = some u) (h1 : ∀ u ∈ news, u.oneCell' = true)
    (h63 : n + m ≤ maxLen) (hbytes : (n + m) * bytes ≤ 140737488355328) (hbase : base ≤ w.heap.size)
    (h : ∀ v' w', w'.ownsRow base e size v' (n + m) (xs ++ news) → w.grownBy w' v.ownBlock → (v' = .slice none 0 0 ↔ v = .slice none 0 0 ∧ m = 0) → K (a.put o.dst v') w') :
    if Region.wanted o (yielded ops a.tmps) = true then Oper.wp P o a w K Q else E := by
  have hw : Region.wanted o (yielded ops a.tmps) = true := by simp [Region.wanted, hgd]
  rw [if_pos hw]
  exact wp_append_own w s x t ho base e i z size bytes ht hi hz hsize hby hzs hsz v n xs hs hown ad m c news hx hl hnews h1 h63 hbytes hbase h
/-- The one string that is appended. -/
def ItemS (w : World) (g : Nat) (q : ByteArray) : Prop := w.heap[g]? = some (.cells #[.string q] 9 (0, 0))
theorem ItemS.lt {w : World} {g : Nat} {q : ByteArray} (h : ItemS w g q) : g < w.heap.size := (Array.getElem?_eq_some_iff.1 h).1
theorem ItemS.new (w : World) (q : ByteArray) : ItemS (w.alloc (.cells #[.string q] 9)) w.heap.size q := by
  show (w.heap.push _)[w.heap.size]? = some _
  exact Array.getElem?_push_size
theorem ItemS.below {w w' : World} {g : Nat} {q : ByteArray} (h : ItemS w g q) (hb : Below w.heap.size w w') : ItemS w' g q := (hb.block _ h.lt).trans h
theorem ItemS.grown {w w' : World} {g : Nat} {q : ByteArray} {row : Option Nat} (h : ItemS w g q) (hg : w.grownBy w' row) (hne : row ≠ some g) : ItemS w' g q := (hg.block g h.lt (fun e => hne e.symm)).trans h
theorem ItemS.cells {w : World} {g : Nat} {q : ByteArray} (h : ItemS w g q) : ∀ j u, [Value.string q][j]? = some u → w.cell? ((⟨g, 0, none⟩ : Addr).add j) = some u := by
  intro j u hj
  rw [Addr.add_lit, Nat.zero_add]
  unfold World.cell?
  unfold ItemS at h
  simp only [h]
  match j, hj with
  | 0, hj => cases hj; rfl
  | j + 1, hj => simp at hj
theorem to_sub (LL : List (List R)) (k j : Nat) : ((LL.take k).flatten ++ ((LL[k]?).getD []).take j).Sublist LL.flatten := by
  have e : LL.flatten = (LL.take k).flatten ++ (LL.drop k).flatten := by rw [← List.flatten_append, List.take_append_drop]
  rw [e]
  refine List.Sublist.append (List.Sublist.refl _) ?_
  cases h : LL[k]? with
  | none => simp
  | some l =>
    obtain ⟨hk, rfl⟩ := List.getElem?_eq_some_iff.1 h
    rw [List.drop_eq_getElem_cons hk, List.flatten_cons, Option.getD_some]
    exact (List.take_sublist ..).trans (List.sublist_append_left ..)
theorem to_le {LL : List (List R)} (h : ∀ l ∈ LL, l.length ≤ 16) (h5 : LL.length ≤ 5) {k j : Nat} : (pathsTo LL k j).length ≤ 80 := by
  have h1 := fold_len ((LL.take k).flatten ++ ((LL[k]?).getD []).take j) []
  have h2 := (to_sub LL k j).length_le
  have h3 := flat_16 h
  have h4 : (pathsTo LL k j).length ≤ ([] : List ByteArray).length + ((LL.take k).flatten ++ ((LL[k]?).getD []).take j).length := h1
  simp only [List.length_nil] at h4
  omega
theorem to_35 {LL : List (List R)} (h : ∀ l ∈ LL, layerOK l = true) {k j : Nat} : ∀ x ∈ pathsTo LL k j, x.size ≤ 35 := by
  intro x hx
  rcases ((fold_ins _ [] List.Pairwise.nil).2 x).1 hx with h0 | ⟨r, hr, rfl⟩
  · cases h0
  · obtain ⟨l, hl, hrl⟩ := List.mem_flatten.1 ((to_sub LL k j).mem hr)
    rw [Lib.size_eq]
    exact pathB_len (fault_path (layer_rec (h l hl) hrl)).1

set_option maxHeartbeats 6400000 in
theorem l07Paths_any (v : Value) (LL : List (List R)) (w : World) (h : StkSl w v LL) (hl : LL.length ≤ 5) (hok : ∀ l ∈ LL, layerOK l = true) :
    Calls Tryz.prog 93 #[v] w fun e w' => ∃ x, e = .returned x ∧ Below w.heap.size w w' ∧ StrRow w' w.heap.size x (pathsL LL) := by
  obtain ⟨i0, hi, hz0, hz1, hz2⟩ := info_parts strInfo
  have HP80 : Hid (∀ k j, (pathsTo LL k j).length ≤ 80) := fun k j => to_le (fun l hm => layer_len (hok l hm)) hl
  have HOK := Lib.hid hok
  have HSZ : Hid (∀ k j, ∀ x ∈ pathsTo LL k j, x.size ≤ 35) := fun k j => to_35 hok
  obtain ⟨A, cap, rfl, hcap, h⟩ := h
  have H := Lib.hid h
  clear h hok
  have HS0 : Hid (StrRow (w.alloc (.cells #[] 9)) w.heap.size (.slice (some ⟨w.heap.size, 0, none⟩) 0 0) (pathsTo LL 0 0)) := ⟨World.ownsRow_lit w #[] 0 (Nat.le_refl _) (Nat.zero_le _) rfl, w.heap.size, 0, rfl, Nat.le_refl _, by simp, Nat.le_refl _, Nat.zero_le _⟩
  have HB0 : Hid (Below w.heap.size w (w.alloc (.cells #[] 9))) := (Below.refl _ _).alloc (Nat.le_refl _) _
  go_enter Tryz.func93, Tryz.ntmps93
  go_wp2
  go_loopw [3, 4] (fun o i wr => ∃ k : Nat, k ≤ LL.length ∧ i = .int .i64 k ∧ Hid (StrRow wr w.heap.size o (pathsTo LL k 0)) ∧ Hid (Below w.heap.size w wr)) (fun _ i _ => LL.length - (intOf i).toNat)
  case atStart => exact ⟨0, by omega, rfl, HS0, HB0⟩
  case round =>
    obtain ⟨k, hk, rfl, HS, HB⟩ := hrel
    by_cases hlt : k < LL.length
    · obtain ⟨b, off, rfl, hb, hcell⟩ := H.out (by omega)
      obtain ⟨u, c0, hu⟩ := hcell k LL[k] (by simp [hlt])
      obtain ⟨sA, scap, rfl, _, hu⟩ := hu
      have HU := Lib.hid hu
      have hl16 : LL[k].length ≤ 16 := layer_len (HOK.out _ (List.getElem_mem hlt))
      have HC0 := Lib.hid c0
      have hi1 : (k : Int) < (LL.length : Int) := by omega
      have hi0 : (0 : Int) ≤ (k : Int) := by omega
      have HNX := Lib.hid (to_next hlt)
      have hszk := HB.out.size
      have HB' := HB
      clear hcell hu c0
      go_wp2
      go_loopw [3, 5] (fun o i wr => ∃ j : Nat, j ≤ LL[k].length ∧ i = .int .i64 j ∧ Hid (StrRow wr w.heap.size o (pathsTo LL k j)) ∧ Hid (Below w.heap.size w wr)) (fun _ i _ => LL[k].length - (intOf i).toNat)
      case atStart => exact ⟨0, by omega, rfl, HS, HB'⟩
      case round =>
        obtain ⟨j, hj, rfl, HS, HB⟩ := hrel
        have c0 := (HB.out.cell (p := ⟨b, off + k, none⟩) hb).trans HC0.out
        by_cases hjl : j < LL[k].length
        · obtain ⟨rb, ro, rfl, hrb, hrc⟩ := HU.out (by omega)
          obtain ⟨_, p1, _, _, _⟩ := (hrc j LL[k][j] (by simp [hjl])).below HB.out hrb
          have hj1 : (j : Int) < (LL[k].length : Int) := by omega
          have hj0 : (0 : Int) ≤ (j : Int) := by omega
          have hP80 := HP80.out k j
          have hsz := HSZ.out k j
          have HSTP := Lib.hid (to_step hlt hjl)
          have HUP := Lib.hid (to_ups LL k j)
          generalize hP : pathsTo LL k j = P at *
          obtain ⟨own, g, ocap, rfl, hg, hgl, hoc, hocm⟩ := HS.out
          have OWN := Lib.hid own
          have HS35 := Lib.hid hsz
          have hq35 : LL[k][j].p.size ≤ 35 := by rw [Lib.size_eq]; exact pathB_len (fault_path (layer_rec (HOK.out _ (List.getElem_mem hlt)) (List.getElem_mem hjl))).1
          generalize hQ : LL[k][j].p = q at *
          clear own hsz
          generalize hWJ : wr = W at *
          clear hWJ
          go_upto_block 4 with (fail)
          go_cut [7] from 34 to 69 (fun n wx => ∃ M : Nat, M ≤ P.length ∧ n = .int .i64 M ∧ Hid (insP q P = if 0 < M ∧ P[M - 1]? = some q then P else P.take M ++ [q] ++ P.drop M) ∧ Hid (Below W.heap.size W wx))
          case first =>
            go_wp2_with fail
            go_loopw [7] (fun n wq => ∃ m : Nat, m ≤ P.length ∧ n = .int .i64 m ∧ Hid (∀ i (hi : i < P.length), m ≤ i → lessQ q P[i] = true) ∧ Hid (Below W.heap.size W wq)) (fun n _ => (intOf n).toNat)
            case atStart => exact ⟨P.length, Nat.le_refl _, rfl, fun i hi h => absurd hi (by omega), Below.refl _ _⟩
            case round =>
              obtain ⟨m, hm, rfl, HLO, HBQ⟩ := hrel
              cases m with
              | zero =>
                have HI := Lib.hid (ins_back (n := 0) HUP.out (by omega) HLO.out (fun _ h => absurd h (by omega)))
                go_wp2_with fail
                go_meet
                exact ⟨0, Nat.zero_le _, rfl, HI.out, HBQ.out⟩
              | succ m =>
                have hml : m < P.length := by omega
                have pm : wr.cell? ⟨g, m, none⟩ = some (.string P[m]) := by
                  have := (own_below OWN.out HBQ.out).cellAt m (by omega)
                  rw [vS_get hml] at this
                  exact this
                have h35 := HS35.out _ (List.getElem_mem hml)
                have HLE := fun w' => l01Less_any q P[m] w' (by omega) (by omega)
                have hm1 : (m : Int) < (P.length : Int) := by omega
                have hm0 : (0 : Int) ≤ (m : Int) := by omega
                have hmp : (0 : Int) < (m : Int) + 1 := by omega
                rcases Bool.eq_false_or_eq_true (lessQ q P[m]) with hls | hls
                · have HLO2 : Hid (∀ i (hi : i < P.length), m ≤ i → lessQ q P[i] = true) := fun i hi h => by
                    by_cases e : i = m
                    · subst e; exact hls
                    · exact HLO.out i hi (by omega)
                  rw [show lessP (cutAt 47 q.data.toList) (cutAt 47 P[m].data.toList) = true from hls] at HLE
                  clear hls
                  go_wp2_with fail
                  refine (HLE _).mono ?_
                  rintro e w5 ⟨rfl, hb5⟩
                  go_wp2_with fail
                  exact ⟨⟨m, by omega, by go_num, HLO2, HBQ.out.trans (hb5.mono HBQ.out.size)⟩, by simp [intOf]⟩
                · have HNO := Lib.hid hls
                  have HI := Lib.hid (ins_back (n := m + 1) HUP.out (by omega) HLO.out (fun _ _ => HNO.out))
                  rw [show lessP (cutAt 47 q.data.toList) (cutAt 47 P[m].data.toList) = false from hls] at HLE
                  clear hls
                  go_wp2_with fail
                  refine (HLE _).mono ?_
                  rintro e w5 ⟨rfl, hb5⟩
                  go_wp2_with fail
                  go_meet
                  exact ⟨m + 1, by omega, by simp, HI.out, HBQ.out.trans (hb5.mono HBQ.out.size)⟩
          case rest =>
            obtain ⟨M, hM, rfl, HI, HBQ⟩ := hcut
            generalize hwq : wc = w4 at *
            clear hwq
            go_upto_region 12 with (fail)
            go_cut [57] from 47 to 69 (fun s wx => ∃ b : Bool, s = .bool b ∧ Hid (b = true → insP q P = P.take M ++ [q] ++ P.drop M) ∧ Hid (b = false → insP q P = P) ∧ Hid (Below W.heap.size W wx))
            case first =>
              cases M with
              | zero =>
                go_wp2_with fail
                go_meet
                exact ⟨true, rfl, fun _ => by rw [HI.out, if_neg (fun h => absurd h.1 (by omega))], fun h => (by cases h), HBQ.out⟩
              | succ m =>
                have hml : m < P.length := by omega
                have pm : w4.cell? ⟨g, m, none⟩ = some (.string P[m]) := by
                  have := (own_below OWN.out HBQ.out).cellAt m (by omega)
                  rw [vS_get hml] at this
                  exact this
                have hm1 : (m : Int) < (P.length : Int) := by omega
                have hm0 : (0 : Int) ≤ (m : Int) := by omega
                have hmp : (0 : Int) < (m : Int) + 1 := by omega
                by_cases heq : P[m] = q
                · have hd : (P[m].toList == q.toList) = true := by rw [heq]; simp
                  have HE := Lib.hid heq
                  clear heq
                  go_wp2_with fail
                  go_meet
                  exact ⟨false, rfl, fun h => (by cases h), fun _ => by rw [HI.out, if_pos ⟨by omega, by rw [Nat.add_sub_cancel, List.getElem?_eq_getElem hml, HE.out]⟩], HBQ.out⟩
                · have hd : (P[m].toList == q.toList) = false := by rw [Bool.eq_false_iff]; exact fun e => heq (str_eq_of e)
                  have HE := Lib.hid heq
                  clear heq
                  go_wp2_with fail
                  go_meet
                  exact ⟨true, rfl, fun _ => by rw [HI.out, if_neg (fun h => HE.out (by have := h.2; rw [Nat.add_sub_cancel, List.getElem?_eq_getElem hml] at this; exact Option.some.inj this))], fun h => (by cases h), HBQ.out⟩
            case rest =>
              obtain ⟨bb, rfl, HBT, HBF, HBQ5⟩ := hcut
              generalize hwq : wc = w5 at *
              clear hwq HI
              cases bb with
              | false =>
                have HIP := Lib.hid (HBF.out rfl)
                go_wp2_with fail
                exact ⟨⟨j + 1, by omega, by go_num, by show StrRow _ _ _ _; rw [HSTP.out, HIP.out]; exact HS.out.below HBQ5.out, HB.out.trans (HBQ5.out.mono HB.out.size)⟩, by simp [intOf]; omega⟩
              | true =>
                have HR : Hid (pathsTo LL k (j + 1) = P.take M ++ [q] ++ P.drop M) := by show _ = _; rw [HSTP.out]; exact HBT.out rfl
                have hi3 : (0 : Int) ≤ (M : Int) := by omega
                have hi4 : (M : Int) ≤ (ocap : Int) := by omega
                have hi5 : (M : Int) ≤ (P.length : Int) := by omega
                obtain ⟨ad, cc, HADC, HADE, HADN⟩ : ∃ (ad : Addr) (cc : Nat), Hid (∀ W2, Below W.heap.size W W2 → ∀ j u, (vS (P.drop M))[j]? = some u → W2.cell? (ad.add j) = some u) ∧ Hid (ocap = M → ad = ⟨g, 0, none⟩ ∧ cc = 0 ∧ P.length = M) ∧ Hid (ocap ≠ M → ad = ⟨g, M, none⟩ ∧ cc = ocap - M) := by
                  by_cases hcc : ocap = M
                  · exact ⟨⟨g, 0, none⟩, 0, fun W2 _ j u hj => by rw [List.drop_eq_nil_of_le (by omega)] at hj; simp [vS] at hj, fun _ => ⟨rfl, rfl, by omega⟩, fun h => absurd hcc h⟩
                  · exact ⟨⟨g, M, none⟩, ocap - M, fun W2 hb => srcS (own_below OWN.out hb) M _ (.inl rfl), fun h => absurd h hcc, fun _ => ⟨rfl, rfl⟩⟩
                clear HBT HBF
                go_wp2_with fail
                have HKS : Hid (∀ w', Below W.heap.size W w' → True) := fun _ _ => trivial
                have HZ : Hid (Below W.heap.size W w5.drew) := HBQ5.out.drew
                have HL1 : Hid ((vS (P.take (M))).length = (M) * 1) := by show _ = _; rw [vS_len, List.length_take]; omega
                have HL2 : Hid ((vS (P.drop (M))).length = (P.length - M) * 1) := by show _ = _; rw [vS_len, List.length_drop]; omega
                have HRET : Hid (∀ x w', Below W.heap.size W w' → w'.ownsRow W.heap.size 9 1 x (M + 1 + (P.length - M)) (vS (P.take (M)) ++ [.string q] ++ vS (P.drop (M))) → Hid (StrRow w' w.heap.size x (pathsTo LL k (j + 1))) ∧ Hid (Below w.heap.size w w')) := fun x w' hb ho => by
                  have hPL : (P.take (M) ++ [q] ++ P.drop (M)).length = M + 1 + (P.length - M) := by simp; omega
                  refine ⟨?_, HB.out.trans (hb.mono HB.out.size)⟩
                  show StrRow _ _ _ _
                  rw [HR.out]
                  exact StrRow.of (own_down ho HB.out.size) (by unfold vS; rw [List.map_append, List.map_append]; rfl) hPL.symm (by omega) (by omega)
                refine wp_region_held_drew (S := fun _ => True) (by kernel_rfl) trivial (fun hHeld => ?_)
                refine wpAnyH_take (i := 1) (oi := { dst := some 59, op := Go.Op.move (Go.Operand.tmp 3), type := 32, pos := "l07_merge.go:16", after := #[], guard := none }) (v := ?vb1) rfl (by kernel_rfl) (by kernel_rfl) (by kernel_rfl) (fun _ _ _ h => h) (Or.inl ⟨by rfl, ?yb1⟩) hHeld ?zb1
                case yb1 =>
                  intro w hSw
                  (try dsimp only at hSw)
                  go_simp
                  try with_reducible rfl
                simp only [Act.put, List.setIfInBounds_toArray, List.set_cons_zero, List.set_cons_succ]
                refine wpAnyH_take (i := 2) (oi := { dst := some 60, op := Go.Op.move (Go.Operand.tmp 7), type := 3, pos := "l07_merge.go:16", after := #[], guard := none }) (v := ?vb2) rfl (by kernel_rfl) (by kernel_rfl) (by kernel_rfl) (fun _ _ _ h => h) (Or.inl ⟨by rfl, ?yb2⟩) hHeld ?zb2
                case yb2 =>
                  intro w hSw
                  (try dsimp only at hSw)
                  go_simp
                  try with_reducible rfl
                simp only [Act.put, List.setIfInBounds_toArray, List.set_cons_zero, List.set_cons_succ]
                refine wpAnyH_take (i := 3) (oi := { dst := some 61, op := Go.Op.slice 32 (Go.Operand.tmp 59) none (some (Go.Operand.tmp 60)) none, type := 32, pos := "l07_merge.go:16", after := #[{ on := 1, ground := Go.Ground.data }, { on := 2, ground := Go.Ground.data }], guard := none }) (v := ?vb3) rfl (by kernel_rfl) (by kernel_rfl) (by kernel_rfl) (fun _ _ _ h => h) (Or.inl ⟨by rfl, ?yb3⟩) hHeld ?zb3
                case yb3 =>
                  intro w hSw
                  (try dsimp only at hSw)
                  go_simp
                  try with_reducible rfl
                simp only [Act.put, List.setIfInBounds_toArray, List.set_cons_zero, List.set_cons_succ]
                refine wpAnyH_take (i := 5) (oi := { dst := some 63, op := Go.Op.move (Go.Operand.tmp 6), type := 9, pos := "l07_merge.go:16", after := #[], guard := none }) (v := ?vb5) rfl (by kernel_rfl) (by kernel_rfl) (by kernel_rfl) (fun _ _ _ h => h) (Or.inl ⟨by rfl, ?yb5⟩) hHeld ?zb5
                case yb5 =>
                  intro w hSw
                  (try dsimp only at hSw)
                  go_simp
                  try with_reducible rfl
                simp only [Act.put, List.setIfInBounds_toArray, List.set_cons_zero, List.set_cons_succ]
                refine wpAnyH_take (i := 8) (oi := { dst := some 66, op := Go.Op.move (Go.Operand.tmp 3), type := 32, pos := "l07_merge.go:16", after := #[], guard := none }) (v := ?vb8) rfl (by kernel_rfl) (by kernel_rfl) (by kernel_rfl) (fun _ _ _ h => h) (Or.inl ⟨by rfl, ?yb8⟩) hHeld ?zb8
                case yb8 =>
                  intro w hSw
                  (try dsimp only at hSw)
                  go_simp
                  try with_reducible rfl
                simp only [Act.put, List.setIfInBounds_toArray, List.set_cons_zero, List.set_cons_succ]
                refine wpAnyH_take (i := 9) (oi := { dst := some 67, op := Go.Op.move (Go.Operand.tmp 7), type := 3, pos := "l07_merge.go:16", after := #[], guard := none }) (v := ?vb9) rfl (by kernel_rfl) (by kernel_rfl) (by kernel_rfl) (fun _ _ _ h => h) (Or.inl ⟨by rfl, ?yb9⟩) hHeld ?zb9
                case yb9 =>
                  intro w hSw
                  (try dsimp only at hSw)
                  go_simp
                  try with_reducible rfl
                simp only [Act.put, List.setIfInBounds_toArray, List.set_cons_zero, List.set_cons_succ]
                refine wpAnyH_take (i := 10) (oi := { dst := some 68, op := Go.Op.slice 32 (Go.Operand.tmp 66) (some (Go.Operand.tmp 67)) none none, type := 32, pos := "l07_merge.go:16", after := #[{ on := 8, ground := Go.Ground.data }, { on := 9, ground := Go.Ground.data }], guard := none }) (v := .slice (some ad) (P.length - M) cc) rfl (by kernel_rfl) (by kernel_rfl) (by kernel_rfl) (fun _ _ _ h => h) (Or.inl ⟨by rfl, ?yb10⟩) hHeld ?zb10
                case yb10 =>
                  intro w hSw
                  by_cases hcc : ocap = M
                  · obtain ⟨rfl, rfl, hPM⟩ := HADE.out hcc
                    clear HADC HADE HADN
                    subst hcc
                    go_simp
                    done
                  · obtain ⟨rfl, rfl⟩ := HADN.out hcc
                    clear HADC HADE HADN
                    go_simp
                    done
                simp only [Act.put, List.setIfInBounds_toArray, List.set_cons_zero, List.set_cons_succ]
                generalize w5.drew = u0 at *
                refine wpAnyH_ready (rs := [0, 6]) (by kernel_rfl) (by simp) ?_
                refine (AllReadyH.cons (o := { dst := some 58, op := Go.Op.buildSlice 32 0 #[], type := 32, pos := "l07_merge.go:16", after := #[], guard := none }) rfl (fun K hK => ?_) (AllReadyH.cons (o := { dst := some 64, op := Go.Op.buildSlice 32 1 #[(0, Go.Operand.tmp 63)], type := 32, pos := "l07_merge.go:16", after := #[{ on := 5, ground := Go.Ground.data }], guard := none }) rfl (fun K hK => ?_) AllReadyH.nil))
                · go_simp
                  have HZn : Hid (Below W.heap.size W (u0.alloc (.cells #[] 9))) := HZ.out.alloc HZ.out.size _
                  have HBn : Below u0.heap.size u0 (u0.alloc (.cells #[] 9)) := (Below.refl _ _).alloc (Nat.le_refl _) _
                  have R0 : Hid ((u0.alloc (.cells #[] 9)).ownsRow W.heap.size 9 1 (.slice (some ⟨u0.heap.size, 0, none⟩) 0 0) 0 []) := World.ownsRow_lit u0 #[] 0 HZ.out.size (Nat.zero_le _) rfl
                  refine hK.out _ _ (HKS.out _ HZn.out) (fun hHeld => ?_)
                  replace HZ := HZn
                  clear hK K HZn HBn
                  generalize u0.alloc (.cells #[] 9) = u1 at *
                  generalize u0.heap.size = g0 at *
                  refine wpAnyH_ready (rs := [4, 6]) (by kernel_rfl) (by simp) ?_
                  refine (AllReadyH.cons (o := { dst := some 62, op := Go.Op.call { callee := Go.Callee.builtin Go.Builtin.append, args := #[Go.Operand.tmp 58, Go.Operand.tmp 61], argTypes := #[32, 32] }, type := 32, pos := "l07_merge.go:16", after := #[{ on := 0, ground := Go.Ground.data }, { on := 3, ground := Go.Ground.data }], guard := none }) rfl (fun K hK => ?_) (AllReadyH.cons (o := { dst := some 64, op := Go.Op.buildSlice 32 1 #[(0, Go.Operand.tmp 63)], type := 32, pos := "l07_merge.go:16", after := #[{ on := 5, ground := Go.Ground.data }], guard := none }) rfl (fun K hK => ?_) AllReadyH.nil))
                  · refine step_append_ownS _ (by rfl) (.tmp 58) (.tmp 61) 32 (by rfl) W.heap.size 9 i0 (.string ByteArray.empty) 1 16 Tryz.underlying32 hi hz0 hz1 hz2 rfl (by decide) (.slice (some ⟨g0, 0, none⟩) 0 0) 0 [] (by simp [Act.eval] <;> omega) R0.out ⟨g, 0, none⟩ (M) ocap (vS (P.take (M))) (by simp [Act.eval] <;> omega) HL1.out (srcS (own_below OWN.out HZ.out) 0 _ (.inr ⟨rfl, (M), rfl⟩)) (vS_one _) (by unfold maxLen; omega) (by omega) HZ.out.size ?_
                    intro s62 u2 R4x G4 _
                    have R4 : Hid (u2.ownsRow W.heap.size 9 1 s62 (M) (vS (P.take (M)))) := by have := R4x; rw [Nat.zero_add, List.nil_append] at this; exact this
                    have HZn : Hid (Below W.heap.size W u2) := HZ.out.grown G4 HZ.out.size (fun j hj => (R0.out.lt j hj).1)
                    simp only [Act.put, List.setIfInBounds_toArray, List.set_cons_zero, List.set_cons_succ]
                    refine hK.out _ _ (HKS.out _ HZn.out) (fun hHeld => ?_)
                    replace HZ := HZn
                    clear hK K HZn R4x G4 R0
                    refine wpAnyH_ready (rs := [6]) (by kernel_rfl) (by simp) ?_
                    refine (AllReadyH.cons (o := { dst := some 64, op := Go.Op.buildSlice 32 1 #[(0, Go.Operand.tmp 63)], type := 32, pos := "l07_merge.go:16", after := #[{ on := 5, ground := Go.Ground.data }], guard := none }) rfl (fun K hK => ?_) AllReadyH.nil)
                    go_simp
                    have HZn : Hid (Below W.heap.size W (u2.alloc (.cells #[.string q] 9))) := HZ.out.alloc HZ.out.size _
                    have HBn : Below u2.heap.size u2 (u2.alloc (.cells #[.string q] 9)) := (Below.refl _ _).alloc (Nat.le_refl _) _
                    have IT : Hid (ItemS (u2.alloc (.cells #[.string q] 9)) u2.heap.size q) := ItemS.new u2 q
                    replace R4 := Lib.hid (own_below R4.out HBn)
                    refine hK.out _ _ (HKS.out _ HZn.out) (fun hHeld => ?_)
                    replace HZ := HZn
                    clear hK K HZn HBn
                    generalize u2.alloc (.cells #[.string q] 9) = u3 at *
                    generalize u2.heap.size = gi at *
                    refine wpAnyH_ready (rs := [7]) (by kernel_rfl) (by simp) ?_
                    refine (AllReadyH.cons (o := { dst := some 65, op := Go.Op.call { callee := Go.Callee.builtin Go.Builtin.append, args := #[Go.Operand.tmp 62, Go.Operand.tmp 64], argTypes := #[32, 32] }, type := 32, pos := "l07_merge.go:16", after := #[{ on := 4, ground := Go.Ground.data }, { on := 6, ground := Go.Ground.data }, { on := 4, ground := Go.Ground.chain }], guard := none }) rfl (fun K hK => ?_) AllReadyH.nil)
                    refine step_append_ownS _ (by rfl) (.tmp 62) (.tmp 64) 32 (by rfl) W.heap.size 9 i0 (.string ByteArray.empty) 1 16 Tryz.underlying32 hi hz0 hz1 hz2 rfl (by decide) s62 (M) (vS (P.take (M))) (by simp [Act.eval] <;> omega) R4.out ⟨gi, 0, none⟩ 1 1 [.string q] (by simp [Act.eval] <;> omega) rfl IT.out.cells (fun x hx => by rw [List.mem_singleton.1 hx]; rfl) (by unfold maxLen; omega) (by omega) HZ.out.size ?_
                    intro s65 u4 R7x G7 N7
                    have R7 := Lib.hid R7x
                    have HZn : Hid (Below W.heap.size W u4) := HZ.out.grown G7 HZ.out.size (fun j hj => (R4.out.lt j hj).1)
                    simp only [Act.put, List.setIfInBounds_toArray, List.set_cons_zero, List.set_cons_succ]
                    refine hK.out _ _ (HKS.out _ HZn.out) (fun hHeld => ?_)
                    replace HZ := HZn
                    clear hK K HZn R7x G7 N7 R4 IT
                    refine wpAnyH_ready (rs := [11]) (by kernel_rfl) (by simp) ?_
                    refine (AllReadyH.cons (o := { dst := some 69, op := Go.Op.call { callee := Go.Callee.builtin Go.Builtin.append, args := #[Go.Operand.tmp 65, Go.Operand.tmp 68], argTypes := #[32, 32] }, type := 32, pos := "l07_merge.go:16", after := #[{ on := 7, ground := Go.Ground.data }, { on := 10, ground := Go.Ground.data }, { on := 7, ground := Go.Ground.chain }], guard := none }) rfl (fun K hK => ?_) AllReadyH.nil)
                    refine step_append_ownS _ (by rfl) (.tmp 65) (.tmp 68) 32 (by rfl) W.heap.size 9 i0 (.string ByteArray.empty) 1 16 Tryz.underlying32 hi hz0 hz1 hz2 rfl (by decide) s65 (M + 1) (vS (P.take (M)) ++ [.string q]) (by simp [Act.eval] <;> omega) R7.out ad (P.length - M) cc (vS (P.drop (M))) (by simp [Act.eval] <;> omega) HL2.out (HADC.out _ HZ.out) (vS_one _) (by unfold maxLen; omega) (by omega) HZ.out.size ?_
                    intro s69 u5 R9x G9 N9
                    have HF := Lib.hid (HRET.out s69 u5 (HZ.out.grown G9 HZ.out.size (fun j hj => (R7.out.lt j hj).1)) R9x)
                    have HZn : Hid (Below W.heap.size W u5) := HZ.out.grown G9 HZ.out.size (fun j hj => (R7.out.lt j hj).1)
                    simp only [Act.put, List.setIfInBounds_toArray, List.set_cons_zero, List.set_cons_succ]
                    refine hK.out _ _ (HKS.out _ HZn.out) (fun hHeld => ?_)
                    replace HZ := HZn
                    clear hK K HZn R9x G9 N9 R7
                    refine wpAnyH_take (i := 12) (oi := { dst := some 3, op := Go.Op.assign (Go.Operand.tmp 69), type := 32, pos := "l07_merge.go:16", after := #[{ on := 11, ground := Go.Ground.data }, { on := 11, ground := Go.Ground.chain }, { on := 0, ground := Go.Ground.phase }, { on := 1, ground := Go.Ground.phase }, { on := 2, ground := Go.Ground.phase }, { on := 3, ground := Go.Ground.phase }, { on := 4, ground := Go.Ground.phase }, { on := 5, ground := Go.Ground.phase }, { on := 6, ground := Go.Ground.phase }, { on := 7, ground := Go.Ground.phase }, { on := 8, ground := Go.Ground.phase }, { on := 9, ground := Go.Ground.phase }, { on := 10, ground := Go.Ground.phase }, { on := 11, ground := Go.Ground.phase }], guard := none }) (v := ?vbx1q12) rfl (by kernel_rfl) (by kernel_rfl) (by kernel_rfl) (fun _ _ _ h => h) (Or.inl ⟨by rfl, ?ybx1q12⟩) hHeld ?zbx1q12
                    case ybx1q12 =>
                      intro w hSw
                      (try dsimp only at hSw)
                      go_simp
                      try with_reducible rfl
                    simp only [Act.put, List.setIfInBounds_toArray, List.set_cons_zero, List.set_cons_succ]
                    refine wpAnyH_done (by kernel_rfl) ?_ _
                    go_wp2_with fail
                    exact ⟨⟨j + 1, by omega, by go_num, HF.out.1, HF.out.2⟩, by simp [intOf]; omega⟩
                  · go_simp
                    have HZn : Hid (Below W.heap.size W (u1.alloc (.cells #[.string q] 9))) := HZ.out.alloc HZ.out.size _
                    have HBn : Below u1.heap.size u1 (u1.alloc (.cells #[.string q] 9)) := (Below.refl _ _).alloc (Nat.le_refl _) _
                    have IT : Hid (ItemS (u1.alloc (.cells #[.string q] 9)) u1.heap.size q) := ItemS.new u1 q
                    have NE : Hid ((Value.slice (some ⟨g0, 0, none⟩) 0 0).ownBlock ≠ some u1.heap.size) := fun e => by have h2 := (R0.out.lt _ e).2; omega
                    replace R0 := Lib.hid (own_below R0.out HBn)
                    refine hK.out _ _ (HKS.out _ HZn.out) (fun hHeld => ?_)
                    replace HZ := HZn
                    clear hK K HZn HBn
                    generalize u1.alloc (.cells #[.string q] 9) = u2 at *
                    generalize u1.heap.size = gi at *
                    refine wpAnyH_ready (rs := [4]) (by kernel_rfl) (by simp) ?_
                    refine (AllReadyH.cons (o := { dst := some 62, op := Go.Op.call { callee := Go.Callee.builtin Go.Builtin.append, args := #[Go.Operand.tmp 58, Go.Operand.tmp 61], argTypes := #[32, 32] }, type := 32, pos := "l07_merge.go:16", after := #[{ on := 0, ground := Go.Ground.data }, { on := 3, ground := Go.Ground.data }], guard := none }) rfl (fun K hK => ?_) AllReadyH.nil)
                    refine step_append_ownS _ (by rfl) (.tmp 58) (.tmp 61) 32 (by rfl) W.heap.size 9 i0 (.string ByteArray.empty) 1 16 Tryz.underlying32 hi hz0 hz1 hz2 rfl (by decide) (.slice (some ⟨g0, 0, none⟩) 0 0) 0 [] (by simp [Act.eval] <;> omega) R0.out ⟨g, 0, none⟩ (M) ocap (vS (P.take (M))) (by simp [Act.eval] <;> omega) HL1.out (srcS (own_below OWN.out HZ.out) 0 _ (.inr ⟨rfl, (M), rfl⟩)) (vS_one _) (by unfold maxLen; omega) (by omega) HZ.out.size ?_
                    intro s62 u3 R4x G4 _
                    have R4 : Hid (u3.ownsRow W.heap.size 9 1 s62 (M) (vS (P.take (M)))) := by have := R4x; rw [Nat.zero_add, List.nil_append] at this; exact this
                    have HZn : Hid (Below W.heap.size W u3) := HZ.out.grown G4 HZ.out.size (fun j hj => (R0.out.lt j hj).1)
                    replace IT := Lib.hid (IT.out.grown G4 NE.out)
                    clear NE
                    simp only [Act.put, List.setIfInBounds_toArray, List.set_cons_zero, List.set_cons_succ]
                    refine hK.out _ _ (HKS.out _ HZn.out) (fun hHeld => ?_)
                    replace HZ := HZn
                    clear hK K HZn R4x G4 R0
                    refine wpAnyH_ready (rs := [7]) (by kernel_rfl) (by simp) ?_
                    refine (AllReadyH.cons (o := { dst := some 65, op := Go.Op.call { callee := Go.Callee.builtin Go.Builtin.append, args := #[Go.Operand.tmp 62, Go.Operand.tmp 64], argTypes := #[32, 32] }, type := 32, pos := "l07_merge.go:16", after := #[{ on := 4, ground := Go.Ground.data }, { on := 6, ground := Go.Ground.data }, { on := 4, ground := Go.Ground.chain }], guard := none }) rfl (fun K hK => ?_) AllReadyH.nil)
                    refine step_append_ownS _ (by rfl) (.tmp 62) (.tmp 64) 32 (by rfl) W.heap.size 9 i0 (.string ByteArray.empty) 1 16 Tryz.underlying32 hi hz0 hz1 hz2 rfl (by decide) s62 (M) (vS (P.take (M))) (by simp [Act.eval] <;> omega) R4.out ⟨gi, 0, none⟩ 1 1 [.string q] (by simp [Act.eval] <;> omega) rfl IT.out.cells (fun x hx => by rw [List.mem_singleton.1 hx]; rfl) (by unfold maxLen; omega) (by omega) HZ.out.size ?_
                    intro s65 u4 R7x G7 N7
                    have R7 := Lib.hid R7x
                    have HZn : Hid (Below W.heap.size W u4) := HZ.out.grown G7 HZ.out.size (fun j hj => (R4.out.lt j hj).1)
                    simp only [Act.put, List.setIfInBounds_toArray, List.set_cons_zero, List.set_cons_succ]
                    refine hK.out _ _ (HKS.out _ HZn.out) (fun hHeld => ?_)
                    replace HZ := HZn
                    clear hK K HZn R7x G7 N7 R4 IT
                    refine wpAnyH_ready (rs := [11]) (by kernel_rfl) (by simp) ?_
                    refine (AllReadyH.cons (o := { dst := some 69, op := Go.Op.call { callee := Go.Callee.builtin Go.Builtin.append, args := #[Go.Operand.tmp 65, Go.Operand.tmp 68], argTypes := #[32, 32] }, type := 32, pos := "l07_merge.go:16", after := #[{ on := 7, ground := Go.Ground.data }, { on := 10, ground := Go.Ground.data }, { on := 7, ground := Go.Ground.chain }], guard := none }) rfl (fun K hK => ?_) AllReadyH.nil)
                    refine step_append_ownS _ (by rfl) (.tmp 65) (.tmp 68) 32 (by rfl) W.heap.size 9 i0 (.string ByteArray.empty) 1 16 Tryz.underlying32 hi hz0 hz1 hz2 rfl (by decide) s65 (M + 1) (vS (P.take (M)) ++ [.string q]) (by simp [Act.eval] <;> omega) R7.out ad (P.length - M) cc (vS (P.drop (M))) (by simp [Act.eval] <;> omega) HL2.out (HADC.out _ HZ.out) (vS_one _) (by unfold maxLen; omega) (by omega) HZ.out.size ?_
                    intro s69 u5 R9x G9 N9
                    have HF := Lib.hid (HRET.out s69 u5 (HZ.out.grown G9 HZ.out.size (fun j hj => (R7.out.lt j hj).1)) R9x)
                    have HZn : Hid (Below W.heap.size W u5) := HZ.out.grown G9 HZ.out.size (fun j hj => (R7.out.lt j hj).1)
                    simp only [Act.put, List.setIfInBounds_toArray, List.set_cons_zero, List.set_cons_succ]
                    refine hK.out _ _ (HKS.out _ HZn.out) (fun hHeld => ?_)
                    replace HZ := HZn
                    clear hK K HZn R9x G9 N9 R7
                    refine wpAnyH_take (i := 12) (oi := { dst := some 3, op := Go.Op.assign (Go.Operand.tmp 69), type := 32, pos := "l07_merge.go:16", after := #[{ on := 11, ground := Go.Ground.data }, { on := 11, ground := Go.Ground.chain }, { on := 0, ground := Go.Ground.phase }, { on := 1, ground := Go.Ground.phase }, { on := 2, ground := Go.Ground.phase }, { on := 3, ground := Go.Ground.phase }, { on := 4, ground := Go.Ground.phase }, { on := 5, ground := Go.Ground.phase }, { on := 6, ground := Go.Ground.phase }, { on := 7, ground := Go.Ground.phase }, { on := 8, ground := Go.Ground.phase }, { on := 9, ground := Go.Ground.phase }, { on := 10, ground := Go.Ground.phase }, { on := 11, ground := Go.Ground.phase }], guard := none }) (v := ?vbx2q12) rfl (by kernel_rfl) (by kernel_rfl) (by kernel_rfl) (fun _ _ _ h => h) (Or.inl ⟨by rfl, ?ybx2q12⟩) hHeld ?zbx2q12
                    case ybx2q12 =>
                      intro w hSw
                      (try dsimp only at hSw)
                      go_simp
                      try with_reducible rfl
                    simp only [Act.put, List.setIfInBounds_toArray, List.set_cons_zero, List.set_cons_succ]
                    refine wpAnyH_done (by kernel_rfl) ?_ _
                    go_wp2_with fail
                    exact ⟨⟨j + 1, by omega, by go_num, HF.out.1, HF.out.2⟩, by simp [intOf]; omega⟩
                · go_simp
                  have HZn : Hid (Below W.heap.size W (u0.alloc (.cells #[.string q] 9))) := HZ.out.alloc HZ.out.size _
                  have HBn : Below u0.heap.size u0 (u0.alloc (.cells #[.string q] 9)) := (Below.refl _ _).alloc (Nat.le_refl _) _
                  have IT : Hid (ItemS (u0.alloc (.cells #[.string q] 9)) u0.heap.size q) := ItemS.new u0 q
                  refine hK.out _ _ (HKS.out _ HZn.out) (fun hHeld => ?_)
                  replace HZ := HZn
                  clear hK K HZn HBn
                  generalize u0.alloc (.cells #[.string q] 9) = u1 at *
                  generalize u0.heap.size = gi at *
                  refine wpAnyH_ready (rs := [0]) (by kernel_rfl) (by simp) ?_
                  refine (AllReadyH.cons (o := { dst := some 58, op := Go.Op.buildSlice 32 0 #[], type := 32, pos := "l07_merge.go:16", after := #[], guard := none }) rfl (fun K hK => ?_) AllReadyH.nil)
                  go_simp
                  have HZn : Hid (Below W.heap.size W (u1.alloc (.cells #[] 9))) := HZ.out.alloc HZ.out.size _
                  have HBn : Below u1.heap.size u1 (u1.alloc (.cells #[] 9)) := (Below.refl _ _).alloc (Nat.le_refl _) _
                  have R0 : Hid ((u1.alloc (.cells #[] 9)).ownsRow W.heap.size 9 1 (.slice (some ⟨u1.heap.size, 0, none⟩) 0 0) 0 []) := World.ownsRow_lit u1 #[] 0 HZ.out.size (Nat.zero_le _) rfl
                  have NE : Hid ((Value.slice (some ⟨u1.heap.size, 0, none⟩) 0 0).ownBlock ≠ some gi) := fun e => by have h1 : u1.heap.size = gi := Option.some.inj e; have h2 := IT.out.lt; omega
                  replace IT := Lib.hid (IT.out.below HBn)
                  refine hK.out _ _ (HKS.out _ HZn.out) (fun hHeld => ?_)
                  replace HZ := HZn
                  clear hK K HZn HBn
                  generalize u1.alloc (.cells #[] 9) = u2 at *
                  generalize u1.heap.size = g0 at *
                  refine wpAnyH_ready (rs := [4]) (by kernel_rfl) (by simp) ?_
                  refine (AllReadyH.cons (o := { dst := some 62, op := Go.Op.call { callee := Go.Callee.builtin Go.Builtin.append, args := #[Go.Operand.tmp 58, Go.Operand.tmp 61], argTypes := #[32, 32] }, type := 32, pos := "l07_merge.go:16", after := #[{ on := 0, ground := Go.Ground.data }, { on := 3, ground := Go.Ground.data }], guard := none }) rfl (fun K hK => ?_) AllReadyH.nil)
                  refine step_append_ownS _ (by rfl) (.tmp 58) (.tmp 61) 32 (by rfl) W.heap.size 9 i0 (.string ByteArray.empty) 1 16 Tryz.underlying32 hi hz0 hz1 hz2 rfl (by decide) (.slice (some ⟨g0, 0, none⟩) 0 0) 0 [] (by simp [Act.eval] <;> omega) R0.out ⟨g, 0, none⟩ (M) ocap (vS (P.take (M))) (by simp [Act.eval] <;> omega) HL1.out (srcS (own_below OWN.out HZ.out) 0 _ (.inr ⟨rfl, (M), rfl⟩)) (vS_one _) (by unfold maxLen; omega) (by omega) HZ.out.size ?_
                  intro s62 u3 R4x G4 _
                  have R4 : Hid (u3.ownsRow W.heap.size 9 1 s62 (M) (vS (P.take (M)))) := by have := R4x; rw [Nat.zero_add, List.nil_append] at this; exact this
                  have HZn : Hid (Below W.heap.size W u3) := HZ.out.grown G4 HZ.out.size (fun j hj => (R0.out.lt j hj).1)
                  replace IT := Lib.hid (IT.out.grown G4 NE.out)
                  clear NE
                  simp only [Act.put, List.setIfInBounds_toArray, List.set_cons_zero, List.set_cons_succ]
                  refine hK.out _ _ (HKS.out _ HZn.out) (fun hHeld => ?_)
                  replace HZ := HZn
                  clear hK K HZn R4x G4 R0
                  refine wpAnyH_ready (rs := [7]) (by kernel_rfl) (by simp) ?_
                  refine (AllReadyH.cons (o := { dst := some 65, op := Go.Op.call { callee := Go.Callee.builtin Go.Builtin.append, args := #[Go.Operand.tmp 62, Go.Operand.tmp 64], argTypes := #[32, 32] }, type := 32, pos := "l07_merge.go:16", after := #[{ on := 4, ground := Go.Ground.data }, { on := 6, ground := Go.Ground.data }, { on := 4, ground := Go.Ground.chain }], guard := none }) rfl (fun K hK => ?_) AllReadyH.nil)
                  refine step_append_ownS _ (by rfl) (.tmp 62) (.tmp 64) 32 (by rfl) W.heap.size 9 i0 (.string ByteArray.empty) 1 16 Tryz.underlying32 hi hz0 hz1 hz2 rfl (by decide) s62 (M) (vS (P.take (M))) (by simp [Act.eval] <;> omega) R4.out ⟨gi, 0, none⟩ 1 1 [.string q] (by simp [Act.eval] <;> omega) rfl IT.out.cells (fun x hx => by rw [List.mem_singleton.1 hx]; rfl) (by unfold maxLen; omega) (by omega) HZ.out.size ?_
                  intro s65 u4 R7x G7 N7
                  have R7 := Lib.hid R7x
                  have HZn : Hid (Below W.heap.size W u4) := HZ.out.grown G7 HZ.out.size (fun j hj => (R4.out.lt j hj).1)
                  simp only [Act.put, List.setIfInBounds_toArray, List.set_cons_zero, List.set_cons_succ]
                  refine hK.out _ _ (HKS.out _ HZn.out) (fun hHeld => ?_)
                  replace HZ := HZn
                  clear hK K HZn R7x G7 N7 R4 IT
                  refine wpAnyH_ready (rs := [11]) (by kernel_rfl) (by simp) ?_
                  refine (AllReadyH.cons (o := { dst := some 69, op := Go.Op.call { callee := Go.Callee.builtin Go.Builtin.append, args := #[Go.Operand.tmp 65, Go.Operand.tmp 68], argTypes := #[32, 32] }, type := 32, pos := "l07_merge.go:16", after := #[{ on := 7, ground := Go.Ground.data }, { on := 10, ground := Go.Ground.data }, { on := 7, ground := Go.Ground.chain }], guard := none }) rfl (fun K hK => ?_) AllReadyH.nil)
                  refine step_append_ownS _ (by rfl) (.tmp 65) (.tmp 68) 32 (by rfl) W.heap.size 9 i0 (.string ByteArray.empty) 1 16 Tryz.underlying32 hi hz0 hz1 hz2 rfl (by decide) s65 (M + 1) (vS (P.take (M)) ++ [.string q]) (by simp [Act.eval] <;> omega) R7.out ad (P.length - M) cc (vS (P.drop (M))) (by simp [Act.eval] <;> omega) HL2.out (HADC.out _ HZ.out) (vS_one _) (by unfold maxLen; omega) (by omega) HZ.out.size ?_
                  intro s69 u5 R9x G9 N9
                  have HF := Lib.hid (HRET.out s69 u5 (HZ.out.grown G9 HZ.out.size (fun j hj => (R7.out.lt j hj).1)) R9x)
                  have HZn : Hid (Below W.heap.size W u5) := HZ.out.grown G9 HZ.out.size (fun j hj => (R7.out.lt j hj).1)
                  simp only [Act.put, List.setIfInBounds_toArray, List.set_cons_zero, List.set_cons_succ]
                  refine hK.out _ _ (HKS.out _ HZn.out) (fun hHeld => ?_)
                  replace HZ := HZn
                  clear hK K HZn R9x G9 N9 R7
                  refine wpAnyH_take (i := 12) (oi := { dst := some 3, op := Go.Op.assign (Go.Operand.tmp 69), type := 32, pos := "l07_merge.go:16", after := #[{ on := 11, ground := Go.Ground.data }, { on := 11, ground := Go.Ground.chain }, { on := 0, ground := Go.Ground.phase }, { on := 1, ground := Go.Ground.phase }, { on := 2, ground := Go.Ground.phase }, { on := 3, ground := Go.Ground.phase }, { on := 4, ground := Go.Ground.phase }, { on := 5, ground := Go.Ground.phase }, { on := 6, ground := Go.Ground.phase }, { on := 7, ground := Go.Ground.phase }, { on := 8, ground := Go.Ground.phase }, { on := 9, ground := Go.Ground.phase }, { on := 10, ground := Go.Ground.phase }, { on := 11, ground := Go.Ground.phase }], guard := none }) (v := ?vbx3q12) rfl (by kernel_rfl) (by kernel_rfl) (by kernel_rfl) (fun _ _ _ h => h) (Or.inl ⟨by rfl, ?ybx3q12⟩) hHeld ?zbx3q12
                  case ybx3q12 =>
                    intro w hSw
                    (try dsimp only at hSw)
                    go_simp
                    try with_reducible rfl
                  simp only [Act.put, List.setIfInBounds_toArray, List.set_cons_zero, List.set_cons_succ]
                  refine wpAnyH_done (by kernel_rfl) ?_ _
                  go_wp2_with fail
                  exact ⟨⟨j + 1, by omega, by go_num, HF.out.1, HF.out.2⟩, by simp [intOf]; omega⟩
        · have hjj : j = LL[k].length := by omega
          subst hjj
          have hs := HS.out
          rw [← HNX.out] at hs
          have HS2 := Lib.hid hs
          clear hs
          go_wp2_with fail
          exact ⟨⟨k + 1, by omega, by go_num, HS2, HB⟩, by simp [intOf]; omega⟩
    · have hkk : k = LL.length := by omega
      subst hkk
      have HS2 := HS.out
      rw [to_end] at HS2
      go_wp2
      go_ret
      exact ⟨_, rfl, HB.out, HS2⟩
end Go.Proofs.YtibekkfbpmloiabGreatDoor.Recs
