/- Bytes of numbers and sums of bytes, plain. -/
import Derived.WalkKit
import Derived.Lib.Strings
namespace Go.Proofs.Ytciflchaepchiaa.Recs
open Go.RowKit

/-- The lowest byte of a number. -/
def byI (n : Int) : UInt8 := UInt8.ofNat (n % 256).toNat
theorem byI_toNat (n : Int) : ((byI n).toNat : Int) = n % 256 := by
  unfold byI
  rw [UInt8.toNat_ofNat']
  omega
theorem byI_mod (n : Int) : byI (n % 256) = byI n := by unfold byI; rw [Int.emod_emod_of_dvd _ (by decide)]
theorem byI_of (b : UInt8) : byI (b.toNat : Int) = b := by
  apply UInt8.toNat_inj.1
  have h := byI_toNat (b.toNat : Int)
  have := b.toNat_lt
  omega
/-- Two bytes of a number, the higher one first. -/
def twoL (n : Int) : List UInt8 := [byI (n / 256), byI n]
theorem twoL_len (n : Int) : (twoL n).length = 2 := rfl

/-- The sum of bytes. -/
def sumL (l : List UInt8) : Nat := l.foldl (fun n b => (263 * n + b.toNat + 1) % 65521) 1
theorem sum_step {l : List UInt8} {k : Nat} (hk : k < l.length) : sumL (l.take (k + 1)) = (263 * sumL (l.take k) + l[k].toNat + 1) % 65521 := by
  unfold sumL
  rw [List.take_add_one, List.getElem?_eq_getElem hk, Option.toList_some, List.foldl_append]
  rfl
theorem sum_fold (l : List UInt8) : ∀ n : Nat, n < 65521 → l.foldl (fun n b => (263 * n + b.toNat + 1) % 65521) n < 65521 := by
  induction l with
  | nil => intro n h; exact h
  | cons b l ih => intro n _; rw [List.foldl_cons]; exact ih _ (Nat.mod_lt _ (by omega))
theorem sum_lt (l : List UInt8) : sumL l < 65521 := sum_fold l 1 (by omega)
/-- A text with its sum behind it. -/
def withSumL (l : List UInt8) : List UInt8 := l ++ twoL (sumL l)
theorem withSum_len (l : List UInt8) : (withSumL l).length = l.length + 2 := by unfold withSumL; rw [List.length_append, twoL_len]

end Go.Proofs.Ytciflchaepchiaa.Recs
