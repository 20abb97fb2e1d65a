/-
  Bits: Contracts of math/bits: Len64, LeadingZeros64 and Mul64.
-/
import Derived.Test.YtkkjkohmekbdbaaPk4
import Derived.Lib.BitFns
import Derived.Lib.Strings
import Derived.Lib.Slices
import Derived.Lib.Small
import Derived.Lib.Walk

namespace Go.Proofs.Ytkkjkohmekbdbaa
open Go.RowKit

theorem len_fold (n z : Int) (hn0 : 0 ≤ n) (hn1 : n ≤ 56) (h0 : 0 ≤ z) (h1 : z ≤ 255) : wrap64 (n + wrap64 (Lib.len8 z)) = n + (Lib.bitLen z.toNat : Int) := by
  have l := Lib.bitLen_le8' z h0 h1
  rw [Lib.len8_of z h0 h1]
  unfold wrap64
  omega
theorem len_fold0 (z : Int) (h0 : 0 ≤ z) (h1 : z ≤ 255) : wrap64 (wrap64 (Lib.len8 z)) = (Lib.bitLen z.toNat : Int) := by
  have l := Lib.bitLen_le8' z h0 h1
  rw [Lib.len8_of z h0 h1]
  unfold wrap64
  omega
theorem bitLen_zero : Lib.bitLen 0 = 0 := by decide +kernel
/-- What a bit length is. -/
theorem bitLen_spec : ∀ (k x : Nat), x < 2 ^ k → x < 2 ^ 64 → x < 2 ^ Lib.bitLen x ∧ (x ≠ 0 → 2 ^ (Lib.bitLen x - 1) ≤ x ∧ 0 < Lib.bitLen x)
  | 0, x, h, _ => by
    have : x = 0 := by simpa using h
    subst this
    rw [bitLen_zero]; simp
  | k + 1, x, h, hx => by
    by_cases h0 : x = 0
    · subst h0; rw [bitLen_zero]; simp
    · have hh := Lib.bitLen_half x h0 hx
      obtain ⟨a, b⟩ := bitLen_spec k (x / 2) (by rw [Nat.pow_succ] at h; omega) (by omega)
      rw [hh]
      refine ⟨by rw [Nat.add_comm, Nat.pow_succ]; omega, fun _ => ⟨?_, by omega⟩⟩
      by_cases h2 : x / 2 = 0
      · rw [h2, bitLen_zero]; simp; omega
      · obtain ⟨c, d⟩ := b h2
        rw [show 1 + Lib.bitLen (x / 2) - 1 = (Lib.bitLen (x / 2) - 1) + 1 by omega, Nat.pow_succ]
        omega
theorem bitLen_le64 (x : Nat) (h : x < 2 ^ 64) : Lib.bitLen x ≤ 64 := Lib.bitLen_le x 64 (Nat.le_refl _) h

theorem and_mask32 (z : Int) (h0 : 0 ≤ z) (h1 : z < 18446744073709551616) : bits .and .u64 z 4294967295 = z % 4294967296 := and_low32 z h0 h1

theorem bits_or_u64_nat (a b : Nat) (ha : a < 18446744073709551616) (hb : b < 18446744073709551616) :
    bits .or .u64 (a : Int) (b : Int) = ((a ||| b : Nat) : Int) := by
  have hx : a ||| b < 2 ^ 64 := Nat.or_lt_two_pow (by omega) (by omega)
  have h1 : (BitVec.ofInt 64 (a : Int)).toNat = a := by
    rw [BitVec.ofInt_natCast, BitVec.toNat_ofNat]; exact Nat.mod_eq_of_lt (by omega)
  have h2 : (BitVec.ofInt 64 (b : Int)).toNat = b := by
    rw [BitVec.ofInt_natCast, BitVec.toNat_ofNat]; exact Nat.mod_eq_of_lt (by omega)
  show IntKind.u64.wrap ((BitVec.ofInt 64 (a : Int) ||| BitVec.ofInt 64 (b : Int)).toNat : Int) = _
  rw [BitVec.toNat_or, h1, h2, IntKind.wrap_u64]
  omega

/-- A word's upper part and its lower part, put together by 'or'. -/
theorem or_parts (a c : Int) (s : Nat) (ha : 0 ≤ a) (hc : 0 ≤ c) (hcs : c < 2 ^ s) (h : a * 2 ^ s + c < 18446744073709551616) : bits .or .u64 (a * 2 ^ s) c = a * 2 ^ s + c := by
  obtain ⟨a, rfl⟩ := Int.eq_ofNat_of_zero_le ha
  obtain ⟨c, rfl⟩ := Int.eq_ofNat_of_zero_le hc
  have e1 : ((a : Int) * 2 ^ s) = ((a * 2 ^ s : Nat) : Int) := by simp
  have hcs' : c < 2 ^ s := by
    have : ((c : Nat) : Int) < ((2 ^ s : Nat) : Int) := by simpa using hcs
    omega
  rw [e1] at h ⊢
  rw [bits_or_u64_nat _ _ (by omega) (by omega)]
  have : a * 2 ^ s ||| c = a * 2 ^ s + c := by
    rw [Nat.mul_comm, ← Nat.two_pow_add_eq_or_of_lt hcs']
  rw [this]; simp
end Go.Proofs.Ytkkjkohmekbdbaa
