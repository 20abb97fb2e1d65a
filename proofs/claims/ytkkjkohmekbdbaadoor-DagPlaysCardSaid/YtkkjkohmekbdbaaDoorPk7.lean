/-
  NatBits: Contract of nat.Bits: how many bits a number has.
-/
import Derived.Test.YtkkjkohmekbdbaaDoorPk6
import Derived.Test.YtkkjkohmekbdbaaDoorPk3

namespace Go.Proofs.YtkkjkohmekbdbaaDoor
open Go.RowKit

/-- How many bits a number has. -/
def nb (N : Int) : Nat := if N ≤ 0 then 0 else N.toNat.log2 + 1

theorem nb_zero : nb 0 = 0 := rfl
theorem nb_spec {N : Int} (h : 0 < N) : 2 ^ (nb N - 1) ≤ N ∧ N < 2 ^ nb N ∧ 0 < nb N := by
  have e : nb N = N.toNat.log2 + 1 := if_neg (by omega)
  obtain ⟨n, rfl⟩ := Int.eq_ofNat_of_zero_le (Int.le_of_lt h)
  rw [Int.toNat_natCast] at e
  have hn : n ≠ 0 := by omega
  have h1 := Nat.log2_self_le hn
  have h2 : n < 2 ^ (n.log2 + 1) := Nat.lt_log2_self
  rw [e, Nat.add_sub_cancel]
  refine ⟨?_, ?_, by omega⟩
  · have : ((2 ^ n.log2 : Nat) : Int) ≤ (n : Int) := by omega
    simpa using this
  · have : (n : Int) < ((2 ^ (n.log2 + 1) : Nat) : Int) := by omega
    simpa using this
theorem two_pow_lt_of {a b : Nat} (h : (2 : Int) ^ a < 2 ^ b) : a < b := by
  have : ((2 ^ a : Nat) : Int) < ((2 ^ b : Nat) : Int) := by simpa using h
  exact (Nat.pow_lt_pow_iff_right (a := 2) (by decide)).1 (by omega)
theorem nb_eq {N : Int} {m : Nat} (hm : 0 < m) (h1 : 2 ^ (m - 1) ≤ N) (h2 : N < 2 ^ m) : nb N = m := by
  have hp : (0 : Int) < 2 ^ (m - 1) := Int.pow_pos (by decide)
  obtain ⟨a, b, c⟩ := nb_spec (N := N) (by omega)
  have h3 := two_pow_lt_of (a := m - 1) (b := nb N) (by omega)
  have h4 := two_pow_lt_of (a := nb N - 1) (b := m) (by omega)
  omega
theorem nb_le {N : Int} {m : Nat} (h : N < 2 ^ m) : nb N ≤ m := by
  by_cases h0 : 0 < N
  · obtain ⟨a, _, c⟩ := nb_spec h0
    have := two_pow_lt_of (a := nb N - 1) (b := m) (by omega)
    omega
  · have : nb N = 0 := if_pos (by omega)
    omega
theorem lt_of_nb_le {N : Int} {m : Nat} (h : nb N ≤ m) : N < 2 ^ m := by
  by_cases h0 : 0 < N
  · obtain ⟨_, b, _⟩ := nb_spec h0
    have e : (2 : Int) ^ m = 2 ^ nb N * 2 ^ (m - nb N) := by rw [← Int.pow_add]; congr 1; omega
    have p1 : (0 : Int) < 2 ^ (m - nb N) := Int.pow_pos (by decide)
    have p2 : (0 : Int) < 2 ^ nb N := Int.pow_pos (by decide)
    have : (2 : Int) ^ nb N * 1 ≤ 2 ^ nb N * 2 ^ (m - nb N) := Int.mul_le_mul_of_nonneg_left (by omega) (Int.le_of_lt p2)
    omega
  · have : (0 : Int) < 2 ^ m := Int.pow_pos (by decide)
    omega

theorem B64_pow (k : Nat) : B64 ^ k = 2 ^ (64 * k) := by
  rw [Int.pow_mul]; rfl

/-- The bits of a number whose top word is known. -/
theorem nb_words {l : List Int} (hc : Can B64 l) (hl : l ≠ []) : nb (vb B64 l) = 64 * (l.length - 1) + Lib.bitLen (l.getD (l.length - 1) 0).toNat := by
  have hn : 0 < l.length := List.length_pos_iff.2 hl
  have ht := hc.top hl
  have hd := hc.lim.getD B64_pos (l.length - 1)
  obtain ⟨t, hte⟩ : ∃ t, t = l.getD (l.length - 1) 0 := ⟨_, rfl⟩
  rw [← hte] at ht hd ⊢
  have hd2 : 0 ≤ t ∧ t < 18446744073709551616 := hd
  have e := vb_take_succ B64 (l := l) (k := l.length - 1) (by omega)
  rw [show l.length - 1 + 1 = l.length by omega, List.take_length, ← hte] at e
  have h0 := vb_nonneg B64_pos (hc.lim.take (l.length - 1))
  have h1 := vb_lt B64_pos (hc.lim.take (l.length - 1))
  rw [List.length_take, Nat.min_eq_left (by omega)] at h1
  obtain ⟨x, hx⟩ := Int.eq_ofNat_of_zero_le hd.1
  rw [hx] at e ht hd2 ⊢
  rw [Int.toNat_natCast]
  obtain ⟨b1, b2⟩ := bitLen_spec 64 x (by omega) (by omega)
  obtain ⟨b3, b4⟩ := b2 (by omega)
  obtain ⟨m, hm⟩ : ∃ m, m = Lib.bitLen x := ⟨_, rfl⟩
  rw [← hm] at b1 b3 b4 ⊢
  have b1' : (x : Int) + 1 ≤ 2 ^ m := by
    have : ((x + 1 : Nat) : Int) ≤ ((2 ^ m : Nat) : Int) := by omega
    simpa using this
  have b3' : (2 : Int) ^ (m - 1) ≤ x := by
    have : ((2 ^ (m - 1) : Nat) : Int) ≤ ((x : Nat) : Int) := by omega
    simpa using this
  have hp := pow_pos' B64_pos (l.length - 1)
  have m1 : B64 ^ (l.length - 1) * ((x : Int) + 1) ≤ B64 ^ (l.length - 1) * 2 ^ m := Int.mul_le_mul_of_nonneg_left b1' (Int.le_of_lt hp)
  have m2 : B64 ^ (l.length - 1) * 2 ^ (m - 1) ≤ B64 ^ (l.length - 1) * (x : Int) := Int.mul_le_mul_of_nonneg_left b3' (Int.le_of_lt hp)
  rw [Int.mul_add, Int.mul_one] at m1
  refine nb_eq (by omega) ?_ ?_
  · rw [show 64 * (l.length - 1) + m - 1 = 64 * (l.length - 1) + (m - 1) by omega, Int.pow_add, ← B64_pow]
    omega
  · rw [Int.pow_add, ← B64_pow]
    omega

end Go.Proofs.YtkkjkohmekbdbaaDoor
