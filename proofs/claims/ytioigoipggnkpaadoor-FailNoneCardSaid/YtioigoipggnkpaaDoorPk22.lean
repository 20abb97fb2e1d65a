/-
  Itoa: The decimal text of an int, as the library's contract of strconv.Itoa and as the reference write it.
-/
import Derived.Test.YtioigoipggnkpaaDoorPk20
import Derived.Test.YtioigoipggnkpaaDoorPk21
import Derived.Lib.ItoaNum

namespace Go.Proofs.YtioigoipggnkpaaDoor
open Go.RowKit

theorem dec_dg {n : Nat} {N : Int} (h1 : 10 ^ n ≤ N) (h2 : N < 10 ^ (n + 1)) : dec N = dg (n + 1) N := by
  have hp : (0 : Int) < 10 ^ n := Int.pow_pos (by decide)
  rw [← txt_dec (n := n + 1) (by omega) h2]
  unfold txt
  rw [lead_top h1 h2, if_neg (by omega), List.drop_zero]
theorem digits_of (M : Nat) (h : 0 < M) : ∃ n, 10 ^ n ≤ M ∧ M < 10 ^ (n + 1) := by
  induction M using Nat.strongRecOn with
  | _ M ih =>
    by_cases h10 : M < 10
    · exact ⟨0, by rw [Nat.pow_zero]; omega, by rw [Nat.zero_add, Nat.pow_one]; exact h10⟩
    · obtain ⟨n, h1, h2⟩ := ih (M / 10) (by omega) (by omega)
      refine ⟨n + 1, ?_, ?_⟩
      · rw [Nat.pow_succ]; omega
      · rw [Nat.pow_succ]; omega
theorem dec_step {u : Nat} (h : 10 ≤ u) : dec (u : Int) = dec ((u / 10 : Nat) : Int) ++ [48 + ((u % 10 : Nat) : Int)] := by
  obtain ⟨n, h1, h2⟩ := digits_of (u / 10) (by omega)
  have c1 : ((10 : Nat) ^ n : Int) = ((10 ^ n : Nat) : Int) := by rw [Int.natCast_pow]
  have c2 : ((10 : Nat) ^ (n + 1) : Int) = ((10 ^ (n + 1) : Nat) : Int) := by rw [Int.natCast_pow]
  have c3 : ((10 : Nat) ^ (n + 1 + 1) : Int) = ((10 ^ (n + 1 + 1) : Nat) : Int) := by rw [Int.natCast_pow]
  have e1 : (10 : Nat) ^ (n + 1) = 10 ^ n * 10 := Nat.pow_succ ..
  have e2 : (10 : Nat) ^ (n + 1 + 1) = 10 ^ (n + 1) * 10 := Nat.pow_succ ..
  have g1 : (10 : Int) ^ n ≤ ((u / 10 : Nat) : Int) := by rw [show (10 : Int) = ((10 : Nat) : Int) from rfl, c1]; omega
  have g2 : ((u / 10 : Nat) : Int) < (10 : Int) ^ (n + 1) := by rw [show (10 : Int) = ((10 : Nat) : Int) from rfl, c2]; omega
  have g3 : (10 : Int) ^ (n + 1) ≤ (u : Int) := by rw [show (10 : Int) = ((10 : Nat) : Int) from rfl, c2]; omega
  have g4 : (u : Int) < (10 : Int) ^ (n + 1 + 1) := by rw [show (10 : Int) = ((10 : Nat) : Int) from rfl, c3]; omega
  rw [dec_dg g3 g4, dec_dg g1 g2]
  rfl
theorem dec_one {u : Nat} (h : u < 10) : dec (u : Int) = [48 + (u : Int)] := by
  have : u = 0 ∨ u = 1 ∨ u = 2 ∨ u = 3 ∨ u = 4 ∨ u = 5 ∨ u = 6 ∨ u = 7 ∨ u = 8 ∨ u = 9 := by omega
  rcases this with rfl | rfl | rfl | rfl | rfl | rfl | rfl | rfl | rfl | rfl <;> decide
theorem dec_digits (u : Nat) : (dec (u : Int)).map (fun n => UInt8.ofNat n.toNat) = Lib.decDigits u := by
  induction u using Nat.strongRecOn with
  | _ u ih =>
    rw [Lib.decDigits]
    by_cases h : u < 10
    · rw [dif_pos h, dec_one h]
      simp only [List.map_cons, List.map_nil]
      rw [show (48 + (u : Int)).toNat = 48 + u by omega]
    · rw [dif_neg h, dec_step (by omega), List.map_append, ih (u / 10) (by omega)]
      simp only [List.map_cons, List.map_nil]
      rw [show (48 + ((u % 10 : Nat) : Int)).toNat = 48 + u % 10 by omega]
/-- strconv.Itoa's text is the reference's. -/
theorem itoa_tw (n : Int) : (⟨(Lib.itoa n).toArray⟩ : ByteArray) = tw n := by
  unfold tw Lib.itoa
  by_cases h : n < 0
  · rw [if_pos h, if_pos h]
    have e : (-n) = ((n.natAbs : Nat) : Int) := by omega
    apply ByteArray.ext
    apply Array.ext'
    rw [ByteArray.data_append, Array.toList_append, strOfNums_data, e, dec_digits]
    rfl
  · rw [if_neg h, if_neg h]
    have e : n = ((n.toNat : Nat) : Int) := by omega
    apply ByteArray.ext
    apply Array.ext'
    rw [strOfNums_data]
    conv => rhs; rw [e, dec_digits]
end Go.Proofs.YtioigoipggnkpaaDoor
