/-
  Arithmetic of one step of the long division: what the guess of three words by two tells of the whole. No program is spoken of here.
-/
import Derived.Test.YtfhknnmffppfgaaDoorMath
namespace Go.Proofs.YtfhknnmffppfgaaDoor

/-- The guess is the quotient, or one more: W times the top words, and what lies below them. -/
theorem red_guess {a b G U V W x y : Int} (hW : 1 ≤ W) (hx0 : 0 ≤ x) (hx1 : x < W) (hy0 : 0 ≤ y) (hy1 : y < W) (ha : a = x + W * U) (hb : b = y + W * V) (hV : 18446744073709551616 ≤ V)
    (hlt : a < 18446744073709551616 * b) (g0 : 0 ≤ G) (g1 : G ≤ 18446744073709551615) (hle : G * V ≤ U) (hmore : G = 18446744073709551615 ∨ U < (G + 1) * V) :
    a < (G + 1) * b ∧ G * b < a + b := by
  constructor
  · rcases hmore with h | h
    · rw [h]; exact hlt
    · have h1 : W * (U + 1) ≤ W * ((G + 1) * V) := Int.mul_le_mul_of_nonneg_left (by omega) (by omega)
      have h2 : (G + 1) * b = (G + 1) * y + W * ((G + 1) * V) := by rw [hb, Int.mul_add, Int.mul_left_comm]
      have h3 : 0 ≤ (G + 1) * y := Int.mul_nonneg (by omega) hy0
      rw [Int.mul_add, Int.mul_one] at h1
      omega
  · have h1 : W * (G * V) ≤ W * U := Int.mul_le_mul_of_nonneg_left hle (by omega)
    have h2 : G * b = G * y + W * (G * V) := by rw [hb, Int.mul_add, Int.mul_left_comm]
    have h3 : G * y ≤ 18446744073709551615 * y := Int.mul_le_mul_of_nonneg_right g1 hy0
    have h4 : W * 18446744073709551616 ≤ W * V := Int.mul_le_mul_of_nonneg_left hV (by omega)
    omega

/-- The two top words of a number of n of them, and the rest. -/
theorem top_two {l : List Int} {n : Nat} (hl : l.length = n + 2) : vb B64 l = vb B64 (l.take n) + B64 ^ n * (l.getD (n + 1) 0 * 18446744073709551616 + l.getD n 0) := by
  have h1 := vb_split B64 l n (by omega)
  have h2 := vb_drop B64 (l := l) (k := n) (by omega)
  have h3 := vb_drop B64 (l := l) (k := n + 1) (by omega)
  have h4 : l.drop (n + 1 + 1) = [] := List.drop_of_length_le (by omega)
  rw [h4, vb_nil, Int.mul_zero, Int.add_zero] at h3
  rw [h3] at h2
  rw [h1, h2]
  congr 2
  unfold B64
  omega
/-- The three top words. -/
theorem top_three {l : List Int} {n : Nat} (hl : l.length = n + 3) : vb B64 l = vb B64 (l.take n) + B64 ^ n * ((l.getD (n + 2) 0 * 18446744073709551616 + l.getD (n + 1) 0) * 18446744073709551616 + l.getD n 0) := by
  have h1 := vb_split B64 l n (by omega)
  have h2 := vb_drop B64 (l := l) (k := n) (by omega)
  have h3 := vb_drop B64 (l := l) (k := n + 1) (by omega)
  have h5 := vb_drop B64 (l := l) (k := n + 1 + 1) (by omega)
  have h4 : l.drop (n + 1 + 1 + 1) = [] := List.drop_of_length_le (by omega)
  have e : l.getD (n + 1 + 1) 0 = l.getD (n + 2) 0 := rfl
  rw [e] at h5
  rw [h4, vb_nil, Int.mul_zero, Int.add_zero] at h5
  rw [h5] at h3
  rw [h3] at h2
  rw [h1, h2]
  congr 2
  unfold B64
  omega

/-- The dividend's top word is not above the divisor's. -/
theorem red_top {a b : Int} {W x y a2 a1 a0 b1 b0 : Int} (hW : 1 ≤ W) (hx0 : 0 ≤ x) (hy1 : y < W) (ha : a = x + W * ((a2 * 18446744073709551616 + a1) * 18446744073709551616 + a0)) (hb : b = y + W * (b1 * 18446744073709551616 + b0))
    (h1 : 0 ≤ a1) (h0 : 0 ≤ a0) (hb0 : b0 ≤ 18446744073709551615) (hlt : a < 18446744073709551616 * b) : a2 ≤ b1 := by
  rcases Int.lt_or_le b1 a2 with h | h
  · exfalso
    have h2 : W * ((b1 + 1) * 18446744073709551616 * 18446744073709551616) ≤ W * ((a2 * 18446744073709551616 + a1) * 18446744073709551616 + a0) := Int.mul_le_mul_of_nonneg_left (by omega) (by omega)
    have h3 : W * (b1 * 18446744073709551616 + b0) ≤ W * (b1 * 18446744073709551616 + 18446744073709551615) := Int.mul_le_mul_of_nonneg_left (by omega) (by omega)
    have e1 : W * ((b1 + 1) * 18446744073709551616 * 18446744073709551616) = (W * b1) * 340282366920938463463374607431768211456 + W * 340282366920938463463374607431768211456 := by
      rw [show (b1 + 1) * 18446744073709551616 * 18446744073709551616 = b1 * 340282366920938463463374607431768211456 + 340282366920938463463374607431768211456 by omega, Int.mul_add, ← Int.mul_assoc]
    have e2 : W * (b1 * 18446744073709551616 + 18446744073709551615) = (W * b1) * 18446744073709551616 + W * 18446744073709551615 := by
      rw [Int.mul_add, ← Int.mul_assoc]
    rw [e1] at h2
    rw [e2] at h3
    omega
  · exact h

/-- The rest, where the guess was right, and where it was one too great. -/
theorem red_right {a b G : Int} (h : a < (G + 1) * b) (hg : G * b ≤ a) : a / b = G ∧ a % b = a - G * b := by
  have hb : 0 < b := by rw [Int.add_mul, Int.one_mul] at h; omega
  have h1 : a = (a - G * b) + b * G := by rw [Int.mul_comm b G]; omega
  rw [Int.add_mul, Int.one_mul] at h
  constructor
  · rw [h1, Int.add_mul_ediv_left _ _ (by omega), Int.ediv_eq_zero_of_lt (by omega) (by omega)]; omega
  · have h2 := Int.add_mul_emod_self_left (a - G * b) b G
    rw [← h1] at h2
    rw [h2, Int.emod_eq_of_lt (by omega) (by omega)]
theorem red_over {a b G : Int} (h : G * b < a + b) (hg : a < G * b) : a / b = G - 1 ∧ a % b = a - G * b + b := by
  have e1 : (G - 1) * b = G * b - b := by rw [Int.sub_mul, Int.one_mul]
  have h2 := red_right (a := a) (b := b) (G := G - 1) (by rw [Int.sub_add_cancel]; exact hg) (by omega)
  exact ⟨h2.1, by rw [h2.2, e1]; omega⟩
end Go.Proofs.YtfhknnmffppfgaaDoor
