/-
  Plain arithmetic of the division of two words by one: a quotient's digit that is guessed from the top digit of the divisor, and mended.
-/
namespace Go.Proofs.YtfhknnmffppfgaaDoor

section
variable {u u1 v1 v0 Y q r Q : Int}

theorem kn_le (hY : Y = v1 * 4294967296 + v0) (hv1 : 2147483648 ≤ v1) (h1 : 0 ≤ v0) (hu : 0 ≤ u) (huY : u < Y) (hu1 : 0 ≤ u1) (hu2 : u1 < 4294967296) :
    0 ≤ (u * 4294967296 + u1) / Y ∧ (u * 4294967296 + u1) / Y < 4294967296 ∧ (u * 4294967296 + u1) / Y ≤ u / v1 := by
  have hYp : 0 < Y := by omega
  refine ⟨Int.ediv_nonneg (by omega) (by omega), Int.ediv_lt_of_lt_mul hYp (by omega), ?_⟩
  have hvp : 0 < v1 := by omega
  have e1 := Int.mul_ediv_add_emod u v1
  have e2 := Int.emod_lt_of_pos u hvp
  have e3 := Int.emod_nonneg u (by omega : v1 ≠ 0)
  have hq : 0 ≤ u / v1 := Int.ediv_nonneg hu (by omega)
  have h3 : (u * 4294967296 + u1) / Y < u / v1 + 1 := by
    refine Int.ediv_lt_of_lt_mul hYp ?_
    have h4 : 0 ≤ (u / v1 + 1) * v0 := Int.mul_nonneg (by omega) h1
    have h5 : (u / v1 + 1) * Y = (v1 * (u / v1) + v1) * 4294967296 + (u / v1 + 1) * v0 := by
      rw [hY, Int.mul_add, ← Int.mul_assoc, Int.add_mul (u / v1) 1 v1, Int.one_mul, Int.mul_comm (u / v1) v1]
    omega
  omega

theorem kn_top (hY : Y = v1 * 4294967296 + v0) (hv1 : 2147483648 ≤ v1) (h1 : v0 < 4294967296) (hu : 0 ≤ u) (huY : u < Y) : 0 ≤ u / v1 ∧ u / v1 ≤ 4294967297 := by
  refine ⟨Int.ediv_nonneg hu (by omega), ?_⟩
  have : u / v1 < 4294967298 := Int.ediv_lt_of_lt_mul (by omega) (by omega)
  omega

theorem kn_rest (hv1 : 0 < v1) (hu : 0 ≤ u) : 0 ≤ u / v1 * v1 ∧ u / v1 * v1 ≤ u ∧ 0 ≤ u - u / v1 * v1 ∧ u - u / v1 * v1 < v1 := by
  have e1 := Int.mul_ediv_add_emod u v1
  have e2 := Int.emod_lt_of_pos u hv1
  have e3 := Int.emod_nonneg u (by omega : v1 ≠ 0)
  rw [Int.mul_comm (u / v1) v1]
  have : 0 ≤ v1 * (u / v1) := Int.mul_nonneg (by omega) (Int.ediv_nonneg hu (by omega))
  omega

theorem kn_mul (hY : Y = v1 * 4294967296 + v0) (hI : q * v1 + r = u) : q * Y = (u - r) * 4294967296 + q * v0 := by
  rw [hY, Int.mul_add, ← Int.mul_assoc, ← hI]
  omega

theorem kn_gt (hY : Y = v1 * 4294967296 + v0) (hYp : 0 < Y) (huY : u < Y) (hu2 : u1 < 4294967296) (hQ : (u * 4294967296 + u1) / Y = Q) (hI : q * v1 + r = u)
    (h : 4294967296 ≤ q ∨ 4294967296 * r + u1 < q * v0) : Q + 1 ≤ q := by
  rcases h with h | h
  · have : Q < 4294967296 := by rw [← hQ]; exact Int.ediv_lt_of_lt_mul hYp (by omega)
    omega
  · have hm := kn_mul hY hI
    have : Q < q := by rw [← hQ]; exact Int.ediv_lt_of_lt_mul hYp (by omega)
    omega

theorem kn_done (hY : Y = v1 * 4294967296 + v0) (hYp : 0 < Y) (hQ : (u * 4294967296 + u1) / Y = Q) (hI : q * v1 + r = u) (hQq : Q ≤ q)
    (h : q * v0 ≤ 4294967296 * r + u1) : q = Q := by
  have hm := kn_mul hY hI
  have : q ≤ Q := by rw [← hQ]; exact Int.le_ediv_of_mul_le hYp (by omega)
  omega

theorem kn_break (hY : Y = v1 * 4294967296 + v0) (hYp : 0 < Y) (h0 : 0 ≤ v0) (h1 : v0 < 4294967296) (hu1 : 0 ≤ u1) (hQ : (u * 4294967296 + u1) / Y = Q) (hI : q * v1 + r = u) (hQq : Q + 1 ≤ q) (hq : q ≤ 4294967297)
    (h : 4294967296 ≤ r + v1) : q = Q + 1 := by
  have hI' : (q - 1) * v1 + (r + v1) = u := by rw [Int.sub_mul, Int.one_mul]; omega
  have hm := kn_mul hY hI'
  have hle : (q - 1) * v0 ≤ 4294967296 * v0 := Int.mul_le_mul_of_nonneg_right (by omega) h0
  have : q - 1 ≤ Q := by rw [← hQ]; exact Int.le_ediv_of_mul_le hYp (by omega)
  omega

theorem kn_step (hI : q * v1 + r = u) : (q - 1) * v1 + (r + v1) = u := by rw [Int.sub_mul, Int.one_mul]; omega

theorem kn_prod (hq0 : 0 ≤ q) (hq : q < 4294967296) (h0 : 0 ≤ v0) (h1 : v0 < 4294967296) : 0 ≤ q * v0 ∧ q * v0 ≤ 18446744073709551615 := by
  refine ⟨Int.mul_nonneg hq0 h0, ?_⟩
  have := Int.mul_le_mul (by omega : q ≤ 4294967295) (by omega : v0 ≤ 4294967295) h0 (by decide)
  omega

/-- What is left behind a digit. -/
theorem kn_left (hYp : 0 < Y) (hQ : (u * 4294967296 + u1) / Y = Q) : u * 4294967296 + u1 - Q * Y = (u * 4294967296 + u1) % Y ∧ 0 ≤ u * 4294967296 + u1 - Q * Y ∧ u * 4294967296 + u1 - Q * Y < Y := by
  have e1 := Int.mul_ediv_add_emod (u * 4294967296 + u1) Y
  have e2 := Int.emod_lt_of_pos (u * 4294967296 + u1) hYp
  have e3 := Int.emod_nonneg (u * 4294967296 + u1) (by omega : Y ≠ 0)
  rw [hQ, Int.mul_comm Y Q] at e1
  omega
end
end Go.Proofs.YtfhknnmffppfgaaDoor
