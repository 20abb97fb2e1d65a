/-
  Arithmetic of quotients of integers rounded down and up, as the laws of package whole ask it. No program is spoken of here.
-/
import Derived.Test.YtbieldebkfkpkaaDoorWhole3
namespace Go.Proofs.YtbieldebkfkpkaaDoor

/-- What is left of a division rounded down, and up. -/
theorem quo_floor {p q : Bool} {N M X Y D : Int} (hM : 0 < M) (hX : X = sg p N) (hY : Y = sg q M) (hD : D = sg (!(p == q)) (qm (!(p == q)) false N M)) :
    (0 ≤ X - D * Y ∧ X - D * Y < Y) ∨ (Y < X - D * Y ∧ X - D * Y ≤ 0) := by
  have e1 := Int.mul_ediv_add_emod N M
  have e2 := Int.emod_lt_of_pos N hM
  have e3 := Int.emod_nonneg N (by omega : M ≠ 0)
  rw [Int.mul_comm] at e1
  subst hX hY hD
  by_cases hr : N % M = 0
  · cases p <;> cases q <;> simp [sg, qm, hr, Int.neg_mul, Int.mul_neg] <;> omega
  · cases p <;> cases q <;> simp [sg, qm, hr, Int.neg_mul, Int.mul_neg, Int.add_mul] <;> omega
theorem quo_ceil {p q : Bool} {N M X Y U : Int} (hM : 0 < M) (hX : X = sg p N) (hY : Y = sg q M) (hU : U = sg (!(p == q)) (qm (!(p == q)) true N M)) :
    (0 ≤ U * Y - X ∧ U * Y - X < Y) ∨ (Y < U * Y - X ∧ U * Y - X ≤ 0) := by
  have e1 := Int.mul_ediv_add_emod N M
  have e2 := Int.emod_lt_of_pos N hM
  have e3 := Int.emod_nonneg N (by omega : M ≠ 0)
  rw [Int.mul_comm] at e1
  subst hX hY hU
  by_cases hr : N % M = 0
  · cases p <;> cases q <;> simp [sg, qm, hr, Int.neg_mul, Int.mul_neg] <;> omega
  · cases p <;> cases q <;> simp [sg, qm, hr, Int.neg_mul, Int.mul_neg, Int.add_mul] <;> omega
theorem gap_one {G Y : Int} (h : (0 ≤ G * Y ∧ G * Y < 2 * Y) ∨ (2 * Y < G * Y ∧ G * Y ≤ 0)) : 0 ≤ G ∧ G ≤ 1 := by
  rcases Int.lt_or_le 0 Y with h0 | h0
  · have h1 : 0 ≤ G * Y ∧ G * Y < 2 * Y := by omega
    have h2 : G < 2 := Int.lt_of_mul_lt_mul_right h1.2 (by omega)
    have h3 : 0 ≤ G := by
      rcases Int.lt_or_le G 0 with h4 | h4
      · have := Int.mul_lt_mul_of_pos_right h4 h0
        omega
      · exact h4
    omega
  · have h1 : 2 * Y < G * Y ∧ G * Y ≤ 0 := by omega
    have e : G * Y = -(G * -Y) := by rw [Int.mul_neg]; omega
    have h0' : 0 < -Y := by omega
    have h2 : G < 2 := by
      have : G * -Y < 2 * -Y := by omega
      exact Int.lt_of_mul_lt_mul_right this (by omega)
    have h3 : 0 ≤ G := by
      rcases Int.lt_or_le G 0 with h4 | h4
      · have := Int.mul_lt_mul_of_pos_right h4 h0'
        omega
      · exact h4
    omega
theorem sq_lt {r M : Int} (h0 : 0 ≤ r) (h : r < M) : r * r < M * M := by
  have h1 : r * r ≤ r * M := Int.mul_le_mul_of_nonneg_left (by omega) h0
  have h2 : r * M < M * M := Int.mul_lt_mul_of_pos_right h (by omega)
  omega
/-- What the law of quotients asks. -/
theorem quo_law {X Y D U : Int} (h1 : (0 ≤ X - D * Y ∧ X - D * Y < Y) ∨ (Y < X - D * Y ∧ X - D * Y ≤ 0)) (h2 : (0 ≤ U * Y - X ∧ U * Y - X < Y) ∨ (Y < U * Y - X ∧ U * Y - X ≤ 0)) :
    0 ≤ cmpI (X - D * Y) 0 * cmpI Y 0 ∧ (X - D * Y) * (X - D * Y) < Y * Y ∧ (X - D * Y = 0 ↔ U - D = 0) ∧ 0 ≤ U - D ∧ U - D ≤ 1 := by
  have hG : (U - D) * Y = (U * Y - X) + (X - D * Y) := by rw [Int.sub_mul]; omega
  have hg := gap_one (G := U - D) (Y := Y) (by rw [hG]; omega)
  refine ⟨?_, ?_, ?_, hg⟩
  · rcases h1 with h | h
    · have hy : cmpI Y 0 = 1 := cmpI_gt (by omega)
      rw [hy]
      rcases Int.lt_or_eq_of_le h.1 with h3 | h3
      · rw [cmpI_gt h3]; decide
      · rw [cmpI_eq h3.symm]; decide
    · have hy : cmpI Y 0 = -1 := cmpI_lt (by omega)
      rw [hy]
      rcases Int.lt_or_eq_of_le h.2 with h3 | h3
      · rw [cmpI_lt h3]; decide
      · rw [cmpI_eq h3]; decide
  · rcases h1 with h | h
    · exact sq_lt h.1 h.2
    · have := sq_lt (r := -(X - D * Y)) (M := -Y) (by omega) (by omega)
      rw [Int.neg_mul_neg, Int.neg_mul_neg] at this
      exact this
  · constructor
    · intro h
      rw [h, Int.add_zero] at hG
      rcases (show U - D = 0 ∨ U - D = 1 by omega) with h3 | h3
      · exact h3
      · rw [h3] at hG; omega
    · intro h
      rw [h] at hG
      omega
theorem sign_mul (X Y : Int) : cmpI (X * Y) 0 = cmpI X 0 * cmpI Y 0 := by
  rcases Int.lt_trichotomy X 0 with h | h | h <;> rcases Int.lt_trichotomy Y 0 with k | k | k
  · rw [cmpI_lt h, cmpI_lt k, cmpI_gt (Int.mul_pos_of_neg_of_neg h k)]; rfl
  · rw [k, Int.mul_zero, cmpI_eq rfl, Int.mul_zero]
  · rw [cmpI_lt h, cmpI_gt k, cmpI_lt (Int.mul_neg_of_neg_of_pos h k)]; rfl
  · rw [h, Int.zero_mul, cmpI_eq rfl, Int.zero_mul]
  · rw [h, Int.zero_mul, cmpI_eq rfl, Int.zero_mul]
  · rw [h, Int.zero_mul, cmpI_eq rfl, Int.zero_mul]
  · rw [cmpI_gt h, cmpI_lt k, cmpI_lt (Int.mul_neg_of_pos_of_neg h k)]; rfl
  · rw [k, Int.mul_zero, cmpI_eq rfl, Int.mul_zero]
  · rw [cmpI_gt h, cmpI_gt k, cmpI_gt (Int.mul_pos h k)]; rfl
end Go.Proofs.YtbieldebkfkpkaaDoor
