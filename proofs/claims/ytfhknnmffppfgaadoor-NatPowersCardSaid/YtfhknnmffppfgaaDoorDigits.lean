/-
  Decimal digits of a number, as bytes; no program is spoken of here.
-/
namespace Go.Proofs.YtfhknnmffppfgaaDoor

/-- The last n decimal digits of x, as bytes, the highest first. -/
def dg : Nat → Int → List Int
  | 0, _ => []
  | n + 1, x => dg n (x / 10) ++ [48 + x % 10]

theorem dg_length (n : Nat) (x : Int) : (dg n x).length = n := by
  induction n generalizing x with
  | zero => rfl
  | succ n ih => simp [dg, ih]

theorem ediv_pow10 (x : Int) (j : Nat) : x / 10 / 10 ^ j = x / 10 ^ (j + 1) := by
  rw [Int.pow_succ, Int.mul_comm, Int.ediv_ediv_of_nonneg (by decide)]
theorem ediv_pow10' (x : Int) (j : Nat) : x / 10 ^ j / 10 = x / 10 ^ (j + 1) := by
  rw [Int.pow_succ, Int.ediv_ediv_of_nonneg (Int.le_of_lt (Int.pow_pos (by decide)))]

theorem dg_cons (j : Nat) (x : Int) : dg (j + 1) x = (48 + x / 10 ^ j % 10) :: dg j x := by
  induction j generalizing x with
  | zero => simp [dg]
  | succ j ih =>
    rw [dg, ih (x / 10), ediv_pow10, List.cons_append]
    rfl

theorem dg_add (a b : Nat) (x : Int) : dg (a + b) x = dg a (x / 10 ^ b) ++ dg b x := by
  induction b generalizing x with
  | zero => simp [dg]
  | succ b ih =>
    rw [← Nat.add_assoc, dg, ih (x / 10), ediv_pow10, List.append_assoc]
    rfl

theorem dg_mod (k m : Nat) (x : Int) (h : k ≤ m) : dg k (x % 10 ^ m) = dg k x := by
  induction k generalizing x m with
  | zero => rfl
  | succ k ih =>
    obtain ⟨m, rfl⟩ : ∃ m', m = m' + 1 := ⟨m - 1, by omega⟩
    rw [dg, dg]
    have hp : (0 : Int) < 10 ^ m := Int.pow_pos (by decide)
    have e1 : x % 10 ^ (m + 1) % 10 = x % 10 := Int.emod_emod_of_dvd x (by rw [Int.pow_succ]; exact Int.dvd_mul_left ..)
    have e2 : x % 10 ^ (m + 1) / 10 = x / 10 % 10 ^ m := by
      have a := Int.mul_ediv_add_emod x (10 ^ (m + 1))
      have b : x / 10 = 10 ^ m * (x / 10 ^ (m + 1)) + x % 10 ^ (m + 1) / 10 := by
        have : x = x % 10 ^ (m + 1) + 10 * (10 ^ m * (x / 10 ^ (m + 1))) := by
          rw [Int.pow_succ, Int.mul_comm (10 ^ m) 10, Int.mul_assoc] at a
          rw [Int.pow_succ, Int.mul_comm (10 ^ m) 10]
          omega
        have c := congrArg (fun z : Int => z / 10) this
        have c : x / 10 = (x % 10 ^ (m + 1) + 10 * (10 ^ m * (x / 10 ^ (m + 1)))) / 10 := c
        rw [Int.add_mul_ediv_left _ _ (by decide)] at c
        omega
      have h0 : 0 ≤ x % 10 ^ (m + 1) / 10 := Int.ediv_nonneg (Int.emod_nonneg _ (Int.ne_of_gt (Int.pow_pos (by decide)))) (by decide)
      have h1 : x % 10 ^ (m + 1) / 10 < 10 ^ m := by
        refine Int.ediv_lt_of_lt_mul (by decide) ?_
        have := Int.emod_lt_of_pos x (Int.pow_pos (by decide) : (0 : Int) < 10 ^ (m + 1))
        rw [Int.pow_succ] at this
        rw [Int.pow_succ]
        exact this
      rw [b, Int.add_comm, Int.add_mul_emod_self_left, Int.emod_eq_of_lt h0 h1]
    rw [e1, e2, ih m (x / 10) (by omega)]

theorem dg_lim (n : Nat) (x : Int) : ∀ d ∈ dg n x, 48 ≤ d ∧ d ≤ 57 := by
  induction n generalizing x with
  | zero => intro d h; cases h
  | succ n ih =>
    intro d h
    rcases List.mem_append.1 h with h | h
    · exact ih _ d h
    · rw [List.mem_singleton] at h; omega

end Go.Proofs.YtfhknnmffppfgaaDoor
