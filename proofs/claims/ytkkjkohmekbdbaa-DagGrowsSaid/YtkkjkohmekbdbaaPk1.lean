/-
  FloMath: The order of float64 words, as the order of whole numbers of the least unit. No program is spoken of here.
-/
import Derived.Laws.FloatBits
import Derived.Laws.FloatArith

namespace Go.Proofs.Ytkkjkohmekbdbaa

/-- The lower 63 bits of a word: how many words lie between 0 and its amount. -/
def rg (b : Nat) : Nat := b % 9223372036854775808
/-- The amount of a rung in units of the least float64. -/
def un (r : Nat) : Nat := if r < 4503599627370496 then r else (4503599627370496 + r % 4503599627370496) * 2 ^ (r / 4503599627370496 - 1)
def fneg (b : Nat) : Bool := b / 9223372036854775808 % 2 == 1
/-- A word's value in units of the least float64; infinity stands beyond all. -/
def fv (b : Nat) : Int := if fneg b then -(un (rg b) : Int) else (un (rg b) : Int)
/-- The rung of infinity. -/
abbrev INF : Nat := 9218868437227405312

theorem un_step (r : Nat) : un r < un (r + 1) := by
  unfold un
  by_cases h1 : r + 1 < 4503599627370496
  · rw [if_pos (by omega), if_pos h1]; omega
  · rw [if_neg h1]
    by_cases h2 : r < 4503599627370496
    · have e : r + 1 = 4503599627370496 := by omega
      rw [if_pos h2, e]
      show r < (4503599627370496 + 0) * 2 ^ 0
      omega
    · rw [if_neg h2]
      by_cases h3 : (r + 1) % 4503599627370496 = 0
      · have e1 : (r + 1) / 4503599627370496 = r / 4503599627370496 + 1 := by omega
        have e2 : r % 4503599627370496 = 4503599627370495 := by omega
        have e3 : r / 4503599627370496 + 1 - 1 = (r / 4503599627370496 - 1) + 1 := by omega
        rw [e1, h3, e2, e3, Nat.pow_succ]
        have := Nat.two_pow_pos (r / 4503599627370496 - 1)
        generalize 2 ^ (r / 4503599627370496 - 1) = P at *
        omega
      · have e1 : (r + 1) / 4503599627370496 = r / 4503599627370496 := by omega
        have e2 : (r + 1) % 4503599627370496 = r % 4503599627370496 + 1 := by omega
        rw [e1, e2]
        exact Nat.mul_lt_mul_of_pos_right (by omega) (Nat.two_pow_pos _)
theorem un_lt {r s : Nat} (h : r < s) : un r < un s := by
  obtain ⟨d, rfl⟩ := Nat.le.dest h
  induction d with
  | zero => exact un_step r
  | succ d ih => exact Nat.lt_trans (ih (by omega)) (un_step _)
theorem un_le {r s : Nat} (h : r ≤ s) : un r ≤ un s := by
  rcases Nat.lt_or_eq_of_le h with h | h
  · exact Nat.le_of_lt (un_lt h)
  · rw [h]; exact Nat.le_refl _
theorem un_zero : un 0 = 0 := rfl
theorem un_eq_zero {r : Nat} (h : un r = 0) : r = 0 := by
  by_cases h0 : r = 0
  · exact h0
  · have := un_lt (show 0 < r by omega)
    rw [un_zero] at this
    omega
theorem un_inj {r s : Nat} (h : un r = un s) : r = s := by
  rcases Nat.lt_trichotomy r s with h1 | h1 | h1
  · have := un_lt h1; omega
  · exact h1
  · have := un_lt h1; omega

theorem cmp_scale (x y c : Int) (hc : 0 < c) : compare (x * c) (y * c) = compare x y := by
  show compareOfLessAndEq _ _ = compareOfLessAndEq _ _
  unfold compareOfLessAndEq
  rcases Int.lt_trichotomy x y with h | h | h
  · have := Int.mul_lt_mul_of_pos_right h hc
    rw [if_pos this, if_pos h]
  · subst h; simp
  · have := Int.mul_lt_mul_of_pos_right h hc
    rw [if_neg (by omega), if_neg (by omega), if_neg (by omega), if_neg (by omega)]
theorem signed_scale (s : Bool) (m p k : Nat) : Ieee.signed s m (p + k) = Ieee.signed s m p * 2 ^ k := by
  unfold Ieee.signed
  have e : (m <<< (p + k) : Nat) = (m <<< p) * 2 ^ k := by rw [Nat.shiftLeft_eq, Nat.shiftLeft_eq, Nat.pow_add, Nat.mul_assoc]
  rw [e]
  cases s <;> simp [Int.neg_mul]
/-- A word that is a number: its sign, its digits, its place above the least one. -/
theorem read_num {b : Nat} (h : rg b < INF) : ∃ m p : Nat, Ieee.double.read b = .number (fneg b) m (Ieee.double.leastPlace + (p : Int)) ∧ m * 2 ^ p = un (rg b) := by
  unfold Ieee.Format.read
  have e1 : Ieee.double.signWeight = 9223372036854775808 := by decide
  have e2 : Ieee.double.binade = 4503599627370496 := by decide
  have e3 : Ieee.double.infRung = INF := by decide
  simp only [e1, e2, e3]
  change b % 9223372036854775808 < INF at h
  by_cases h1 : b % 9223372036854775808 < 4503599627370496
  · rw [if_pos h1]
    refine ⟨rg b, 0, by simp [fneg, rg], ?_⟩
    unfold un
    rw [if_pos (show rg b < _ from h1)]
    omega
  · rw [if_neg h1, if_pos h]
    refine ⟨4503599627370496 + rg b % 4503599627370496, rg b / 4503599627370496 - 1, by simp [fneg, rg], ?_⟩
    unfold un
    rw [if_neg (show ¬ rg b < _ from h1)]
theorem read_inf {b : Nat} (h : rg b = INF) : Ieee.double.read b = .infinity (fneg b) := by
  unfold Ieee.Format.read
  have e1 : Ieee.double.signWeight = 9223372036854775808 := by decide
  have e2 : Ieee.double.binade = 4503599627370496 := by decide
  have e3 : Ieee.double.infRung = INF := by decide
  simp only [e1, e2, e3]
  change b % 9223372036854775808 = INF at h
  rw [if_neg (by rw [h]; decide), if_neg (by rw [h]; decide), if_pos h]
  rfl
theorem read_nan {b : Nat} (h : INF < rg b) : ∃ x, Ieee.double.read b = .nan (fneg b) x := by
  unfold Ieee.Format.read
  have e1 : Ieee.double.signWeight = 9223372036854775808 := by decide
  have e2 : Ieee.double.binade = 4503599627370496 := by decide
  have e3 : Ieee.double.infRung = INF := by decide
  simp only [e1, e2, e3]
  change 9218868437227405312 < b % 9223372036854775808 at h
  rw [if_neg (by omega), if_neg (by unfold INF; omega), if_neg (by unfold INF; omega)]
  exact ⟨_, rfl⟩
theorem fv_def (b : Nat) : fv b = if fneg b then -(un (rg b) : Int) else (un (rg b) : Int) := rfl
theorem fv_bound {b : Nat} (h : rg b < INF) : -(un INF : Int) < fv b ∧ fv b < (un INF : Int) := by
  have := un_lt h
  rw [fv_def]
  split <;> omega
theorem cmp_int_lt {x y : Int} (h : x < y) : compare x y = .lt := by
  show compareOfLessAndEq _ _ = _
  unfold compareOfLessAndEq
  rw [if_pos h]
theorem cmp_int_gt {x y : Int} (h : y < x) : compare x y = .gt := by
  show compareOfLessAndEq _ _ = _
  unfold compareOfLessAndEq
  rw [if_neg (by omega), if_neg (by omega)]
theorem cmp_int_eq {x y : Int} (h : x = y) : compare x y = .eq := by
  show compareOfLessAndEq _ _ = _
  unfold compareOfLessAndEq
  rw [if_neg (by omega), if_pos h]
/-- The order of words that are no NaN is the order of their values. -/
theorem order_num {a b : Nat} (ha : rg a ≤ INF) (hb : rg b ≤ INF) : Ieee.double.order a b = some (compare (fv a) (fv b)) := by
  unfold Ieee.Format.order
  have hU : (0 : Int) < (un INF : Int) := by
    have := un_lt (show 0 < INF by decide)
    omega
  have hpos : ∀ c, rg c = INF → fv c = if fneg c then -(un INF : Int) else (un INF : Int) := by
    intro c hc
    rw [fv_def, hc]
  rcases Nat.lt_or_eq_of_le ha with ha | ha <;> rcases Nat.lt_or_eq_of_le hb with hb | hb
  · obtain ⟨m, p, e1, h1⟩ := read_num ha
    obtain ⟨n, q, e2, h2⟩ := read_num hb
    rw [e1, e2]
    simp only [Ieee.Datum.order]
    congr 1
    have f1 : fv a = Ieee.signed (fneg a) m p := by
      rw [fv_def, ← h1, Ieee.signed, Nat.shiftLeft_eq]
    have f2 : fv b = Ieee.signed (fneg b) n q := by
      rw [fv_def, ← h2, Ieee.signed, Nat.shiftLeft_eq]
    rw [f1, f2]
    generalize Ieee.double.leastPlace = lp
    rcases Nat.le_total p q with h | h
    · obtain ⟨d, rfl⟩ := Nat.le.dest h
      have g1 : (lp + (p : Int) - min (lp + (p : Int)) (lp + ((p + d : Nat) : Int))).toNat = 0 := by omega
      have g2 : (lp + ((p + d : Nat) : Int) - min (lp + (p : Int)) (lp + ((p + d : Nat) : Int))).toNat = d := by omega
      rw [g1, g2]
      have k1 := signed_scale (fneg a) m 0 p
      have k2 := signed_scale (fneg b) n d p
      rw [Nat.zero_add] at k1
      rw [Nat.add_comm d p] at k2
      rw [k1, k2]
      exact (cmp_scale _ _ _ (Int.pow_pos (by decide))).symm
    · obtain ⟨d, rfl⟩ := Nat.le.dest h
      have g1 : (lp + ((q + d : Nat) : Int) - min (lp + ((q + d : Nat) : Int)) (lp + (q : Int))).toNat = d := by omega
      have g2 : (lp + (q : Int) - min (lp + ((q + d : Nat) : Int)) (lp + (q : Int))).toNat = 0 := by omega
      rw [g1, g2]
      have k1 := signed_scale (fneg a) m d q
      have k2 := signed_scale (fneg b) n 0 q
      rw [Nat.zero_add] at k2
      rw [Nat.add_comm d q] at k1
      rw [k1, k2]
      exact (cmp_scale _ _ _ (Int.pow_pos (by decide))).symm
  · obtain ⟨m, p, e1, -⟩ := read_num ha
    have hv := fv_bound ha
    rw [e1, read_inf hb, hpos b hb]
    simp only [Ieee.Datum.order]
    cases hs : fneg b
    · rw [if_neg (by decide), if_neg (by decide), cmp_int_lt hv.2]
    · rw [if_pos rfl, if_pos rfl, cmp_int_gt hv.1]
  · obtain ⟨m, p, e1, -⟩ := read_num hb
    have hv := fv_bound hb
    rw [e1, read_inf ha, hpos a ha]
    simp only [Ieee.Datum.order]
    cases hs : fneg a
    · rw [if_neg (by decide), if_neg (by decide), cmp_int_gt hv.2]
    · rw [if_pos rfl, if_pos rfl, cmp_int_lt hv.1]
  · rw [read_inf ha, read_inf hb, hpos a ha, hpos b hb]
    simp only [Ieee.Datum.order]
    cases hs : fneg a <;> cases ht : fneg b
    · rw [if_neg (by decide)]; rw [cmp_int_eq rfl]; rfl
    · rw [if_neg (by decide), if_pos rfl, cmp_int_gt (by omega)]; rfl
    · rw [if_pos rfl, if_neg (by decide), cmp_int_lt (by omega)]; rfl
    · rw [if_pos rfl]; rw [cmp_int_eq rfl]; rfl
theorem order_nan_left {a b : Nat} (ha : INF < rg a) : Ieee.double.order a b = none := by
  obtain ⟨x, hx⟩ := read_nan ha
  unfold Ieee.Format.order
  rw [hx]
  cases Ieee.double.read b <;> rfl
theorem order_nan_right {a b : Nat} (hb : INF < rg b) : Ieee.double.order a b = none := by
  obtain ⟨x, hx⟩ := read_nan hb
  unfold Ieee.Format.order
  rw [hx]
  cases Ieee.double.read a <;> rfl
theorem flt_num {a b : Nat} (ha : rg a ≤ INF) (hb : rg b ≤ INF) : (FloatKind.f64.format.order a b == some .lt) = decide (fv a < fv b) := by
  show (Ieee.double.order a b == some .lt) = _
  rw [order_num ha hb]
  rcases Int.lt_trichotomy (fv a) (fv b) with h | h | h
  · rw [cmp_int_lt h, decide_eq_true h]; rfl
  · rw [cmp_int_eq h, decide_eq_false (by omega)]; rfl
  · rw [cmp_int_gt h, decide_eq_false (by omega)]; rfl
theorem fgt_num {a b : Nat} (ha : rg a ≤ INF) (hb : rg b ≤ INF) : (FloatKind.f64.format.order a b == some .gt) = decide (fv b < fv a) := by
  show (Ieee.double.order a b == some .gt) = _
  rw [order_num ha hb]
  rcases Int.lt_trichotomy (fv a) (fv b) with h | h | h
  · rw [cmp_int_lt h, decide_eq_false (by omega)]; rfl
  · rw [cmp_int_eq h, decide_eq_false (by omega)]; rfl
  · rw [cmp_int_gt h, decide_eq_true h]; rfl
theorem feq_num {a b : Nat} (ha : rg a ≤ INF) (hb : rg b ≤ INF) : (FloatKind.f64.format.order a b == some .eq) = decide (fv a = fv b) := by
  show (Ieee.double.order a b == some .eq) = _
  rw [order_num ha hb]
  rcases Int.lt_trichotomy (fv a) (fv b) with h | h | h
  · rw [cmp_int_lt h, decide_eq_false (by omega)]; rfl
  · rw [cmp_int_eq h, decide_eq_true h]; rfl
  · rw [cmp_int_gt h, decide_eq_false (by omega)]; rfl

/-- A word of a sign and a rung. -/
theorem rg_neg {r : Nat} (h : r < 9223372036854775808) : rg (9223372036854775808 + r) = r ∧ fneg (9223372036854775808 + r) = true := by
  unfold rg fneg
  refine ⟨by omega, ?_⟩
  have : (9223372036854775808 + r) / 9223372036854775808 % 2 = 1 := by omega
  rw [this]; rfl
theorem rg_pos {r : Nat} (h : r < 9223372036854775808) : rg r = r ∧ fneg r = false := by
  unfold rg fneg
  refine ⟨by omega, ?_⟩
  have : r / 9223372036854775808 % 2 = 0 := by omega
  rw [this]; rfl
theorem fv_pos {r : Nat} (h : r < 9223372036854775808) : fv r = (un r : Int) := by
  rw [fv_def, (rg_pos h).1, (rg_pos h).2]; rfl
theorem fv_neg {r : Nat} (h : r < 9223372036854775808) : fv (9223372036854775808 + r) = -(un r : Int) := by
  rw [fv_def, (rg_neg h).1, (rg_neg h).2]; rfl
/-- The word nearest to a number that a rung has is the rung's. -/
theorem nearest_own (neg : Bool) {r : Nat} (h0 : r ≠ 0) (h : r < INF) : Ieee.double.nearest neg (un r) Ieee.double.leastPlace = Ieee.double.word neg r := by
  unfold Ieee.Format.nearest
  have hu : un r ≠ 0 := fun e => h0 (un_eq_zero e)
  rw [if_neg hu]
  have e2 : Ieee.double.binade = 4503599627370496 := by decide
  have e3 : Ieee.double.infRung = INF := by decide
  have e4 : (Ieee.double.fractionBits : Int) = 52 := rfl
  simp only [e2, e3]
  rw [e4]
  generalize Ieee.double.leastPlace = lp
  by_cases h1 : r < 4503599627370496
  · have eu : un r = r := by unfold un; rw [if_pos h1]
    rw [eu]
    have hl : r.log2 < 52 := (Nat.log2_lt h0).2 (by simpa using h1)
    have hm : max (lp + (r.log2 : Int) - 52) lp = lp := by omega
    rw [hm]
    have z : (lp - lp).toNat = 0 := by omega
    rw [z, Nat.shiftLeft_zero]
    unfold Ieee.Toward.cut
    have b1 : (decide (1 < 2 * (r % 1)) || 1 == 2 * (r % 1) && r % 2 == 1) = false := by
      rw [Nat.mod_one]; rfl
    simp only [Nat.zero_min, Nat.shiftLeft_zero, Nat.div_one, b1]
    show Ieee.double.word neg (min (0 * 4503599627370496 + (r + 0)) INF) = _
    rw [Nat.zero_mul, Nat.zero_add, Nat.add_zero, Nat.min_eq_left (by omega)]
  · obtain ⟨f, hf⟩ : ∃ f, r % 4503599627370496 = f := ⟨_, rfl⟩
    obtain ⟨q, hq⟩ : ∃ q, r / 4503599627370496 - 1 = q := ⟨_, rfl⟩
    have eu : un r = (4503599627370496 + f) * 2 ^ q := by unfold un; rw [if_neg h1, hf, hq]
    have hfl : f < 4503599627370496 := by rw [← hf]; exact Nat.mod_lt _ (by decide)
    have hr : r = (q + 1) * 4503599627370496 + f := by omega
    rw [eu]
    have hl : ((4503599627370496 + f) * 2 ^ q).log2 = 52 + q := by
      have hp := Nat.two_pow_pos q
      have hne : (4503599627370496 + f) * 2 ^ q ≠ 0 := Nat.ne_of_gt (Nat.mul_pos (by omega) hp)
      refine (Nat.log2_eq_iff hne).2 ⟨?_, ?_⟩
      · rw [Nat.pow_add]
        exact Nat.mul_le_mul_right _ (by omega)
      · rw [show 52 + q + 1 = 53 + q by omega, Nat.pow_add]
        exact Nat.mul_lt_mul_of_pos_right (by omega) hp
    rw [hl]
    have hm : max (lp + ((52 + q : Nat) : Int) - 52) lp = lp + (q : Int) := by omega
    rw [hm]
    have z1 : (lp - (lp + (q : Int))).toNat = 0 := by omega
    have z2 : (lp + (q : Int) - lp).toNat = q := by omega
    rw [z1, z2, Nat.shiftLeft_zero]
    unfold Ieee.Toward.cut
    have hgap : (1 <<< min q (((4503599627370496 + f) * 2 ^ q).log2 + 2) : Nat) = 2 ^ q := by
      rw [hl, Nat.min_eq_left (by omega), Nat.shiftLeft_eq, Nat.one_mul]
    simp only [hgap]
    have hp := Nat.two_pow_pos q
    have d1 : (4503599627370496 + f) * 2 ^ q / 2 ^ q = 4503599627370496 + f := Nat.mul_div_cancel _ hp
    have d2 : (4503599627370496 + f) * 2 ^ q % 2 ^ q = 0 := Nat.mul_mod_left _ _
    rw [d1, d2]
    have b1 : (decide (2 ^ q < 2 * 0) || 2 ^ q == 2 * 0 && (4503599627370496 + f) % 2 == 1) = false := by
      have : ¬ 2 ^ q < 2 * 0 := by omega
      have h2 : (2 ^ q == 2 * 0) = false := by simp
      simp [h2]
    rw [b1]
    show Ieee.double.word neg (min (q * 4503599627370496 + (4503599627370496 + f + 0)) INF) = _
    rw [show q * 4503599627370496 + (4503599627370496 + f + 0) = r by omega, Nat.min_eq_left (by omega)]
/-- Nought less a float64 that is above it. -/
theorem sub_word {r : Nat} (h0 : r ≠ 0) (h : r < INF) : floatBits .sub .f64 0 r = some (9223372036854775808 + r) := by
  show Ieee.double.sub 0 r = _
  unfold Ieee.Format.sub
  have hr : r < 9223372036854775808 := by unfold INF at h; omega
  have hz : Ieee.double.read 0 = .number false 0 Ieee.double.leastPlace := by decide
  obtain ⟨m, p, e1, h1⟩ := read_num (b := r) (by rw [(rg_pos hr).1]; exact h)
  rw [hz, e1, (rg_pos hr).2]
  rw [(rg_pos hr).1] at h1
  simp only [Ieee.Datum.opposite, Ieee.Datum.sum, Option.map_some]
  have hb : min Ieee.double.leastPlace (Ieee.double.leastPlace + (p : Int)) = Ieee.double.leastPlace := by omega
  rw [hb]
  have z1 : (Ieee.double.leastPlace - Ieee.double.leastPlace).toNat = 0 := by omega
  have z2 : (Ieee.double.leastPlace + (p : Int) - Ieee.double.leastPlace).toNat = p := by omega
  rw [z1, z2]
  have hs : Ieee.signed false 0 0 + Ieee.signed (!false) m p = -(un r : Int) := by
    unfold Ieee.signed
    rw [← h1, Nat.shiftLeft_eq, Nat.shiftLeft_eq]
    simp
  rw [hs]
  have hu : un r ≠ 0 := fun e => h0 (un_eq_zero e)
  rw [if_neg (by omega), show decide (-(un r : Int) < 0) = true by simp; omega, show (-(un r : Int)).natAbs = un r by omega]
  show some (Ieee.double.nearest true (un r) Ieee.double.leastPlace) = _
  rw [nearest_own true h0 h]
  rfl
theorem sub_zero : floatBits .sub .f64 0 0 = some 0 := by decide
end Go.Proofs.Ytkkjkohmekbdbaa
