/-
  RefBits: Arithmetic of the schoolbook division in digits of base 2^32: the digit that is guessed of three top digits by two, the product that is taken off, the divisor that is put back. No program is spoken of here. Contracts of the document's own Bits and Low.
  RefCmp: Contracts of the reference's Small and Mul. Contracts of the reference's Cmp, and of its DivMod by one digit.
  RefShift: Contracts of the reference's Shl and Shr.
  SqrtLimb: Contract of nat.sqrtLimb: the root of a number of one word, and what is left.
  Text: Contracts of bytes.TrimLeft at the cutset 0, and of nat.Text for numbers below 10^19.
  Add: Contract of nat.Add: the sum of all numbers of a slice of numbers.
  Alive: The statements' first look ('alive'): its answer is true. And 'Light'.
-/
import Derived.Test.YtfanhllcoaondaaDoorPk1
import Derived.Test.YtfanhllcoaondaaDoorPk2
import Derived.Deep.QuietTactic
import Derived.Laws.BytesArg

namespace Go.Proofs.YtfanhllcoaondaaDoor
open Go.RowKit

/-- Digits above the number's size are zeros. -/
theorem vb_zero_above {b : Int} (hb : 0 < b) {l : List Int} (h : Lim b l) {n : Nat} (hlt : vb b l < b ^ n) : ∀ j, n ≤ j → l.getD j 0 = 0 := by
  intro j hj
  by_cases hjl : j < l.length
  · have e := vb_split b l j (by omega)
    have d := vb_drop b (l := l) (k := j) hjl
    have h1 := vb_nonneg hb (h.take j)
    have h2 := vb_nonneg hb (h.drop (j + 1))
    have h3 := h.getD hb j
    rcases Int.lt_or_le 0 (l.getD j 0) with h4 | h4
    · exfalso
      have hp := pow_pos' hb j
      have h6 := Int.mul_nonneg (Int.le_of_lt hb) h2
      have h5 : b ^ j * 1 ≤ b ^ j * vb b (l.drop j) := Int.mul_le_mul_of_nonneg_left (by omega) (Int.le_of_lt hp)
      have := pow_le_pow hb hj
      omega
    · omega
  · rw [List.getD_eq_getElem?_getD, List.getElem?_eq_none (by omega)]; rfl

/-- A number whose digits from k on are zeros is below b^k. -/
theorem vb_lt_of_zeros {b : Int} (hb : 0 < b) {l : List Int} (h : Lim b l) {k : Nat} (hz : ∀ j, k ≤ j → l.getD j 0 = 0) : vb b l < b ^ k := by
  by_cases hk : k ≤ l.length
  · have e := vb_split b l k hk
    have e0 : vb b (l.drop k) = 0 := by
      refine vb_zeros b fun x hx => ?_
      obtain ⟨j, _, rfl⟩ := mem_getD hx
      rw [getD_drop]; exact hz _ (by omega)
    rw [e0, Int.mul_zero, Int.add_zero] at e
    have := vb_lt hb (h.take k)
    rw [List.length_take, Nat.min_eq_left hk] at this
    omega
  · have := vb_lt hb h
    have := pow_le_pow hb (show l.length ≤ k by omega)
    omega

section
variable {T v1 v0 u0 d r : Int}
theorem gd_init (hv1 : 0 < v1) (hv0 : 0 ≤ v0) (hT : 0 ≤ T) (hu0 : u0 < 4294967296) :
    T / v1 * v1 + T % v1 = T ∧ 0 ≤ T % v1 ∧ T % v1 < v1 ∧ 0 ≤ T / v1 ∧ T * 4294967296 + u0 < (T / v1 + 1) * (v1 * 4294967296 + v0) := by
  have e1 := Int.mul_ediv_add_emod T v1
  have e2 := Int.emod_lt_of_pos T hv1
  have e3 := Int.emod_nonneg T (by omega : v1 ≠ 0)
  have e4 : 0 ≤ T / v1 := Int.ediv_nonneg hT (by omega)
  rw [Int.mul_comm v1] at e1
  refine ⟨e1, e3, e2, e4, ?_⟩
  have h1 : (T / v1 + 1) * (v1 * 4294967296 + v0) = (T / v1 * v1 + v1) * 4294967296 + (T / v1 + 1) * v0 := by
    rw [Int.mul_add, ← Int.mul_assoc, Int.add_mul, Int.one_mul]
  have h2 : 0 ≤ (T / v1 + 1) * v0 := Int.mul_nonneg (by omega) hv0
  rw [h1]
  omega
theorem gd_mul (hI : d * v1 + r = T) : d * (v1 * 4294967296 + v0) = (T - r) * 4294967296 + d * v0 := by
  rw [Int.mul_add, ← Int.mul_assoc, ← hI]; omega
theorem gd_step (hI : d * v1 + r = T) (h : 4294967296 ≤ d ∨ r * 4294967296 + u0 < d * v0) :
    (d - 1) * v1 + (r + v1) = T ∧ (4294967296 ≤ d ∨ T * 4294967296 + u0 < d * (v1 * 4294967296 + v0)) := by
  refine ⟨by rw [Int.sub_mul, Int.one_mul]; omega, h.imp id fun h => ?_⟩
  rw [gd_mul hI]; omega
theorem gd_done (hI : d * v1 + r = T) (h : d * v0 ≤ r * 4294967296 + u0) : d * (v1 * 4294967296 + v0) ≤ T * 4294967296 + u0 := by
  rw [gd_mul hI]; omega
theorem gd_break (hI : d * v1 + r = T) (hr : 4294967296 ≤ r) (hv00 : 0 ≤ v0) (hv0 : v0 < 4294967296) (hv1 : 0 < v1) (hu0 : 0 ≤ u0) (hT : T ≤ v1 * 4294967296 + v0) :
    d ≤ 4294967295 ∧ d * (v1 * 4294967296 + v0) ≤ T * 4294967296 + u0 := by
  have h1 : d ≤ 4294967295 := by
    rcases Int.lt_or_le d 4294967296 with h | h
    · omega
    · have : 4294967296 * v1 ≤ d * v1 := Int.mul_le_mul_of_nonneg_right h (by omega)
      omega
  refine ⟨h1, ?_⟩
  rw [gd_mul hI]
  have : d * v0 ≤ 4294967296 * v0 := Int.mul_le_mul_of_nonneg_right (by omega) hv00
  omega
end

/-- The top digits of the dividend's window and of the divisor. -/
theorem rd_top {m v : List Int} {n j : Nat} (hm : Lim B32 m) (hv : Lim B32 v) (hvl : v.length = n + 2) (hlt : vb B32 (m.drop j) < B32 * vb B32 v) (hj : j + n + 2 < m.length) :
    ∃ x y W, 1 ≤ W ∧ 0 ≤ x ∧ x < W ∧ 0 ≤ y ∧ y < W ∧ vb B32 (m.drop j) = x + W * ((m.getD (j + n + 2) 0 * 4294967296 + m.getD (j + n + 1) 0) * 4294967296 + m.getD (j + n) 0) ∧
      vb B32 v = y + W * (v.getD (n + 1) 0 * 4294967296 + v.getD n 0) ∧ m.getD (j + n + 2) 0 * 4294967296 + m.getD (j + n + 1) 0 ≤ v.getD (n + 1) 0 * 4294967296 + v.getD n 0 := by
  have hW := pow_pos' B32_pos n
  have hvlt := vb_lt B32_pos hv
  rw [hvl] at hvlt
  have hwin : vb B32 (m.drop j) < B32 ^ (n + 3) := by
    have h1 : B32 * (vb B32 v + 1) ≤ B32 * B32 ^ (n + 2) := Int.mul_le_mul_of_nonneg_left (by omega) (by decide)
    rw [show n + 3 = n + 2 + 1 by omega, Int.pow_succ B32 (n + 2), Int.mul_comm (B32 ^ (n + 2))]
    rw [Int.mul_add] at h1
    unfold B32 at *
    omega
  have hz := vb_zero_above B32_pos (hm.drop j) hwin
  have e0 := vb_split B32 (m.drop j) n (by rw [List.length_drop]; omega)
  rw [List.drop_drop] at e0
  have e1 := vb_drop B32 (l := m) (k := j + n) (by omega)
  have e2 := vb_drop B32 (l := m) (k := j + n + 1) (by omega)
  have e3 := vb_drop B32 (l := m) (k := j + n + 1 + 1) (by omega)
  have e4 : vb B32 (m.drop (j + n + 1 + 1 + 1)) = 0 := by
    refine vb_zeros B32 fun x hx => ?_
    obtain ⟨i, _, rfl⟩ := mem_getD hx
    have := hz (n + 3 + i) (by omega)
    rw [getD_drop] at this ⊢
    rw [← this]; congr 1; omega
  rw [e4, Int.mul_zero, Int.add_zero] at e3
  rw [e3] at e2
  rw [e2] at e1
  rw [e1] at e0
  have f0 := vb_split B32 v n (by omega)
  have f1 := vb_drop B32 (l := v) (k := n) (by omega)
  have f2 := vb_drop B32 (l := v) (k := n + 1) (by omega)
  rw [show v.drop (n + 1 + 1) = [] from List.drop_of_length_le (by omega), vb_nil, Int.mul_zero, Int.add_zero] at f2
  rw [f2] at f1
  rw [f1] at f0
  have hx0 := vb_nonneg B32_pos ((hm.drop j).take n)
  have hx1 := vb_lt B32_pos ((hm.drop j).take n)
  rw [List.length_take, List.length_drop, Nat.min_eq_left (by omega)] at hx1
  have hy0 := vb_nonneg B32_pos (hv.take n)
  have hy1 := vb_lt B32_pos (hv.take n)
  rw [List.length_take, Nat.min_eq_left (by omega)] at hy1
  have s1 : m.getD (j + n + 1 + 1) 0 = m.getD (j + n + 2) 0 := rfl
  rw [s1] at e0
  have g0 := hm.getD B32_pos (j + n)
  refine ⟨_, _, B32 ^ n, hW, hx0, hx1, hy0, hy1, ?_, ?_, ?_⟩
  · rw [e0]; congr 2; unfold B32; omega
  · rw [f0]; congr 2; unfold B32; omega
  · rw [e0, f0] at hlt
    generalize vb B32 ((m.drop j).take n) = x at *
    generalize vb B32 (v.take n) = y at *
    generalize m.getD (j + n + 2) 0 = u2 at *
    generalize m.getD (j + n + 1) 0 = u1 at *
    generalize m.getD (j + n) 0 = u0 at *
    generalize v.getD (n + 1) 0 = v1 at *
    generalize v.getD n 0 = v0 at *
    generalize B32 ^ n = W at *
    rcases Int.lt_or_le (v1 * 4294967296 + v0) (u2 * 4294967296 + u1) with h | h
    · exfalso
      have h1 : W * (B32 * (v1 * 4294967296 + v0 + 1)) ≤ W * (u0 + B32 * (u1 + B32 * u2)) := Int.mul_le_mul_of_nonneg_left (by unfold B32 at *; omega) (by omega)
      have h2 : W * (B32 * (v1 * 4294967296 + v0 + 1)) = B32 * (W * (v0 + B32 * v1)) + B32 * W := by
        rw [show v1 * 4294967296 + v0 + 1 = (v0 + B32 * v1) + 1 by unfold B32; omega, Int.mul_add B32, Int.mul_add W, Int.mul_left_comm W, Int.mul_one, Int.mul_comm W B32]
      rw [Int.mul_add B32 y] at hlt
      have h3 : B32 * (y + 1) ≤ B32 * W := Int.mul_le_mul_of_nonneg_left (by omega) (by decide)
      rw [Int.mul_add, Int.mul_one] at h3
      unfold B32 at *
      omega
    · exact h

/-- The guess is the quotient, or one more. -/
theorem red_guess32 {a b G U V W x y : Int} (hW : 1 ≤ W) (hx0 : 0 ≤ x) (hx1 : x < W) (hy0 : 0 ≤ y) (hy1 : y < W) (ha : a = x + W * U) (hb : b = y + W * V) (hV : 4294967296 ≤ V)
    (hlt : a < 4294967296 * b) (g0 : 0 ≤ G) (g1 : G ≤ 4294967295) (hle : G * V ≤ U) (hmore : G = 4294967295 ∨ U < (G + 1) * V) :
    a < (G + 1) * b ∧ G * b < a + b := by
  constructor
  · rcases hmore with h | h
    · rw [h]; exact hlt
    · have h1 : W * (U + 1) ≤ W * ((G + 1) * V) := Int.mul_le_mul_of_nonneg_left (by omega) (by omega)
      have h2 : (G + 1) * b = (G + 1) * y + W * ((G + 1) * V) := by rw [hb, Int.mul_add, Int.mul_left_comm]
      have h3 : 0 ≤ (G + 1) * y := Int.mul_nonneg (by omega) hy0
      rw [Int.mul_add, Int.mul_one] at h1
      omega
  · have h1 : W * (G * V) ≤ W * U := Int.mul_le_mul_of_nonneg_left hle (by omega)
    have h2 : G * b = G * y + W * (G * V) := by rw [hb, Int.mul_add, Int.mul_left_comm]
    have h3 : G * y ≤ 4294967295 * y := Int.mul_le_mul_of_nonneg_right g1 hy0
    have h4 : W * 4294967296 ≤ W * V := Int.mul_le_mul_of_nonneg_left hV (by omega)
    omega

/-- A digit of the product is taken off. -/
theorem sm_step {m : List Int} {p : Nat} {c low o lo2 y c2 x E F : Int} (hp : p < m.length) (ho : o = m.getD p 0) (hS : vb B32 m + E = F + B32 ^ p * (c + low)) (hc : c2 = c + y) (hx : x = c2 % 4294967296 + low) :
    vb B32 (m.set p (o + lo2 * 4294967296 - x)) + (E + B32 ^ p * y) = F + B32 ^ (p + 1) * (c2 / 4294967296 + lo2) := by
  rw [vb_set B32 m p _ hp, ← ho, Int.pow_succ, Int.mul_assoc]
  have e : B32 ^ p * (B32 * (c2 / 4294967296 + lo2)) = B32 ^ p * (c + low) + B32 ^ p * y + B32 ^ p * (o + lo2 * 4294967296 - x - o) := by
    rw [← Int.mul_add, ← Int.mul_add]
    congr 1
    unfold B32
    omega
  rw [e]
  omega
/-- A digit of the divisor is put back. -/
theorem ab_step {m : List Int} {p : Nat} {c o y s E : Int} (hp : p < m.length) (ho : o = m.getD p 0) (hS : vb B32 m + B32 ^ p * c = E) (hs : s = c + o + y) :
    vb B32 (m.set p (s % 4294967296)) + B32 ^ (p + 1) * (s / 4294967296) = E + B32 ^ p * y := by
  rw [vb_set B32 m p _ hp, ← ho, Int.pow_succ, Int.mul_assoc, ← hS]
  have e : B32 ^ p * (B32 * (s / 4294967296)) = B32 ^ p * c + B32 ^ p * y - B32 ^ p * (s % 4294967296 - o) := by
    rw [← Int.mul_add, ← Int.mul_sub]
    congr 1
    unfold B32
    omega
  rw [e]
  omega

/-- Two lists that are alike up to place j. -/
theorem vb_drop_sub {m m' : List Int} {j : Nat} (hl : m'.length = m.length) (hj : j ≤ m.length) (ht : m'.take j = m.take j) {X : Int} (h : vb B32 m' + B32 ^ j * X = vb B32 m) : vb B32 (m'.drop j) + X = vb B32 (m.drop j) := by
  have e1 := vb_split B32 m j hj
  have e2 := vb_split B32 m' j (by omega)
  rw [ht] at e2
  rw [e1, e2] at h
  have hp := pow_pos' B32_pos j
  have : B32 ^ j * (vb B32 (m'.drop j) + X) = B32 ^ j * vb B32 (m.drop j) := by rw [Int.mul_add]; omega
  exact Int.eq_of_mul_eq_mul_left (by omega) this

theorem take_set_above {m : List Int} {j p : Nat} (h : j ≤ p) (x : Int) : (m.set p x).take j = m.take j := by
  apply List.ext_getElem?
  intro i
  rw [List.getElem?_take, List.getElem?_take]
  by_cases hi : i < j
  · rw [if_pos hi, if_pos hi, List.getElem?_set, if_neg (by omega)]
  · rw [if_neg hi, if_neg hi]

/-- The last place: the borrow is at most one more than what is there. -/
theorem sm_top {m m0 : List Int} {j n : Nat} {x G b t : Int} (hm : Lim B32 m) (hl : m.length = m0.length) (hj : j + n < m.length) (ht : m.take j = m0.take j) (hz : ∀ i, j + n < i → m.getD i 0 = 0) (hte : t = m.getD (j + n) 0)
    (hS : vb B32 m + B32 ^ j * (G * b) = vb B32 m0 + B32 ^ (j + n) * x) (hb : b < B32 ^ n) (hG : G * b < vb B32 (m0.drop j) + b) : x ≤ t + 1 := by
  have h1 : vb B32 m + B32 ^ j * (G * b - B32 ^ n * x) = vb B32 m0 := by rw [Int.mul_sub, ← Int.mul_assoc (B32 ^ j) (B32 ^ n), ← Int.pow_add]; omega
  have h2 := vb_drop_sub hl (by omega) ht h1
  have e := vb_split B32 (m.drop j) n (by rw [List.length_drop]; omega)
  rw [List.drop_drop] at e
  have e1 := vb_drop B32 (l := m) (k := j + n) hj
  have e4 : vb B32 (m.drop (j + n + 1)) = 0 := by
    refine vb_zeros B32 fun x hx => ?_
    obtain ⟨i, _, rfl⟩ := mem_getD hx
    rw [getD_drop]
    exact hz _ (by omega)
  rw [e4, Int.mul_zero, Int.add_zero, ← hte] at e1
  rw [e1] at e
  have hL := vb_lt B32_pos ((hm.drop j).take n)
  rw [List.length_take, List.length_drop, Nat.min_eq_left (by omega)] at hL
  have hp := pow_pos' B32_pos n
  rcases Int.lt_or_le (t + 1) x with h | h
  · exfalso
    have h3 : B32 ^ n * (t + 2) ≤ B32 ^ n * x := Int.mul_le_mul_of_nonneg_left (by omega) (Int.le_of_lt hp)
    rw [Int.mul_add] at h3
    omega
  · exact h

/-- What is left, where the guess was right. -/
theorem sm_right {m m0 : List Int} {j n : Nat} {x G b t : Int} (hl : m.length = m0.length) (hj : j + n < m.length) (ht : m.take j = m0.take j) (hte : t = m.getD (j + n) 0)
    (hS : vb B32 m + B32 ^ j * (G * b) = vb B32 m0 + B32 ^ (j + n) * x) :
    vb B32 (m.set (j + n) (t - x)) + B32 ^ j * (G * b) = vb B32 m0 ∧ vb B32 ((m.set (j + n) (t - x)).drop j) + G * b = vb B32 (m0.drop j) := by
  have h1 : vb B32 (m.set (j + n) (t - x)) + B32 ^ j * (G * b) = vb B32 m0 := by
    rw [vb_set B32 m (j + n) _ hj, ← hte, show t - x - t = -x by omega, Int.mul_neg]
    omega
  exact ⟨h1, vb_drop_sub (by rw [List.length_set]; exact hl) (by omega) (by rw [take_set_above (by omega)]; exact ht) h1⟩

/-- What is left, where it was one too great: t2 is the top digit as it stands, c the carry behind the divisor that is put back. -/
theorem ab_right {m1 m2 m0 : List Int} {j n : Nat} {x G b t c : Int} (hm2 : Lim B32 m2) (hl : m2.length = m0.length) (hj : j + n < m2.length) (ht : m2.take j = m0.take j) (hz : ∀ i, j + n < i → m2.getD i 0 = 0)
    (hte : t + 4294967296 - x = m2.getD (j + n) 0) (hc0 : 0 ≤ c) (hc1 : c ≤ 1)
    (h1 : vb B32 m1 + B32 ^ j * (G * b) = vb B32 m0 + B32 ^ (j + n + 1)) (h2 : vb B32 m2 + B32 ^ (j + n) * c = vb B32 m1 + B32 ^ j * b) (hG : G * b < vb B32 (m0.drop j) + b) :
    (t + 4294967296 - x + c) % 4294967296 = 0 ∧ vb B32 (m2.set (j + n) 0) + B32 ^ j * ((G - 1) * b) = vb B32 m0 ∧ vb B32 ((m2.set (j + n) 0).drop j) + (G - 1) * b = vb B32 (m0.drop j) := by
  have hd := hm2.getD B32_pos (j + n)
  rw [← hte] at hd
  obtain ⟨hd0, hd1⟩ := hd
  have hsum : B32 ^ j * ((G - 1) * b) = B32 ^ j * (G * b) - B32 ^ j * b := by rw [Int.sub_mul, Int.one_mul, Int.mul_sub]
  rcases Int.lt_or_le (t + 4294967296 - x + c) 4294967296 with h | h
  · exfalso
    -- the number would be too great for its digits
    have h3 : vb B32 (m2.set (j + n) (t + 4294967296 - x + c)) + B32 ^ j * ((G - 1) * b - B32 ^ (n + 1)) = vb B32 m0 := by
      rw [vb_set B32 m2 (j + n) _ hj, ← hte, show t + 4294967296 - x + c - (t + 4294967296 - x) = c by omega, Int.mul_sub, hsum, ← Int.pow_add, ← Nat.add_assoc]
      omega
    have h4 := vb_drop_sub (by rw [List.length_set]; exact hl) (by omega) (by rw [take_set_above (by omega)]; exact ht) h3
    have hl2 : Lim B32 (m2.set (j + n) (t + 4294967296 - x + c)) := hm2.set _ (by omega) (by unfold B32; omega)
    have h5 := vb_lt_of_zeros B32_pos (hl2.drop j) (k := n + 1) (fun i hi => by
      rw [getD_drop, getD_set_other m2 (by omega)]
      exact hz _ (by omega))
    rw [Int.sub_mul, Int.one_mul] at h4
    omega
  · have e : t + 4294967296 - x + c = 4294967296 := by unfold B32 at hd1; omega
    refine ⟨by rw [e]; rfl, ?_⟩
    have h3 : vb B32 (m2.set (j + n) 0) + B32 ^ j * ((G - 1) * b) = vb B32 m0 := by
      rw [vb_set B32 m2 (j + n) _ hj, ← hte, hsum]
      have e2 : B32 ^ (j + n + 1) = B32 ^ (j + n) * c + B32 ^ (j + n) * (t + 4294967296 - x) := by
        rw [Int.pow_succ, ← Int.mul_add]; congr 1; unfold B32; omega
      rw [show (0 : Int) - (t + 4294967296 - x) = -(t + 4294967296 - x) by omega, Int.mul_neg]
      omega
    exact ⟨h3, vb_drop_sub (by rw [List.length_set]; exact hl) (by omega) (by rw [take_set_above (by omega)]; exact ht) h3⟩

/-- A round of the division: the quotient's digit is written. -/
theorem rd_round {m m0 q : List Int} {j : Nat} {D b A : Int} (hq : j < q.length) (h : vb B32 m + B32 ^ j * (D * b) = vb B32 m0) (hI : vb B32 m0 + B32 ^ (j + 1) * (vb B32 (q.drop (j + 1)) * b) = A) :
    vb B32 m + B32 ^ j * (vb B32 ((q.set j D).drop j) * b) = A := by
  rw [vb_drop B32 (l := q.set j D) (k := j) (by rw [List.length_set]; exact hq), getD_set_same hq]
  have e : (q.set j D).drop (j + 1) = q.drop (j + 1) := by
    apply List.ext_getElem?
    intro i
    rw [List.getElem?_drop, List.getElem?_drop, List.getElem?_set, if_neg (by omega)]
  rw [e, Int.add_mul, Int.mul_add, Int.mul_assoc B32, ← Int.mul_assoc (B32 ^ j) B32, show B32 ^ j * B32 = B32 ^ (j + 1) from (Int.pow_succ ..).symm]
  omega
/-- The end of the division. -/
theorem rd_end {Q R A B a b s : Int} (hs : 0 < s) (hA : A = a * s) (hB : B = b * s) (h : R + Q * B = A) (h0 : 0 ≤ R) (h1 : R < B) : Q = a / b ∧ R / s = a % b := by
  have hb : 0 < b := by
    rcases Int.lt_or_le 0 b with h2 | h2
    · exact h2
    · have := Int.mul_nonneg (show 0 ≤ -b by omega) (Int.le_of_lt hs)
      rw [Int.neg_mul] at this
      omega
  have e : R = (a - Q * b) * s := by rw [Int.sub_mul, Int.mul_assoc, ← hB, ← hA]; omega
  have e1 : R / s = a - Q * b := by rw [e, Int.mul_ediv_cancel _ (by omega)]
  have h2 : 0 ≤ a - Q * b := by rw [← e1]; exact Int.ediv_nonneg h0 (by omega)
  have h3 : a - Q * b < b := by
    rw [e, hB] at h1
    exact Int.lt_of_mul_lt_mul_right h1 (by omega)
  obtain ⟨g1, g2⟩ := red_right (a := a) (b := b) (G := Q) (by rw [Int.add_mul, Int.one_mul]; omega) (by omega)
  exact ⟨g1.symm, by rw [e1, g2]⟩


theorem nb_half {x : Int} (h : 0 < x) : nb x = nb (x / 2) + 1 := by
  obtain ⟨a, b, c⟩ := nb_spec h
  obtain ⟨m, hm⟩ : ∃ m, nb x = m + 1 := ⟨nb x - 1, by omega⟩
  rw [hm] at a b ⊢
  rw [Nat.add_sub_cancel] at a
  by_cases h0 : m = 0
  · subst h0
    have e : x / 2 = 0 := by have : x < 2 := b; omega
    rw [e, nb_zero]
  · obtain ⟨k, rfl⟩ : ∃ k, m = k + 1 := ⟨m - 1, by omega⟩
    rw [Int.pow_succ] at a b
    rw [nb_eq (m := k + 1) (by omega) (by rw [Nat.add_sub_cancel]; omega) (by omega)]

theorem nb_digits32 {l : List Int} (hc : Can B32 l) (hl : l ≠ []) : nb (vb B32 l) = 32 * (l.length - 1) + nb (l.getD (l.length - 1) 0) := by
  have hn : 0 < l.length := List.length_pos_iff.2 hl
  have ht := hc.top hl
  have hd := hc.lim.getD B32_pos (l.length - 1)
  obtain ⟨t, hte⟩ : ∃ t, t = l.getD (l.length - 1) 0 := ⟨_, rfl⟩
  rw [← hte] at ht hd ⊢
  have e := vb_take_succ B32 (l := l) (k := l.length - 1) (by omega)
  rw [show l.length - 1 + 1 = l.length by omega, List.take_length, ← hte] at e
  have h0 := vb_nonneg B32_pos (hc.lim.take (l.length - 1))
  have h1 := vb_lt B32_pos (hc.lim.take (l.length - 1))
  rw [List.length_take, Nat.min_eq_left (by omega)] at h1
  obtain ⟨b1, b2, b3⟩ := nb_spec (N := t) (by omega)
  have hp := pow_pos' B32_pos (l.length - 1)
  have hpw : B32 ^ (l.length - 1) = 2 ^ (32 * (l.length - 1)) := by rw [Int.pow_mul]; rfl
  have m1 : B32 ^ (l.length - 1) * (t + 1) ≤ B32 ^ (l.length - 1) * 2 ^ nb t := Int.mul_le_mul_of_nonneg_left (by omega) (Int.le_of_lt hp)
  have m2 : B32 ^ (l.length - 1) * 2 ^ (nb t - 1) ≤ B32 ^ (l.length - 1) * t := Int.mul_le_mul_of_nonneg_left b1 (Int.le_of_lt hp)
  rw [Int.mul_add, Int.mul_one] at m1
  refine nb_eq (by omega) ?_ ?_
  · rw [show 32 * (l.length - 1) + nb t - 1 = 32 * (l.length - 1) + (nb t - 1) by omega, Int.pow_add, ← hpw]
    omega
  · rw [Int.pow_add, ← hpw]
    omega

set_option maxRecDepth 100000 in
set_option maxHeartbeats 1000000 in
theorem rbits_any (ao : Option Addr) (n cap : Nat) (l : List Int) (w : World) (hn : n = l.length) (_h1 : n ≤ cap) (_h2 : cap ≤ 9223372036854775807) (h : Rd w ao l) (hl : Can B32 l) (hM : n ≤ MaxW) :
    Calls Tryd.prog 90 #[.slice ao n cap] w fun e w' => e = .returned (.int .i64 (nb (vb B32 l))) ∧ w = w' := by
  unfold MaxW at hM
  by_cases h0 : n = 0
  · obtain rfl : l = [] := List.eq_nil_of_length_eq_zero (by omega)
    have hz : ((n : Int) == 0) = true := by simp; omega
    clear hn h0
    go_enter Tryd.func90, Tryd.ntmps90
    go_wp2
    go_ret
    exact ⟨rfl, rfl⟩
  · have hne : l ≠ [] := by intro e; subst e; simp at hn; omega
    obtain ⟨b, off, rfl, hat⟩ := h.cases hne
    obtain ⟨p, hp⟩ : ∃ p, n = p + 1 := ⟨n - 1, by omega⟩
    have hpI : (n : Int) - 1 = (p : Int) := by omega
    have hn0 : ((n : Int) == 0) = false := by simp; omega
    obtain ⟨t, hte⟩ : ∃ t, t = l.getD p 0 := ⟨_, rfl⟩
    have hct : w.cell? ⟨b, off + p, none⟩ = some (.int .u64 t) := by rw [hte]; exact hat p (by omega)
    have hbt := hl.lim.getD B32_pos p
    rw [← hte] at hbt
    have hnb : nb (vb B32 l) = 32 * p + nb t := by rw [nb_digits32 hl hne, ← hn, show n - 1 = p by omega, hte]
    have hnt : nb t ≤ 32 := nb_le hbt.2
    have ht0 : 0 ≤ t := hbt.1
    have ht1 : t ≤ 4294967295 := by have := hbt.2; unfold B32 at this; omega
    have hpn : p < n := by omega
    have HNB := Lib.hid hnb
    have hpM : p ≤ 17592186044416 := by omega
    clear hn hte hat hbt hnb hp
    go_enter Tryd.func90, Tryd.ntmps90
    go_wp2
    go_loop [3, 4] (fun cc vv => ∃ (i : Nat) (x : Int), cc = .int .i64 (32 * (p : Int) + (i : Int)) ∧ vv = .int .u64 x ∧ 0 ≤ x ∧ x ≤ 4294967295 ∧ i ≤ 32 ∧ Hid (nb x + i = nb t)) (fun _ vv => (intOf vv).toNat)
    case atStart => exact ⟨0, t, by simp, rfl, ht0, ht1, by omega, by show _ = _; simp⟩
    case round =>
      obtain ⟨i, x, rfl, rfl, hx0, hx1, hi, HI⟩ := hrel
      by_cases hx : 0 < x
      · have hq : x / 2 ≤ 4294967295 ∧ 0 ≤ x / 2 := by omega
        obtain ⟨y, hy⟩ : ∃ y, x / 2 = y := ⟨_, rfl⟩
        have hnx := nb_half hx
        rw [hy] at hnx
        have h2 := HI.out
        have hi2 : i + 1 ≤ 32 := by omega
        have hyb : y ≤ 4294967295 ∧ 0 ≤ y ∧ y < x := by omega
        have HY : Hid (nb y + (i + 1) = nb t) := by show _ = _; omega
        clear h2 hnx HI hq
        obtain ⟨hyb0, hyb1, hyb2⟩ := hyb
        go_wp2
        go_round
        case rel => exact ⟨i + 1, y, by go_num, by go_num, hyb1, hyb0, hi2, HY⟩
        case measure => simp [intOf]; omega
      · obtain rfl : x = 0 := by omega
        have h2 := HI.out
        rw [nb_zero] at h2
        have hval : (32 * (p : Int) + (i : Int)) = ((nb (vb B32 l) : Nat) : Int) := by rw [HNB.out]; omega
        have HV := Lib.hid hval
        clear h2 hval HI HNB
        go_wp2
        go_ret
        exact ⟨by rw [HV.out]; rfl, rfl⟩

end Go.Proofs.YtfanhllcoaondaaDoor

namespace Go.Proofs.YtfanhllcoaondaaDoor
open Go.RowKit


theorem len_room32 {l : List Int} {m : Nat} (hc : Can B32 l) (h : vb B32 l < B32 ^ m) : l.length ≤ m := by
  by_cases hl : l = []
  · subst hl; simp
  · have h1 := hc.ge B32_pos hl
    rcases Nat.lt_or_ge m l.length with h2 | h2
    · have := pow_le_pow B32_pos (show m ≤ l.length - 1 by omega)
      omega
    · exact h2

set_option maxRecDepth 100000 in
theorem small_any (v : Int) (w : World) (h0 : 0 ≤ v) (h1 : v ≤ 18446744073709551615) :
    Calls Tryd.prog 37 #[.int .u64 v] w fun e w' => RetRd B32 w v e w' := by
  have hlim : Lim B32 [v % 4294967296, v / 4294967296] := Lim.cons (by omega) (by unfold B32; omega) (Lim.cons (by omega) (by unfold B32; omega) (Lim.nil _))
  have hvb : vb B32 [v % 4294967296, v / 4294967296] = v := by simp only [vb_cons, vb_nil]; unfold B32; omega
  have htl := tlen_le [v % 4294967296, v / 4294967296]
  have HL := Lib.hid hlim
  have HV := Lib.hid hvb
  have HT := Lib.hid htl
  clear hlim hvb htl
  go_enter Tryd.func37, Tryd.ntmps37
  go_wp2_with (go_at_call 67; refine (rtrim_any (some ⟨w.heap.size, 0, none⟩) 2 2 [v % 4294967296, v / 4294967296] _ rfl (by decide) (by decide) (Rd.of_at fun j hj => by have := news2 w (v % 4294967296) (v / 4294967296) 56 j hj; rwa [addr_add_none] at this)).mono ?_; rintro e w' ⟨rfl, rfl⟩)
  go_ret
  refine ⟨_, _, _, tr [v % 4294967296, v / 4294967296], rfl, (tr_length _).symm, Nat.le_refl _, by have := HT.out; simp at this; omega, ?_, can_tr HL.out, by rw [vb_tr, HV.out], (Below.refl _ _).alloc (Nat.le_refl _) _, ?_⟩
  · refine Rd.take (Rd.of_at fun j hj => ?_) _
    have := news2 w (v % 4294967296) (v / 4294967296) 56 j hj
    rwa [addr_add_none] at this
  · intro g o e
    cases e
    exact Nat.le_refl _

/-- One digit product added, the carry handed on. -/
theorem mul_step {m : List Int} {p : Nat} {c x y v T : Int} (hp : p < m.length) (hv : v = m.getD p 0 + x * y + c) (h : vb B32 m + B32 ^ p * c = T) :
    vb B32 (m.set p (v % 4294967296)) + B32 ^ (p + 1) * (v / 4294967296) = T + B32 ^ p * (x * y) := by
  rw [vb_set _ _ _ _ hp, Int.pow_succ, Int.mul_assoc, Int.add_assoc, ← Int.mul_add]
  have e : v % 4294967296 - m.getD p 0 + B32 * (v / 4294967296) = c + x * y := by unfold B32; omega
  rw [e, Int.mul_add]
  omega

theorem mul_bound {x y : Int} (hx0 : 0 ≤ x) (hx1 : x ≤ 4294967295) (hy0 : 0 ≤ y) (hy1 : y ≤ 4294967295) : 0 ≤ x * y ∧ x * y ≤ 18446744065119617025 := by
  refine ⟨Int.mul_nonneg hx0 hy0, ?_⟩
  have := Int.mul_le_mul hx1 hy1 hy0 (by decide)
  omega

set_option maxRecDepth 100000 in
set_option maxHeartbeats 2000000 in
theorem rmul_any (ax : Option Addr) (na ca : Nat) (a : List Int) (ay : Option Addr) (nb' cb : Nat) (b : List Int) (w : World) (hna : na = a.length) (hnb : nb' = b.length) (h1 : na ≤ ca) (h2 : ca ≤ 9223372036854775807) (h3 : nb' ≤ cb) (h4 : cb ≤ 9223372036854775807)
    (hx : Rd w ax a) (hy : Rd w ay b) (hla : Lim B32 a) (hlb : Lim B32 b) (hM : na + nb' ≤ MaxW) :
    Calls Tryd.prog 65 #[.slice ax na ca, .slice ay nb' cb] w fun e w' => RetRd B32 w (vb B32 a * vb B32 b) e w' := by
  have HA := Lib.hid hna
  have HB := Lib.hid hnb
  clear hna hnb
  have hM63 : na + nb' ≤ 9223372036854775807 := by unfold MaxW at hM; omega
  obtain ⟨N, hN⟩ : ∃ N, N = na + nb' := ⟨_, rfl⟩
  have hNI : (na : Int) + (nb' : Int) = (N : Int) := by omega
  rw [← hN] at hM hM63
  have HN := Lib.hid hN
  have hNa : na ≤ N := by omega
  clear hN
  go_enter Tryd.func65, Tryd.ntmps65
  go_wp2_with (at_make; refine wpList_make_words w rfl (.tmp 14) (.tmp 14) 29 rfl Tryd.underlying29 info_u64 _ _ N rfl rfl (by omega) (by omega) hM ?_; intro w1 hw1 hb1 hs1)
  have harr1 := hw1.arr.1
  go_loopw [6] (fun ii wr => ∃ (i : Nat) (m : List Int), i ≤ na ∧ ii = .int .i64 i ∧ Hid (m.length = N) ∧ Lim B32 m ∧ Arr wr w.heap.size 0 m ∧ Only w.heap.size 0 N w1 wr ∧ Hid (∀ j, i + nb' ≤ j → m.getD j 0 = 0) ∧ Hid (vb B32 m = vb B32 (a.take i) * vb B32 b))
    (fun ii _ => na - (intOf ii).toNat)
  case atStart => exact ⟨0, List.replicate N 0, Nat.zero_le _, rfl, by show _ = _; simp, Lim.replicate B32_pos N, harr1, Only.refl _ _ _ _, fun j _ => (by rw [List.getD_eq_getElem?_getD, List.getElem?_replicate]; split <;> rfl), by show _ = _; rw [vb_replicate]; simp⟩
  case round =>
    obtain ⟨i, m, hi, rfl, HL, hlim, harr, honly, HZ, HV⟩ := hrel
    by_cases hlt : i < na
    · have hbw : Below w.heap.size w wr := hb1.trans (honly.below (Nat.le_refl _) (by omega))
      obtain ⟨b1, o1, rfl, hat⟩ := hx.cases (by intro e; subst e; have := HA.out; simp at this; omega)
      obtain ⟨x, hxe⟩ : ∃ x, x = a.getD i 0 := ⟨_, rfl⟩
      have bx : 0 ≤ x ∧ x < 4294967296 := by rw [hxe]; exact hla.getD B32_pos _
      obtain ⟨bx0, bx1⟩ := bx
      have hcx : w.cell? ⟨b1, o1 + i, none⟩ = some (.int .u64 x) := by rw [hxe]; exact hat i (by rw [← HA.out]; exact hlt)
      have HCX := Lib.hid hcx
      have HXE := Lib.hid hxe
      clear hcx hxe hat hbw
      go_wp2_with fail
      go_loopw [7, 8] (fun cc kk wr => ∃ (k : Nat) (c : Int) (m : List Int), k ≤ nb' ∧ kk = .int .i64 k ∧ cc = .int .u64 c ∧ 0 ≤ c ∧ c ≤ 4294967295 ∧ Hid (m.length = N) ∧ Lim B32 m ∧ Arr wr w.heap.size 0 m ∧ Only w.heap.size 0 N w1 wr ∧ Hid (∀ j, i + nb' ≤ j → m.getD j 0 = 0) ∧ Hid (vb B32 m + B32 ^ (i + k) * c = vb B32 (a.take i) * vb B32 b + B32 ^ i * (x * vb B32 (b.take k))))
        (fun _ kk _ => nb' - (intOf kk).toNat)
      case atStart => exact ⟨0, 0, m, Nat.zero_le _, rfl, rfl, Int.le_refl _, by decide, HL, hlim, harr, honly, HZ, by show _ = _; rw [HV.out]; simp⟩
      case round =>
        clear HL hlim harr honly HZ HV
        obtain ⟨k, c, m, hk, rfl, rfl, hc0, hc1, HL, hlim, harr, honly, HZ, HV⟩ := hrel
        have hbw : Below w.heap.size w wr := hb1.trans (honly.below (Nat.le_refl _) (by omega))
        by_cases hlk : k < nb'
        · obtain ⟨b2, o2, rfl, hat2⟩ := hy.cases (by intro e; subst e; have := HB.out; simp at this; omega)
          obtain ⟨y, hye⟩ : ∃ y, y = b.getD k 0 := ⟨_, rfl⟩
          have bY : 0 ≤ y ∧ y < 4294967296 := by rw [hye]; exact hlb.getD B32_pos _
          obtain ⟨by0, by1⟩ := bY
          have hcy : wr.cell? ⟨b2, o2 + k, none⟩ = some (.int .u64 y) := by rw [hye]; exact hat2.below hbw k (by rw [← HB.out]; exact hlk)
          have hcx : wr.cell? ⟨b1, o1 + i, none⟩ = some (.int .u64 x) := by
            rw [hbw.cell (p := ⟨b1, o1 + i, none⟩) (World.block_lt_of_cell? _ _ HCX.out)]; exact HCX.out
          obtain ⟨p, hp⟩ : ∃ p, i + k = p := ⟨_, rfl⟩
          have hpN : p < N := by omega
          have hpI : (i : Int) + (k : Int) = (p : Int) := by omega
          obtain ⟨o, hoe⟩ : ∃ o, o = m.getD p 0 := ⟨_, rfl⟩
          have bo : 0 ≤ o ∧ o < 4294967296 := by rw [hoe]; exact hlim.getD B32_pos _
          obtain ⟨bo0, bo1⟩ := bo
          have hco : wr.cell? ⟨w.heap.size, p, none⟩ = some (.int .u64 o) := by
            rw [hoe]
            have := harr.at' p (by rw [HL.out]; exact hpN)
            rwa [Nat.zero_add] at this
          have hfr := harr.frozen p
          have hxy := mul_bound bx0 (by omega : x ≤ 4294967295) by0 (by omega : y ≤ 4294967295)
          obtain ⟨q, hq⟩ : ∃ q, x * y = q := ⟨_, rfl⟩
          rw [hq] at hxy
          obtain ⟨hq0, hq1⟩ := hxy
          obtain ⟨v, hv⟩ : ∃ v, v = o + q + c := ⟨_, rfl⟩
          have hvw : IntKind.u64.wrap (IntKind.u64.wrap (o + IntKind.u64.wrap q) + c) = v := by rw [IntKind.wrap_u64, IntKind.wrap_u64, IntKind.wrap_u64]; omega
          have hV' : vb B32 m + B32 ^ p * c = vb B32 (a.take i) * vb B32 b + B32 ^ i * (x * vb B32 (b.take k)) := by rw [← hp]; exact HV.out
          have hst := mul_step (m := m) (p := p) (c := c) (x := x) (y := y) (v := v) (by rw [HL.out]; exact hpN) (by rw [hq, ← hoe]; exact hv) hV'
          have hv0 : 0 ≤ v := by omega
          have hv1 : v ≤ 18446744073709551615 := by omega
          have HST := Lib.hid hst
          have HYE := Lib.hid hye
          have HP := Lib.hid hp
          have HVE := Lib.hid hv
          clear hst hye hoe hat2 hv hV'
          go_wp2_with fail
          go_quiet (fail)
          go_wp2_with fail
          go_roundw
          case rel =>
            have harr2 : Arr (wr.drewN nq) w.heap.size 0 m := harr
            have hon2 : Only w.heap.size 0 N wr (wr.drewN nq) := Only.of_below (bdn (Below.refl _ _) nq)
            have h := HST.out
            rw [HVE.out] at h
            refine ⟨k + 1, (o + q + c) / 4294967296, m.set p ((o + q + c) % 4294967296), by omega, by go_num, rfl, by omega, by omega, ?_, hlim.set p (by omega) (by unfold B32; omega), ?_, (honly.trans hon2).trans (Only.store _ _ (by omega) (by omega)), ?_, ?_⟩
            · show _ = _
              rw [List.length_set]; exact HL.out
            · have := harr2.store p ((o + q + c) % 4294967296)
              rwa [Nat.zero_add] at this
            · intro j hj
              rw [getD_set_other m (by omega)]
              exact HZ.out j hj
            · show _ = _
              rw [show i + (k + 1) = p + 1 by omega, h, vb_take_succ B32 (by rw [← HB.out]; exact hlk), ← HYE.out, Int.mul_add x, Int.mul_add (B32 ^ i), ← hp, Int.pow_add, Int.mul_left_comm x (B32 ^ k) y, ← Int.mul_assoc (B32 ^ i) (B32 ^ k) (x * y)]
              omega
          case measure => simp [intOf]; omega
        · have hkn : k = nb' := by omega
          obtain ⟨p, hp⟩ : ∃ p, i + nb' = p := ⟨_, rfl⟩
          have HNo := HN.out
          have hpN : p < N := by omega
          have hpI : (i : Int) + (nb' : Int) = (p : Int) := by omega
          have hfr := harr.frozen p
          have hv : vb B32 m + B32 ^ p * c = vb B32 (a.take (i + 1)) * vb B32 b := by
            have h := HV.out
            rw [hkn, List.take_of_length_le (l := b) (by rw [← HB.out]; exact Nat.le_refl _), hp] at h
            rw [h, vb_take_succ B32 (by rw [← HA.out]; exact hlt), ← HXE.out, Int.add_mul, Int.mul_assoc]
          have hz : m.getD p 0 = 0 := HZ.out p (by omega)
          have hco : wr.cell? ⟨w.heap.size, p, none⟩ = some (.int .u64 0) := by
            have := harr.at' p (by rw [HL.out]; exact hpN)
            rwa [Nat.zero_add, hz] at this
          have hst : vb B32 (m.set p c) = vb B32 (a.take (i + 1)) * vb B32 b := by
            rw [vb_set B32 m p c (by rw [HL.out]; exact hpN), hz, Int.sub_zero]; exact hv
          have HST := Lib.hid hst
          have HP := Lib.hid hp
          clear hst hv hz HV hkn HNo hp
          go_wp2_with fail
          go_roundw
          case rel =>
            have hp' := HP.out
            refine ⟨i + 1, m.set p c, by omega, by go_num, ?_, hlim.set p hc0 (by unfold B32; omega), ?_, honly.trans (Only.store _ _ (by omega) (by omega)), ?_, HST.out⟩
            · show _ = _
              rw [List.length_set]; exact HL.out
            · have := harr.store p c
              rwa [Nat.zero_add] at this
            · intro j hj
              rw [getD_set_other m (by omega)]
              exact HZ.out j (by omega)
          case measure => simp [intOf]; omega
    · have hin : i = na := by omega
      have hbw : Below w.heap.size w wr := hb1.trans (honly.below (Nat.le_refl _) (by omega))
      have hv : vb B32 m = vb B32 a * vb B32 b := by
        have h := HV.out
        rwa [hin, List.take_of_length_le (l := a) (by rw [← HA.out]; exact Nat.le_refl _)] at h
      have hv2 := Lib.hid hv
      have hat : Rd wr (some ⟨w.heap.size, 0, none⟩) m := Rd.of_at harr.at'
      clear hv HV hin
      go_wp2_with (go_at_call 67; refine (rtrim_any (some ⟨w.heap.size, 0, none⟩) N N m _ HL.out.symm (Nat.le_refl _) hM63 hat).mono ?_; rintro e w' ⟨rfl, rfl⟩)
      go_ret
      have htl := tlen_le m
      exact ⟨_, tlen m, tlen m, tr m, rfl, (tr_length _).symm, Nat.le_refl _, by have := HL.out; omega, hat.take _, can_tr hlim, by rw [vb_tr]; exact hv2.out, hbw, fun g o e => by cases e; exact Nat.le_refl _⟩


set_option maxRecDepth 100000 in
set_option maxHeartbeats 1000000 in
theorem rcmp_any (ax : Option Addr) (nx cx : Nat) (lx : List Int) (ay : Option Addr) (ny cy : Nat) (ly : List Int) (w : World) (hnx : nx = lx.length) (hny : ny = ly.length) (h1 : nx ≤ cx) (h2 : cx ≤ 9223372036854775807) (h3 : ny ≤ cy) (_h4 : cy ≤ 9223372036854775807)
    (rx : Rd w ax lx) (ry : Rd w ay ly) (canx : Can B32 lx) (cany : Can B32 ly) :
    Calls Tryd.prog 62 #[.slice ax nx cx, .slice ay ny cy] w fun e w' => RetV w (.int .i64 (cmpI (vb B32 lx) (vb B32 ly))) e w' := by
  have lenx := Lib.hid hnx
  have leny := Lib.hid hny
  clear hnx hny
  rcases Nat.lt_trichotomy nx ny with hlt | heq | hgt
  · have hv : cmpI (vb B32 lx) (vb B32 ly) = -1 := cmpI_lt (can_lt_of_length B32_pos canx.lim cany (by rw [← lenx.out, ← leny.out]; exact hlt))
    have hne : ((nx : Int) == (ny : Int)) = false := by simp; omega
    have hlI : (nx : Int) < (ny : Int) := by omega
    rw [hv]
    clear hv
    go_enter Tryd.func62, Tryd.ntmps62
    go_wp2
    go_ret
    exact ⟨rfl, Below.refl _ _⟩
  · subst heq
    go_enter Tryd.func62, Tryd.ntmps62
    go_wp2
    go_loopw [5] (fun i wr => ∃ k : Nat, k ≤ nx ∧ i = .int .i64 ((k : Int) - 1) ∧ Below w.heap.size w wr ∧ Hid (∀ j, k ≤ j → j < nx → lx.getD j 0 = ly.getD j 0)) (fun i _ => ((intOf i) + 1).toNat)
    case atStart => exact ⟨nx, Nat.le_refl _, rfl, Below.refl _ _, fun j a b => by omega⟩
    case round =>
      obtain ⟨k, hk, rfl, hb, HE⟩ := hrel
      by_cases hk0 : k = 0
      · subst hk0
        have hv : cmpI (vb B32 lx) (vb B32 ly) = 0 := by
          refine cmpI_eq ?_
          have : lx = ly := by
            apply List.ext_getElem?
            intro j
            by_cases hj : j < nx
            · have := HE.out j (Nat.zero_le _) hj
              rw [List.getElem?_eq_getElem (by rw [← lenx.out]; exact hj), List.getElem?_eq_getElem (by rw [← leny.out]; exact hj)]
              rw [List.getD_eq_getElem?_getD, List.getD_eq_getElem?_getD, List.getElem?_eq_getElem (by rw [← lenx.out]; exact hj), List.getElem?_eq_getElem (by rw [← leny.out]; exact hj)] at this
              simpa using this
            · rw [List.getElem?_eq_none (by rw [← lenx.out]; omega), List.getElem?_eq_none (by rw [← leny.out]; omega)]
          rw [this]
        have HV := Lib.hid hv
        clear hv
        go_wp2
        go_ret
        exact ⟨by rw [HV.out]; rfl, hb⟩
      · obtain ⟨m, rfl⟩ : ∃ m, k = m + 1 := ⟨k - 1, by omega⟩
        have hm : m < nx := by omega
        obtain ⟨x, hxe⟩ : ∃ x, x = lx.getD m 0 := ⟨_, rfl⟩
        obtain ⟨y, hye⟩ : ∃ y, y = ly.getD m 0 := ⟨_, rfl⟩
        have nex : lx ≠ [] := by intro e; subst e; have := lenx.out; simp at this; omega
        have ney : ly ≠ [] := by intro e; subst e; have := leny.out; simp at this; omega
        obtain ⟨bx, ox, rfl, atx⟩ := rx.cases nex
        obtain ⟨bY, oY, rfl, aty⟩ := ry.cases ney
        have hcx : wr.cell? ⟨bx, ox + m, none⟩ = some (.int .u64 x) := by rw [hxe]; exact atx.below hb m (by rw [← lenx.out]; exact hm)
        have hcy : wr.cell? ⟨bY, oY + m, none⟩ = some (.int .u64 y) := by rw [hye]; exact aty.below hb m (by rw [← leny.out]; exact hm)
        have e0 : (((m + 1 : Nat) : Int) - 1) = (m : Int) := by omega
        rw [e0]
        have XE := Lib.hid hxe
        have YE := Lib.hid hye
        clear hxe hye e0
        have HE' : ∀ j, m < j → j < lx.length → lx.getD j 0 = ly.getD j 0 := fun j a b => HE.out j (by omega) (by rw [lenx.out]; exact b)
        have hmx : m < lx.length := by rw [← lenx.out]; exact hm
        have hl2 : lx.length = ly.length := by rw [← lenx.out, ← leny.out]
        rcases Int.lt_trichotomy x y with hlt | heq | hgt
        · have hv : cmpI (vb B32 lx) (vb B32 ly) = -1 := cmpI_lt (lt_of_digit B32_pos canx.lim cany.lim hl2 hmx HE' (by rw [← XE.out, ← YE.out]; exact hlt))
          have HV := Lib.hid hv
          clear hv HE' hmx hl2
          have hd : decide (x < y) = true := by simpa using hlt
          go_wp2
          go_quiet (fail)
          go_wp2
          go_ret
          exact ⟨by rw [HV.out]; rfl, bdn hb _⟩
        · subst heq
          clear HE' hmx hl2
          have hd : decide (x < x) = false := by simp
          go_wp2
          go_quiet (fail)
          go_wp2
          go_quiet (fail)
          go_wp2
          go_roundw
          case rel =>
            refine ⟨m, by omega, by go_num, bdn hb _, ?_⟩
            intro j h1 h2
            by_cases hj : j = m
            · subst hj; rw [← XE.out, ← YE.out]
            · exact HE.out j (by omega) h2
          case measure => simp [intOf]
        · have hv : cmpI (vb B32 lx) (vb B32 ly) = 1 := cmpI_gt (lt_of_digit B32_pos cany.lim canx.lim hl2.symm (by rw [← hl2]; exact hmx) (fun j a b => (HE' j a (by rw [hl2]; exact b)).symm) (by rw [← XE.out, ← YE.out]; exact hgt))
          have HV := Lib.hid hv
          clear hv HE' hmx hl2
          have hd : decide (x < y) = false := by simp; omega
          have hd2 : decide (y < x) = true := by simpa using hgt
          go_wp2
          go_quiet (fail)
          go_wp2
          go_quiet (fail)
          go_wp2
          go_ret
          exact ⟨by rw [HV.out]; rfl, bdn (bdn hb _) _⟩
  · have hv : cmpI (vb B32 lx) (vb B32 ly) = 1 := cmpI_gt (can_lt_of_length B32_pos cany.lim canx (by rw [← lenx.out, ← leny.out]; exact hgt))
    have hne : ((nx : Int) == (ny : Int)) = false := by simp; omega
    have hlI : ¬ (nx : Int) < (ny : Int) := by omega
    rw [hv]
    clear hv
    go_enter Tryd.func62, Tryd.ntmps62
    go_wp2
    go_ret
    exact ⟨rfl, Below.refl _ _⟩

theorem dl_step32 {l m : List Int} {k : Nat} {r d q x : Int} (hk : k < l.length) (hlm : m.length = l.length) (h : vb B32 (m.drop (k + 1)) * d + r = vb B32 (l.drop (k + 1))) (hx : x = l.getD k 0)
    (hq : q = (r * 4294967296 + x) / d) : vb B32 ((m.set k q).drop k) * d + (r * 4294967296 + x) % d = vb B32 (l.drop k) := by
  have hkm : k < (m.set k q).length := by rw [List.length_set, hlm]; exact hk
  rw [vb_drop B32 hk, vb_drop B32 hkm, getD_set_same (by rw [hlm]; exact hk), ← hx, ← h]
  have e : (m.set k q).drop (k + 1) = m.drop (k + 1) := by
    apply List.ext_getElem?
    intro j
    rw [List.getElem?_drop, List.getElem?_drop, List.getElem?_set, if_neg (by omega)]
  rw [e]
  have := Int.mul_ediv_add_emod (r * 4294967296 + x) d
  rw [← hq, Int.mul_comm d q] at this
  have e2 : (q + B32 * vb B32 (m.drop (k + 1))) * d = q * d + B32 * (vb B32 (m.drop (k + 1)) * d) := by rw [Int.add_mul, Int.mul_assoc]
  rw [e2]
  unfold B32 at *
  omega

/-- A slice that reads as digits of base 2^32. -/
def RdD (w : World) (v : Value) (l : List Int) : Prop := ∃ a c, v = .slice a l.length c ∧ l.length ≤ c ∧ c ≤ 9223372036854775807 ∧ Rd w a l ∧ Can B32 l
theorem RdD.below {w w' : World} {v : Value} {l : List Int} (h : RdD w v l) (hb : Below w.heap.size w w') : RdD w' v l := by
  obtain ⟨a, c, rfl, h1, h2, h3, h4⟩ := h
  exact ⟨a, c, rfl, h1, h2, h3.below hb, h4⟩
/-- What the reference's DivMod returns. -/
def RetD2 (w : World) (Q R : Int) (e : Ending) (w' : World) : Prop :=
  ∃ aq nq cq lq ar nr cr lr, e = .returned (.tuple #[.slice aq nq cq, .slice ar nr cr]) ∧ RdD w' (.slice aq nq cq) lq ∧ vb B32 lq = Q ∧ RdD w' (.slice ar nr cr) lr ∧ vb B32 lr = R ∧ Below w.heap.size w w'

set_option maxRecDepth 100000 in
set_option maxHeartbeats 2000000 in
theorem rdiv1_any (aa : Option Addr) (na ca : Nat) (la : List Int) (b2 o2 cb : Nat) (d : Int) (w : World) (hna : na = la.length) (h1 : na ≤ ca) (h2 : ca ≤ 9223372036854775807) (h3 : 1 ≤ cb) (h4 : cb ≤ 9223372036854775807)
    (ha : Rd w aa la) (hla : Can B32 la) (hat : At w b2 o2 [d]) (hd0 : 0 < d) (hd1 : d ≤ 4294967295) (hM : na ≤ MaxW) :
    Calls Tryd.prog 55 #[.slice aa na ca, .slice (some ⟨b2, o2, none⟩) 1 cb] w fun e w' => RetD2 w (vb B32 la / d) (vb B32 la % d) e w' := by
  have hcand : Can B32 [d] := ⟨Lim.cons (by omega) (by unfold B32; omega) (Lim.nil _), by simp [tlen]; omega⟩
  have hvd : vb B32 [d] = d := by simp [vb_cons]
  have hC := rcmp_any aa na ca la (some ⟨b2, o2, none⟩) 1 cb [d] w hna rfl h1 h2 h3 h4 ha (Rd.of_at hat) hla hcand
  rw [hvd] at hC
  have hn0 := vb_nonneg B32_pos hla.lim
  rcases Int.lt_or_le (vb B32 la) d with hlt | hge
  · rw [cmpI_lt hlt] at hC
    have HC := Lib.hid hC
    have hq : vb B32 la / d = 0 := Int.ediv_eq_zero_of_lt hn0 hlt
    have hr : vb B32 la % d = vb B32 la := Int.emod_eq_of_lt hn0 hlt
    have HQ := Lib.hid hq
    have HR := Lib.hid hr
    have HN := Lib.hid hna
    clear hC hq hr hna hlt
    go_enter Tryd.func55, Tryd.ntmps55
    go_wp2_with fail
    refine HC.out.mono ?_
    rintro e w1 ⟨rfl, hb1⟩
    go_wp2_with fail
    go_ret2
    exact ⟨none, 0, 0, [], aa, na, ca, la, rfl, ⟨none, 0, rfl, Nat.le_refl _, by decide, Rd.nil _ _, Can.nil _⟩, by rw [HQ.out]; rfl, ⟨aa, ca, by rw [HN.out], by rw [← HN.out]; exact h1, h2, ha.below hb1, hla⟩, by rw [HR.out], hb1⟩
  · obtain ⟨c, hc⟩ : ∃ c, c = cmpI (vb B32 la) d := ⟨_, rfl⟩
    have hcs : ¬ c < 0 := by
      rw [hc]
      rcases Int.lt_or_eq_of_le hge with h | h
      · rw [cmpI_gt h]; decide
      · rw [cmpI_eq h.symm]; decide
    rw [← hc] at hC
    have HC := Lib.hid hC
    have HN := Lib.hid hna
    clear hC hc hna
    have hM63 : na ≤ 17592186044416 := hM
    go_enter Tryd.func55, Tryd.ntmps55
    go_wp2_with fail
    refine HC.out.mono ?_
    rintro e w1 ⟨rfl, hb1⟩
    go_wp2_with (at_make; refine wpList_make_words w1 rfl (.tmp 33) (.tmp 33) 29 rfl Tryd.underlying29 info_u64 _ _ na rfl rfl rfl rfl hM ?_; intro w2 hw2 hb2 hs2)
    have hbw2 : Below w.heap.size w w2 := hb1.trans (hb2.mono hb1.size)
    have hs1 := hb1.size
    go_wp2_with fail
    go_loopw [7, 8] (fun rr i wr => ∃ (k : Nat) (r : Int) (m : List Int), k ≤ na ∧ i = .int .i64 ((k : Int) - 1) ∧ rr = .int .u64 r ∧ 0 ≤ r ∧ r < d ∧ Hid (m.length = na) ∧ Lim B32 m ∧ Arr wr w1.heap.size 0 m ∧ Only w1.heap.size 0 na w2 wr ∧ Hid (vb B32 (m.drop k) * d + r = vb B32 (la.drop k)))
      (fun _ i _ => ((intOf i) + 1).toNat)
    case atStart => exact ⟨na, 0, List.replicate na 0, Nat.le_refl _, rfl, rfl, Int.le_refl _, hd0, by show _ = _; simp, Lim.replicate B32_pos na, hw2.arr.1, Only.refl _ _ _ _, by
      show _ = _
      rw [List.drop_of_length_le (by simp), List.drop_of_length_le (by rw [← HN.out]; exact Nat.le_refl _)]; simp⟩
    case round =>
      obtain ⟨k, r, m, hk, rfl, rfl, hr0, hr1, HM, hlim, harr, honly, HV⟩ := hrel
      have hbr : Below w.heap.size w wr := hbw2.trans (honly.below hs1 hbw2.size)
      by_cases hk0 : k = 0
      · subst hk0
        have hv : vb B32 m * d + r = vb B32 la := HV.out
        have hdiv : vb B32 la / d = vb B32 m := by
          have e : vb B32 la = r + d * vb B32 m := by rw [Int.mul_comm]; omega
          rw [e, Int.add_mul_ediv_left _ _ (by omega), Int.ediv_eq_zero_of_lt hr0 hr1]; omega
        have hmod : vb B32 la % d = r := by
          have e : vb B32 la = r + d * vb B32 m := by rw [Int.mul_comm]; omega
          rw [e, Int.add_mul_emod_self_left, Int.emod_eq_of_lt hr0 hr1]
        have HDI := Lib.hid hdiv
        have HMO := Lib.hid hmod
        clear hv hdiv hmod
        have htm := tlen_le m
        go_wp2_with fail
        refine (rtrim_any _ na na m wr HM.out.symm (Nat.le_refl _) (by omega) (Rd.of_at harr.at')).mono ?_
        rintro e w' ⟨rfl, rfl⟩
        go_wp2_with fail
        refine (small_any r wr hr0 (by omega)).mono ?_
        rintro e w3 ⟨ar, nr, cr, lr, rfl, hnr, hr2, hr3, hr4, hr5, hr6, hb3, -⟩
        have HNR := Lib.hid hnr
        clear hnr
        go_wp2_with fail
        go_ret2
        rw [HM.out] at htm
        exact ⟨some ⟨w1.heap.size, 0, none⟩, tlen m, tlen m, tr m, ar, nr, cr, lr, rfl, ⟨some ⟨w1.heap.size, 0, none⟩, tlen m, by rw [tr_length], by rw [tr_length]; exact Nat.le_refl _, by omega, (Rd.of_at (harr.at'.take _)).below hb3, can_tr hlim⟩, by rw [vb_tr, HDI.out], ⟨ar, cr, by rw [HNR.out], by rw [← HNR.out]; exact hr2, hr3, hr4, hr5⟩, by rw [hr6, HMO.out], hbr.trans (hb3.mono hbr.size)⟩
      · obtain ⟨j, rfl⟩ : ∃ j, k = j + 1 := ⟨k - 1, by omega⟩
        have hj : j < na := by omega
        obtain ⟨ba, oa, rfl, hata⟩ := ha.cases (by intro e; subst e; have := HN.out; simp at this; omega)
        obtain ⟨x, hxe⟩ : ∃ x, x = la.getD j 0 := ⟨_, rfl⟩
        have hcx : wr.cell? ⟨ba, oa + j, none⟩ = some (.int .u64 x) := by rw [hxe]; exact hata.below hbr j (by rw [← HN.out]; exact hj)
        have hcd : wr.cell? ⟨b2, o2, none⟩ = some (.int .u64 d) := by have := hat.below hbr 0 (by simp); simpa using this
        have hcq := harr.at' j (by rw [HM.out]; exact hj)
        have hfr := harr.frozen j
        rw [Nat.zero_add] at hcq
        have bx : 0 ≤ x ∧ x < B32 := by rw [hxe]; exact hla.lim.getD B32_pos j
        have bx0 : 0 ≤ x := bx.1
        have bx1 : x ≤ 4294967295 := by have := bx.2; unfold B32 at this; omega
        have e0 : (((j + 1 : Nat) : Int) - 1) = (j : Int) := by omega
        rw [e0]
        have hT : r * 4294967296 + x ≤ 18446744073709551615 := by omega
        have hrm : 0 ≤ r * 4294967296 := by omega
        obtain ⟨T, hTe⟩ : ∃ T, r * 4294967296 + x = T := ⟨_, rfl⟩
        obtain ⟨q, hqe⟩ : ∃ q, T / d = q := ⟨_, rfl⟩
        obtain ⟨r2, hre⟩ : ∃ r2, T % d = r2 := ⟨_, rfl⟩
        have hT0 : 0 ≤ T := by omega
        have hq0 : 0 ≤ q := by rw [← hqe]; exact Int.ediv_nonneg hT0 (by omega)
        have hq1 : q < B32 := by
          rw [← hqe]
          refine Int.ediv_lt_of_lt_mul hd0 ?_
          unfold B32
          omega
        have hr20 : 0 ≤ r2 := by rw [← hre]; exact Int.emod_nonneg _ (by omega)
        have hr21 : r2 < d := by rw [← hre]; exact Int.emod_lt_of_pos _ hd0
        have hst := dl_step32 (l := la) (m := m) (k := j) (by rw [← HN.out]; exact hj) (by rw [HM.out, HN.out]) HV.out hxe (by rw [hTe, hqe])
        rw [hTe, hre] at hst
        have htq : T.tdiv d = q := by rw [Int.tdiv_eq_ediv_of_nonneg hT0, hqe]
        have htr : T.tmod d = r2 := by rw [Int.tmod_eq_emod_of_nonneg hT0, hre]
        have hdz : (d == 0) = false := by rw [beq_eq_false_iff_ne]; omega
        have hTm : T ≤ 18446744073709551615 := by omega
        have HST := Lib.hid hst
        have hb1x : 0 ≤ q ∧ q ≤ 4294967295 := ⟨hq0, by unfold B32 at hq1; omega⟩
        have hb2lt : b2 < w1.heap.size := by
          have := hat.lt (by simp)
          omega
        have hon2 : Only w1.heap.size 0 na wr (wr.setCell ⟨w1.heap.size, j, none⟩ (.int .u64 q)) := Only.store j _ (Nat.zero_le _) hj
        have hcd2 : (wr.setCell ⟨w1.heap.size, j, none⟩ (.int .u64 q)).cell? ⟨b2, o2, none⟩ = some (.int .u64 d) := by
          have := hon2.at' (hat.below hbr) (by omega) 0 (by simp)
          simpa using this
        have harr2 := harr.store j q
        rw [Nat.zero_add] at harr2
        clear hst hxe e0 bx
        go_wp2_with fail
        go_roundw
        case rel =>
          refine ⟨j, r2, m.set j q, by omega, by go_num, rfl, hr20, hr21, ?_, hlim.set j hq0 hq1, harr2, honly.trans hon2, HST.out⟩
          show _ = _
          rw [List.length_set]; exact HM.out
        case measure => simp [intOf]

end Go.Proofs.YtfanhllcoaondaaDoor

namespace Go.Proofs.YtfanhllcoaondaaDoor
open Go.RowKit

/-- make([]uint64, k, n), k and n variables. -/
theorem wpList_make_words_cap {P : Program} (w : World) {ops : Array Oper} {rest : List Oper} {o : Oper} {a : Act} {Q : Exit → Act → World → Prop}
    (hg : o.guard = none) (l c : Operand) (t : TypeId) (hop : o.op = Op.makeSlice t l c)
    (h1 : P.underlying t = some (.slice 56)) (hi : (P.info? 56).map (fun i => (i.zero, i.size, i.bytes)) = some (some (.int .u64 0), 1, 8))
    (L C : Int) (k n : Nat) (hl : a.eval l = .int .i64 L) (hc : a.eval c = .int .i64 C) (hL : L = (k : Int)) (hC : C = (n : Int)) (hkn : k ≤ n) (b : n ≤ MaxW)
    (hK : ∀ w', Ow w.heap.size w' (.slice (some ⟨w.heap.size, 0, none⟩) k n) (List.replicate k 0) → Below w.heap.size w w' → w.heap.size < w'.heap.size → wpList P ops Q rest (a.put o.dst (.slice (some ⟨w.heap.size, 0, none⟩) k n)) w') :
    wpList P ops Q (o :: rest) a w := by
  obtain ⟨i, h2, h3, h4, h5⟩ := info_parts hi
  unfold MaxW at b
  have hr := run_make (P := P) w t 56 i (.int .u64 0) h1 h2 h3 .i64 .i64 (k : Int) (n : Int) (by omega) (by omega) (by rw [h5]; omega) (by omega)
  simp only [Int.toNat_natCast] at hr
  have hown0 := World.ownsRow_lit (e := 56) (size := i.size) w (madeCells (Value.int .u64 0).cells (n * i.size)) n (Nat.le_refl _) (by unfold maxLen; omega) (size_madeCells _ _)
  have e : (madeCells (Value.int .u64 0).cells (n * i.size)).toList = vals (List.replicate n 0) := by
    rw [h4, Nat.mul_one, show (Value.int .u64 0).cells = #[.int .u64 0] from rfl, toList_madeCells_one, vals, List.map_replicate]
  rw [e, h4] at hown0
  have hown1 : Ow w.heap.size (w.alloc (.cells (madeCells (Value.int .u64 0).cells (n * i.size)) 56)) (.slice (some ⟨w.heap.size, 0, none⟩) n n) (List.replicate n 0) := by
    unfold Ow; rw [List.length_replicate, h4]; exact hown0
  have hown2 := hown1.take k hkn
  rw [List.take_replicate, Nat.min_eq_left hkn] at hown2
  refine wpList_plain hg fun K hK' => ?_
  subst hL
  subst hC
  unfold Oper.wp
  simp [execOp, hop, hl, hc, hr, Result.andThen]
  exact hK' _ _ (hK _ hown2 ((Below.refl _ _).alloc (Nat.le_refl _) _) (by simp))

theorem rshl_step {o a : List Int} {q i : Nat} {x c v P : Int} (hi : i < a.length) (hx : x = a.getD i 0) (hol : o.length = q + i) (hv : v = x * P + c)
    (h : vb B32 o + B32 ^ (q + i) * c = B32 ^ q * (P * vb B32 (a.take i))) :
    vb B32 (o ++ [v % 4294967296]) + B32 ^ (q + (i + 1)) * (v / 4294967296) = B32 ^ q * (P * vb B32 (a.take (i + 1))) := by
  rw [vb_snoc, hol, vb_take_succ B32 hi, ← hx, ← Nat.add_assoc, Int.pow_succ, Int.mul_assoc, Int.add_assoc, ← Int.mul_add]
  have e : v % 4294967296 + B32 * (v / 4294967296) = c + x * P := by unfold B32; omega
  rw [e, Int.mul_add (B32 ^ (q + i)), ← Int.add_assoc, h, Int.mul_add P, Int.mul_add (B32 ^ q), Int.pow_add]
  have e2 : B32 ^ q * (P * (B32 ^ i * x)) = B32 ^ q * B32 ^ i * (x * P) := by
    rw [Int.mul_assoc, Int.mul_comm P, Int.mul_assoc]
  rw [e2]

theorem pow2_words32 (k : Nat) : (2 : Int) ^ k = B32 ^ (k / 32) * 2 ^ (k % 32) := by
  have e : B32 ^ (k / 32) = 2 ^ (32 * (k / 32)) := by
    rw [Int.pow_mul]; rfl
  rw [e, ← Int.pow_add]
  congr 1
  omega
theorem pow2_le31 {r : Nat} (hr : r ≤ 31) : (2 : Int) ^ r ≤ 2147483648 := by
  have := pow_le_pow (b := 2) (by decide) hr
  exact this

/-- A function has returned a number: a slice of digits with no room behind it. -/
def RetRdF (b : Int) (w : World) (N : Int) (e : Ending) (w' : World) : Prop :=
  ∃ ao n l, e = .returned (.slice ao n n) ∧ n = l.length ∧ n ≤ 9223372036854775807 ∧ Rd w' ao l ∧ Can b l ∧ vb b l = N ∧ Below w.heap.size w w' ∧ ∀ g o, ao = some ⟨g, o, none⟩ → w.heap.size ≤ g
theorem RetRdF.rd {b : Int} {w : World} {N : Int} {e : Ending} {w' : World} (h : RetRdF b w N e w') : RetRd b w N e w' := by
  obtain ⟨ao, n, l, h1, h2, h3, h4⟩ := h
  exact ⟨ao, n, n, l, h1, h2, Nat.le_refl _, h3, h4⟩
set_option maxRecDepth 100000 in
set_option maxHeartbeats 4000000 in
theorem rshl_full (ax : Option Addr) (na ca : Nat) (a : List Int) (k : Nat) (w : World) (hna : na = a.length) (_h1 : na ≤ ca) (_h2 : ca ≤ 9223372036854775807) (hx : Rd w ax a) (hla : Lim B32 a) (hk : k ≤ 16777216) (hM : na + 600000 ≤ MaxW) :
    Calls Tryd.prog 36 #[.slice ax na ca, .int .i64 k] w fun e w' => RetRdF B32 w (vb B32 a * 2 ^ k) e w' := by
  have HA := Lib.hid hna
  have hM2 := hM
  unfold MaxW at hM2
  by_cases h0 : na = 0
  · have hz : ((na : Int) == 0) = true := by rw [h0]; rfl
    have ha0 : a = [] := List.eq_nil_of_length_eq_zero (by omega)
    have HA0 := Lib.hid ha0
    clear hna ha0 h0
    go_enter Tryd.func36, Tryd.ntmps36
    go_wp2
    go_ret
    exact ⟨none, 0, [], rfl, rfl, by omega, Rd.nil _ _, Can.nil _, by rw [HA0.out]; simp, Below.refl _ _, fun g o e => by cases e⟩
  · have hz : ((na : Int) == 0) = false := by rw [beq_eq_false_iff_ne]; omega
    obtain ⟨b, off, rfl, hat⟩ := hx.cases (by intro e; rw [e] at hna; simp at hna; omega)
    obtain ⟨q, hq⟩ : ∃ q, q = k / 32 := ⟨_, rfl⟩
    obtain ⟨r, hr⟩ : ∃ r, r = k % 32 := ⟨_, rfl⟩
    have hq1 : ((k : Int)).tdiv 32 = (q : Int) := by rw [Int.tdiv_eq_ediv_of_nonneg (by omega)]; omega
    have hr1 : ((k : Int)).tmod 32 = (r : Int) := by rw [Int.tmod_eq_emod_of_nonneg (by omega)]; omega
    have hr31 : r ≤ 31 := by omega
    have hqb : q ≤ 524288 := by omega
    have hpow : (2 : Int) ^ k = B32 ^ q * 2 ^ r := by rw [hq, hr]; exact pow2_words32 k
    have hp31 := pow2_le31 hr31
    have hpp := pow2_pos r
    have HPOW := Lib.hid hpow
    obtain ⟨N, hN⟩ : ∃ N, q + na + 1 = N := ⟨_, rfl⟩
    have hNI : (q : Int) + (na : Int) + 1 = (N : Int) := by omega
    have hNM : N ≤ MaxW := by omega
    have hqN : q ≤ N := by omega
    have hN63 : N ≤ 17592186344416 := by omega
    have HN := Lib.hid hN
    obtain ⟨P, hP⟩ : ∃ P : Int, P = 2 ^ r := ⟨_, rfl⟩
    have HP := Lib.hid hP
    rw [← hP] at hp31 hpp HPOW
    clear hq hr hpow hN hna h0 hP
    go_enter Tryd.func36, Tryd.ntmps36
    go_wp2_with (at_make; refine wpList_make_words_cap w rfl (.tmp 13) (.tmp 19) 29 rfl Tryd.underlying29 info_u64 _ _ q N rfl rfl (by omega) (by omega) hqN hNM ?_; intro w1 hw1 hb1 hs1)
    go_loopw [5, 6, 7] (fun vo cc ii wr => ∃ (i : Nat) (c : Int) (o : List Int), i ≤ na ∧ ii = .int .i64 i ∧ cc = .int .u64 c ∧ 0 ≤ c ∧ c < P ∧ Hid (o.length = q + i) ∧ Lim B32 o ∧ Ow w.heap.size wr vo o ∧ Below w.heap.size w wr ∧ Hid (vb B32 o + B32 ^ (q + i) * c = B32 ^ q * (P * vb B32 (a.take i))))
      (fun _ _ ii _ => na - (intOf ii).toNat)
    case atStart => exact ⟨0, 0, List.replicate q 0, Nat.zero_le _, rfl, rfl, Int.le_refl _, hpp, by show _ = _; simp, Lim.replicate B32_pos q, hw1, hb1, by show _ = _; rw [vb_replicate]; simp⟩
    case round =>
      obtain ⟨i, c, o, hi, rfl, rfl, hc0, hc1, HL, hlim, hO, hb, HV⟩ := hrel
      by_cases hlt : i < na
      · obtain ⟨x, hxe⟩ : ∃ x, x = a.getD i 0 := ⟨_, rfl⟩
        have bx : 0 ≤ x ∧ x < 4294967296 := by rw [hxe]; exact hla.getD B32_pos _
        obtain ⟨bx0, bx1⟩ := bx
        have hcx : wr.cell? ⟨b, off + i, none⟩ = some (.int .u64 x) := by rw [hxe]; exact hat.below hb i (by rw [← HA.out]; exact hlt)
        obtain ⟨S, hS⟩ : ∃ S, x * 2 ^ r = S := ⟨_, rfl⟩
        have hSP : x * P = S := by rw [HP.out]; exact hS
        have hS0 : 0 ≤ S := by rw [← hSP]; exact Int.mul_nonneg bx0 (by omega)
        have hS1 : S + P ≤ 4294967296 * P := by
          rw [← hSP]
          have := Int.mul_le_mul_of_nonneg_right (show x + 1 ≤ 4294967296 by omega) (show 0 ≤ P by omega)
          rw [Int.add_mul, Int.one_mul] at this
          exact this
        have hS2 : S ≤ 9223372036854775807 := by omega
        have hst := rshl_step (o := o) (a := a) (q := q) (i := i) (x := x) (c := c) (v := S + c) (P := P) (by rw [← HA.out]; exact hlt) hxe HL.out (by rw [hSP]) HV.out
        have hc2 : (S + c) / 4294967296 < P := Int.ediv_lt_of_lt_mul (by decide) (by omega)
        have HC2 := Lib.hid hc2
        have HST := Lib.hid hst
        have hlen : o.length + 1 ≤ MaxW := by rw [HL.out]; unfold MaxW; omega
        have hbs := hb.size
        clear hst hxe hat hSP hc2
        go_wp2_with (at_builtin; refine wpList_append_words _ rfl _ _ 29 rfl Tryd.underlying29 info_u64 w.heap.size u5 o rfl (hO.alloc _) ⟨wr.heap.size, 0, none⟩ 1 1 [(S + c) % 4294967296] rfl rfl (news1 _ _ _) hlen (by simp; omega) ?_; intro v' w2 hO2 hb2)
        go_roundw
        case rel =>
          refine ⟨i + 1, (S + c) / 4294967296, o ++ [(S + c) % 4294967296], by omega, by go_num, rfl, by omega, HC2.out, ?_, hlim.app (Lim.cons (by omega) (by unfold B32; omega) (Lim.nil _)), hO2, (hb.alloc hbs _).trans hb2, HST.out⟩
          show _ = _
          rw [List.length_append, HL.out]; rfl
        case measure => simp [intOf]; omega
      · have hin : i = na := by omega
        have hlen : o.length + 1 ≤ MaxW := by rw [HL.out]; unfold MaxW; omega
        have hbs := hb.size
        have hlimc : Lim B32 (o ++ [c]) := hlim.app (Lim.cons hc0 (by unfold B32; omega) (Lim.nil _))
        have hv : vb B32 (o ++ [c]) = vb B32 a * 2 ^ k := by
          have h8 := HV.out
          rw [hin, List.take_of_length_le (l := a) (by rw [← HA.out]; exact Nat.le_refl _)] at h8
          rw [vb_snoc, HL.out, hin, h8, HPOW.out, ← Int.mul_assoc, Int.mul_comm]
        have hl2 : (o ++ [c]).length = N := by rw [List.length_append, HL.out, hin, ← HN.out]; rfl
        have HVC := Lib.hid hv
        have HL2 := Lib.hid hl2
        clear hv hin hl2
        go_wp2_with (at_builtin; refine wpList_append_words _ rfl _ _ 29 rfl Tryd.underlying29 info_u64 w.heap.size u5 o rfl (hO.alloc _) ⟨wr.heap.size, 0, none⟩ 1 1 [c] rfl rfl (news1 _ _ _) hlen (by simp; omega) ?_; intro v' w2 hO2 hb2; obtain ⟨ao', cap', rfl, hq1', hq2', hr', hfr'⟩ := hO2.form'; rw [HL2.out] at hq1' ⊢)
        refine (rtrim_any ao' N cap' (o ++ [c]) w2 HL2.out.symm hq1' hq2' hr').mono ?_
        rintro e w' ⟨rfl, rfl⟩
        go_wp2_with fail
        go_ret
        have htl := tlen_le (o ++ [c])
        exact ⟨ao', tlen (o ++ [c]), tr (o ++ [c]), rfl, (tr_length _).symm, by have := HL2.out; omega, hr'.take _, can_tr hlimc, by rw [vb_tr]; exact HVC.out, (hb.alloc hbs _).trans hb2, hfr'⟩

theorem rshl_any (ax : Option Addr) (na ca : Nat) (a : List Int) (k : Nat) (w : World) (hna : na = a.length) (h1 : na ≤ ca) (h2 : ca ≤ 9223372036854775807) (hx : Rd w ax a) (hla : Lim B32 a) (hk : k ≤ 16777216) (hM : na + 600000 ≤ MaxW) :
    Calls Tryd.prog 36 #[.slice ax na ca, .int .i64 k] w fun e w' => RetRd B32 w (vb B32 a * 2 ^ k) e w' :=
  (rshl_full ax na ca a k w hna h1 h2 hx hla hk hM).mono fun _ _ h => h.rd

theorem shr_shl32 (x : Int) (r : Nat) (hr : r ≤ 32) : x / 2 ^ r = (x * 2 ^ (32 - r)) / 4294967296 := by
  have e : (4294967296 : Int) = 2 ^ r * 2 ^ (32 - r) := by rw [← Int.pow_add, show r + (32 - r) = 32 by omega]; rfl
  rw [e, Int.mul_ediv_mul_of_pos_left _ _ (pow2_pos _)]

theorem rshr_step {o m : List Int} {j r : Nat} {x y d : Int} (hr : r ≤ 31) (hj : j + 1 < m.length) (hy : y = m.getD (j + 1) 0) (hol : o.length = j) (hx : d = x / 2 ^ r + (y * 2 ^ (32 - r)) % 4294967296)
    (h : vb B32 o + B32 ^ j * (x / 2 ^ r) = vb B32 (m.take (j + 1)) / 2 ^ r) :
    vb B32 (o ++ [d]) + B32 ^ (j + 1) * (y / 2 ^ r) = vb B32 (m.take (j + 1 + 1)) / 2 ^ r := by
  rw [vb_snoc, hol, hx, vb_take_succ B32 hj, ← hy, Int.pow_succ, Int.mul_assoc, Int.add_assoc, ← Int.mul_add]
  have e : x / 2 ^ r + (y * 2 ^ (32 - r)) % 4294967296 + B32 * (y / 2 ^ r) = x / 2 ^ r + y * 2 ^ (32 - r) := by
    rw [shr_shl32 y r (by omega)]; unfold B32; omega
  rw [e, Int.mul_add, ← Int.add_assoc, h]
  have e3 : B32 ^ j * (B32 * y) = (B32 ^ j * (y * 2 ^ (32 - r))) * 2 ^ r := by
    have h64 : (B32 : Int) = 2 ^ (32 - r) * 2 ^ r := by rw [← Int.pow_add, show 32 - r + r = 32 by omega]; rfl
    rw [Int.mul_assoc, Int.mul_assoc, ← h64, Int.mul_comm B32 y]
  rw [Int.mul_assoc (B32 ^ j) B32 y, e3, Int.add_mul_ediv_right _ _ (by have := pow2_pos r; omega)]

theorem vb_drop_div32 {m : List Int} (h : Lim B32 m) (q : Nat) (hq : q ≤ m.length) : vb B32 (m.drop q) = vb B32 m / B32 ^ q := by
  have h1 := vb_split B32 m q hq
  have h2 := vb_lt B32_pos (h.take q)
  rw [List.length_take, Nat.min_eq_left hq] at h2
  have h3 := vb_nonneg B32_pos (h.take q)
  rw [h1, Int.add_mul_ediv_left _ _ (by have := pow_pos' B32_pos q; omega), Int.ediv_eq_zero_of_lt h3 h2]
  omega

/-- A digit shifted down, and the lower part of the next one, are a digit. -/
theorem rshr_digit {x y : Int} {r : Nat} (hr : r ≤ 31) (hx0 : 0 ≤ x) (hx1 : x < 4294967296) : 0 ≤ x / 2 ^ r ∧ x / 2 ^ r + (y * 2 ^ (32 - r)) % 4294967296 < 4294967296 := by
  have hp := pow2_pos r
  have hp2 := pow2_pos (32 - r)
  have e32 : (4294967296 : Int) = 2 ^ (32 - r) * 2 ^ r := by rw [← Int.pow_add, show 32 - r + r = 32 by omega]; rfl
  refine ⟨Int.ediv_nonneg hx0 (Int.le_of_lt hp), ?_⟩
  have h1 : x / 2 ^ r < 2 ^ (32 - r) := Int.ediv_lt_of_lt_mul hp (by rw [← e32]; exact hx1)
  have h2 : (y * 2 ^ (32 - r)) % 4294967296 = (y % 2 ^ r) * 2 ^ (32 - r) := by
    rw [e32, Int.mul_comm y, Int.mul_emod_mul_of_pos _ _ hp2, Int.mul_comm]
  have h3 : y % 2 ^ r < 2 ^ r := Int.emod_lt_of_pos _ hp
  have h4 := Int.mul_le_mul_of_nonneg_right (show y % 2 ^ r + 1 ≤ 2 ^ r by omega) (Int.le_of_lt hp2)
  rw [Int.add_mul, Int.one_mul, Int.mul_comm (2 ^ r) (2 ^ (32 - r)), ← e32] at h4
  omega

set_option maxRecDepth 100000 in
set_option maxHeartbeats 4000000 in
theorem rshr_any (ax : Option Addr) (na ca : Nat) (a : List Int) (k : Nat) (w : World) (hna : na = a.length) (_h1 : na ≤ ca) (_h2 : ca ≤ 9223372036854775807) (hx : Rd w ax a) (hla : Lim B32 a) (hk : k ≤ 16777216) (hM : na ≤ MaxW) :
    Calls Tryd.prog 73 #[.slice ax na ca, .int .i64 k] w fun e w' => RetRd B32 w (vb B32 a / 2 ^ k) e w' := by
  have HA := Lib.hid hna
  have hM2 := hM
  unfold MaxW at hM2
  obtain ⟨q, hq⟩ : ∃ q, q = k / 32 := ⟨_, rfl⟩
  obtain ⟨r, hr⟩ : ∃ r, r = k % 32 := ⟨_, rfl⟩
  have hq1 : ((k : Int)).tdiv 32 = (q : Int) := by rw [Int.tdiv_eq_ediv_of_nonneg (by omega)]; omega
  have hr1 : ((k : Int)).tmod 32 = (r : Int) := by rw [Int.tmod_eq_emod_of_nonneg (by omega)]; omega
  have hr31 : r ≤ 31 := by omega
  have hqb : q ≤ 524288 := by omega
  have hpow : (2 : Int) ^ k = B32 ^ q * 2 ^ r := by rw [hq, hr]; exact pow2_words32 k
  obtain ⟨m, hm⟩ : ∃ m, m = a.drop q := ⟨_, rfl⟩
  have hml : m.length = na - q := by rw [hm, List.length_drop, hna]
  have hlm : Lim B32 m := by rw [hm]; exact hla.drop q
  have hvm : vb B32 m / 2 ^ r = vb B32 a / 2 ^ k := by
    by_cases hqn : q ≤ a.length
    · rw [hm, vb_drop_div32 hla q hqn, hpow, Int.ediv_ediv_of_nonneg (Int.le_of_lt (pow_pos' B32_pos q))]
    · have e0 : m = [] := by rw [hm]; exact List.drop_eq_nil_of_le (by omega)
      have e1 := vb_lt B32_pos hla
      have e2 := pow_le_pow B32_pos (show a.length ≤ q by omega)
      have e3 := Int.mul_le_mul_of_nonneg_left (show (1 : Int) ≤ 2 ^ r from pow2_pos r) (Int.le_of_lt (pow_pos' B32_pos q))
      rw [e0, hpow, Int.ediv_eq_zero_of_lt (vb_nonneg B32_pos hla) (by omega)]
      simp
  have HML := Lib.hid hml
  have HVM := Lib.hid hvm
  have hgm : ∀ j, m.getD j 0 = a.getD (q + j) 0 := by intro j; rw [hm, getD_drop]
  have HGM := Lib.hid hgm
  clear hq hr hpow hm hml hvm hna hgm
  go_enter Tryd.func73, Tryd.ntmps73
  go_wp2
  go_loopw [5, 6] (fun vo ii wr => ∃ (i j : Nat) (o : List Int), Hid (q + j = i) ∧ ii = .int .i64 i ∧ q ≤ i ∧ (q ≤ na → i ≤ na) ∧ i ≤ 17592186968704 ∧ Hid (o.length = j) ∧ Lim B32 o ∧ Ow w.heap.size wr vo o ∧ Below w.heap.size w wr ∧ Hid (i < na → vb B32 o + B32 ^ j * (m.getD j 0 / 2 ^ r) = vb B32 (m.take (j + 1)) / 2 ^ r) ∧ Hid (na ≤ i → vb B32 o = vb B32 m / 2 ^ r))
    (fun _ ii _ => na - (intOf ii).toNat)
  case atStart =>
    refine ⟨q, 0, [], rfl, rfl, Nat.le_refl _, fun h => h, by omega, rfl, Lim.nil _, Ow.nil _ _, Below.refl _ _, fun h => ?_, fun h => ?_⟩
    · have hl0 : 0 < m.length := by rw [HML.out]; omega
      rw [vb_take_succ B32 hl0]; simp
    · have : m = [] := List.eq_nil_of_length_eq_zero (by rw [HML.out]; omega)
      rw [this]; simp
  case round =>
    obtain ⟨i, j, o, HIJ, rfl, hqi, hin, hib, HL, hlim, hO, hb, HV, HV2⟩ := hrel
    by_cases hlt : i < na
    · obtain ⟨b, off, rfl, hat⟩ := hx.cases (by intro e; have := HA.out; rw [e] at this; simp at this; omega)
      obtain ⟨x, hxe⟩ : ∃ x, x = m.getD j 0 := ⟨_, rfl⟩
      have hxa : x = a.getD i 0 := by rw [hxe, HGM.out, HIJ.out]
      have bx : 0 ≤ x ∧ x < 4294967296 := by rw [hxe]; exact hlm.getD B32_pos _
      obtain ⟨bx0, bx1⟩ := bx
      have hcx : wr.cell? ⟨b, off + i, none⟩ = some (.int .u64 x) := by rw [hxa]; exact hat.below hb i (by rw [← HA.out]; exact hlt)
      obtain ⟨z, hz⟩ : ∃ z, x / 2 ^ r = z := ⟨_, rfl⟩
      have hz0 : 0 ≤ z := by rw [← hz]; exact Int.ediv_nonneg bx0 (Int.le_of_lt (pow2_pos r))
      have hz1 : z < 4294967296 := by rw [← hz]; exact Int.lt_of_le_of_lt (Int.ediv_le_self _ bx0) bx1
      have hlen : o.length + 1 ≤ MaxW := by rw [HL.out]; have := HIJ.out; unfold MaxW; omega
      have hbs := hb.size
      have hij := HIJ.out
      have hV := HV.out hlt
      rw [← hxe] at hV
      by_cases h2 : i + 1 < na
      · have h2I : (i : Int) + 1 < (na : Int) := by omega
        obtain ⟨y, hye⟩ : ∃ y, y = m.getD (j + 1) 0 := ⟨_, rfl⟩
        have hya : y = a.getD (i + 1) 0 := by rw [hye, HGM.out, ← hij]; rfl
        have bY : 0 ≤ y ∧ y < 4294967296 := by rw [hye]; exact hlm.getD B32_pos _
        obtain ⟨by0, by1⟩ := bY
        have hcy : wr.cell? ⟨b, off + (i + 1), none⟩ = some (.int .u64 y) := by rw [hya]; exact hat.below hb (i + 1) (by rw [← HA.out]; exact h2)
        obtain ⟨T, hT⟩ : ∃ T, y * 2 ^ (32 - r) = T := ⟨_, rfl⟩
        have hT0 : 0 ≤ T := by rw [← hT]; exact Int.mul_nonneg by0 (Int.le_of_lt (pow2_pos _))
        have hT1 : T ≤ 18446744069414584320 := by
          have hp32 : (2 : Int) ^ (32 - r) ≤ 4294967296 := by
            have := pow_le_pow (b := 2) (by decide) (show 32 - r ≤ 32 by omega)
            exact this
          have h5 := Int.mul_le_mul (show y ≤ 4294967295 by omega) hp32 (Int.le_of_lt (pow2_pos _)) (by decide)
          rw [hT] at h5
          omega
        have hdg := rshr_digit (x := x) (y := y) (r := r) hr31 bx0 bx1
        rw [hz, hT] at hdg
        have hst := rshr_step (o := o) (m := m) (j := j) (r := r) (x := x) (y := y) (d := z + T % 4294967296) hr31 (by rw [HML.out]; omega) hye HL.out (by rw [hz, hT]) hV
        have hd0 : 0 ≤ z + T % 4294967296 := by omega
        have hd1 : z + T % 4294967296 < 4294967296 := hdg.2
        have hdm : (z + T) % 4294967296 = z + T % 4294967296 := by omega
        rw [hye] at hst
        have HST := Lib.hid hst
        have HD0 := Lib.hid hd0
        have HD1 := Lib.hid hd1
        have HDM := Lib.hid hdm
        clear hst hye hya hxe hxa hat hdg hij hV hd0 hd1 hdm
        go_wp2_with (at_builtin; refine wpList_append_words _ rfl _ _ 29 rfl Tryd.underlying29 info_u64 w.heap.size u5 o rfl (hO.alloc _) ⟨wr.heap.size, 0, none⟩ 1 1 [(z + T) % 4294967296] rfl rfl (news1 _ _ _) hlen (by simp; omega) ?_; intro v' w2 hO2 hb2)
        rw [HDM.out] at hO2
        go_roundw
        case rel =>
          have hij := HIJ.out
          refine ⟨i + 1, j + 1, o ++ [z + T % 4294967296], by show _ = _; omega, by go_num, by omega, fun _ => by omega, by omega, ?_, hlim.app (Lim.cons HD0.out (by unfold B32; exact HD1.out) (Lim.nil _)), hO2, (hb.alloc hbs _).trans hb2, fun _ => HST.out, fun h => absurd h (by omega)⟩
          show _ = _
          rw [List.length_append, HL.out]; rfl
        case measure => simp [intOf]; omega
      · have h2I : ¬ (i : Int) + 1 < (na : Int) := by omega
        have hjm : j + 1 = m.length := by rw [HML.out]; omega
        have hst : vb B32 (o ++ [z]) = vb B32 m / 2 ^ r := by
          rw [hjm, List.take_length, hz] at hV
          rw [vb_snoc, HL.out]; exact hV
        have HST := Lib.hid hst
        have hzm : z % 4294967296 = z := Int.emod_eq_of_lt hz0 hz1
        have HZM := Lib.hid hzm
        clear hst hxe hxa hat hij hV hjm hzm
        go_wp2_with (at_builtin; refine wpList_append_words _ rfl _ _ 29 rfl Tryd.underlying29 info_u64 w.heap.size u5 o rfl (hO.alloc _) ⟨wr.heap.size, 0, none⟩ 1 1 [z % 4294967296] rfl rfl (news1 _ _ _) hlen (by simp; omega) ?_; intro v' w2 hO2 hb2)
        rw [HZM.out] at hO2
        go_roundw
        case rel =>
          have hij := HIJ.out
          refine ⟨i + 1, j + 1, o ++ [z], by show _ = _; omega, by go_num, by omega, fun _ => by omega, by omega, ?_, hlim.app (Lim.cons hz0 (by unfold B32; exact hz1) (Lim.nil _)), hO2, (hb.alloc hbs _).trans hb2, fun h => absurd h (by omega), fun _ => HST.out⟩
          show _ = _
          rw [List.length_append, HL.out]; rfl
        case measure => simp [intOf]; omega
    · have hv := HV2.out (by omega)
      rw [HVM.out] at hv
      have HVO := Lib.hid hv
      obtain ⟨ao', cap', rfl, hq1', hq2', hr', hfr'⟩ := hO.form'
      obtain ⟨n, hn⟩ : ∃ n, n = o.length := ⟨_, rfl⟩
      rw [← hn] at hq1' ⊢
      have HNO := Lib.hid hn
      clear hn hv HV HV2
      go_wp2_with (go_at_call 67; refine (rtrim_any ao' n cap' o _ HNO.out hq1' hq2' hr').mono ?_; rintro e w' ⟨rfl, rfl⟩)
      go_ret
      have htl := tlen_le o
      exact ⟨ao', tlen o, tlen o, tr o, rfl, (tr_length _).symm, Nat.le_refl _, by have := HNO.out; omega, hr'.take _, can_tr hlim, by rw [vb_tr]; exact HVO.out, hb, hfr'⟩
end Go.Proofs.YtfanhllcoaondaaDoor

namespace Go.Proofs.YtfanhllcoaondaaDoor
open Go.RowKit

/-- One step of Newton's from above: never below the root. -/
theorem newton_ge {x r : Int} (hr : 0 < r) : x < ((r + x / r) / 2 + 1) * ((r + x / r) / 2 + 1) := by
  obtain ⟨q, hq⟩ : ∃ q, q = x / r := ⟨_, rfl⟩
  rw [← hq]
  have h1 : x < r * (q + 1) := by
    have a := Int.mul_ediv_add_emod x r
    have b := Int.emod_lt_of_pos x hr
    rw [← hq] at a
    rw [Int.mul_add]
    omega
  obtain ⟨n, hn⟩ : ∃ n, n = (r + q) / 2 + 1 := ⟨_, rfl⟩
  rw [← hn]
  have h2 : r + (q + 1) ≤ 2 * n := by omega
  -- 4 n^2 is at least (r + (q + 1))^2, that is at least 4 r (q + 1)
  by_cases hq1 : 0 ≤ q + 1
  · have h3 : (r + (q + 1)) * (r + (q + 1)) ≤ (2 * n) * (2 * n) := Int.mul_le_mul h2 h2 (by omega) (by omega)
    have h4 : 0 ≤ (r - (q + 1)) * (r - (q + 1)) := by
      rcases Int.le_total 0 (r - (q + 1)) with h | h
      · exact Int.mul_nonneg h h
      · exact Int.mul_nonneg_of_nonpos_of_nonpos h h
    have e1 : (r + (q + 1)) * (r + (q + 1)) = (r - (q + 1)) * (r - (q + 1)) + 4 * (r * (q + 1)) := by
      simp only [Int.add_mul, Int.mul_add, Int.sub_mul, Int.mul_sub, Int.mul_comm (q + 1) r, Int.mul_one, Int.one_mul]
      omega
    have e2 : (2 * n) * (2 * n) = 4 * (n * n) := by rw [Int.mul_assoc, Int.mul_left_comm n 2 n]; omega
    omega
  · have h3 : r * (q + 1) ≤ 0 := Int.mul_nonpos_of_nonneg_of_nonpos (by omega) (by omega)
    have h4 : 0 ≤ n * n := by
      rcases Int.le_total 0 n with h | h
      · exact Int.mul_nonneg h h
      · exact Int.mul_nonneg_of_nonpos_of_nonpos h h
    omega

theorem newton_done {x r : Int} (hr : 0 < r) (h : r ≤ (r + x / r) / 2) : r * r ≤ x := by
  have a := Int.mul_ediv_add_emod x r
  have b := Int.emod_nonneg x (by omega : r ≠ 0)
  have : r * r ≤ r * (x / r) := Int.mul_le_mul_of_nonneg_left (by omega) (by omega)
  omega

theorem newton_quo {x r : Int} (hr : 0 < r) (h : x < (r + 1) * (r + 1)) : x / r ≤ r + 2 := by
  have : x / r < r + 3 := by
    refine Int.ediv_lt_of_lt_mul hr ?_
    have e : (r + 1) * (r + 1) = r * r + 2 * r + 1 := by rw [Int.add_mul, Int.mul_add]; omega
    rw [Int.add_mul]
    omega
  omega

/-- Two numbers of the call's own are returned. -/
def RetTwo (w : World) (R S : Int) (e : Ending) (w' : World) : Prop :=
  ∃ v1 l1 v2 l2, e = .returned (.tuple #[v1, v2]) ∧ Ow w.heap.size w' v1 l1 ∧ Can B64 l1 ∧ vb B64 l1 = R ∧ Ow w.heap.size w' v2 l2 ∧ Can B64 l2 ∧ vb B64 l2 = S ∧ Below w.heap.size w w'

/-- The greatest number whose square is not above N. -/
def IsRoot (N R : Int) : Prop := 0 ≤ R ∧ R * R ≤ N ∧ N < (R + 1) * (R + 1)

theorem root_unique {N R S : Int} (h : IsRoot N R) (k : IsRoot N S) : R = S := by
  obtain ⟨h1, h2, h3⟩ := h
  obtain ⟨k1, k2, k3⟩ := k
  rcases Int.lt_trichotomy R S with a | a | a
  · have : (R + 1) * (R + 1) ≤ S * S := Int.mul_le_mul (by omega) (by omega) (by omega) (by omega)
    omega
  · exact a
  · have : (S + 1) * (S + 1) ≤ R * R := Int.mul_le_mul (by omega) (by omega) (by omega) (by omega)
    omega

def RetSqrt (w : World) (N : Int) (e : Ending) (w' : World) : Prop := ∃ R, IsRoot N R ∧ RetTwo w R (N - R * R) e w'

theorem at_new (w : World) (x : Int) (t : TypeId) : Rd (w.alloc (.cells #[.int .u64 x] t)) (some ⟨w.heap.size, 0, none⟩) [x] := by
  refine Rd.of_at fun j hj => ?_
  have := news1 w x t j hj
  rwa [addr_add_none] at this

theorem vb_one (x : Int) : vb B64 [x] = x := by simp [vb_cons]

end Go.Proofs.YtfanhllcoaondaaDoor

namespace Go.Proofs.YtfanhllcoaondaaDoor
open Go.RowKit

theorem info_u8 : (Tryd.prog.info? 5).map (fun i => (i.zero, i.size, i.bytes)) = some (some (.int .u8 0), 1, 1) := by kernel_rfl

/-- make([]byte, n), n a number. -/
theorem wpList_make_bytes {P : Program} (w : World) {ops : Array Oper} {rest : List Oper} {o : Oper} {a : Act} {Q : Exit → Act → World → Prop}
    (hg : o.guard = none) (l c : Operand) (t : TypeId) (hop : o.op = Op.makeSlice t l c)
    (h1 : P.underlying t = some (.slice 5)) (hi : (P.info? 5).map (fun i => (i.zero, i.size, i.bytes)) = some (some (.int .u8 0), 1, 1))
    (L C : Int) (n : Nat) (hl : a.eval l = .int .i64 L) (hc : a.eval c = .int .i64 C) (hL : L = (n : Int)) (hC : C = (n : Int)) (b : n ≤ MaxW)
    (hK : ∀ w', ArrB w' w.heap.size 0 (List.replicate n 0) → Below w.heap.size w w' → w.heap.size < w'.heap.size → wpList P ops Q rest (a.put o.dst (.slice (some ⟨w.heap.size, 0, none⟩) n n)) w') :
    wpList P ops Q (o :: rest) a w := by
  obtain ⟨i, h2, h3, h4, h5⟩ := info_parts hi
  unfold MaxW at b
  refine wpList_make_full w hg l c t hop w.heap.size 5 i (.int .u8 0) 1 h1 h2 h3 h4 .i64 .i64 L C n hl hc hL hC (by rw [h5]; omega) (by unfold maxLen; omega) (Nat.le_refl _) fun w' hown hgr => ?_
  have e : (madeCells (Value.int .u8 0).cells (n * 1)).toList = List.replicate n (.int .u8 0) := by
    rw [Nat.mul_one, show (Value.int .u8 0).cells = #[.int .u8 0] from rfl, toList_madeCells_one]
  rw [e] at hown
  rcases hown.2 with ⟨h, _⟩ | ⟨g, cap, cur, hv, hb, hh, hn, hm, hcs, htk⟩
  · simp at h
  · simp only [Value.slice.injEq, Option.some.injEq, Addr.mk.injEq, and_true] at hv
    obtain ⟨rfl, _⟩ := hv
    refine hK w' ⟨cur, _, hh, fun j hj => ?_⟩ ((Below.refl _ _).grown hgr (Nat.le_refl _) (fun k h => by cases h)) (Array.getElem?_eq_some_iff.1 hh).1
    rw [List.length_replicate] at hj
    have : (cur.toList.take (n * 1))[j]? = (List.replicate n (Value.int .u8 0))[j]? := by rw [htk]
    rw [List.getElem?_take, if_pos (by omega), List.getElem?_replicate, if_pos hj] at this
    rw [Nat.zero_add]
    simpa [List.getD_eq_getElem?_getD, hj] using this

/-- How many zeros (as bytes) a list opens with. -/
def lead : List Int → Nat
  | [] => 0
  | x :: l => if x = 48 then lead l + 1 else 0
theorem lead_le (l : List Int) : lead l ≤ l.length := by
  induction l with
  | nil => exact Nat.le_refl _
  | cons x l ih => simp only [lead, List.length_cons]; split <;> omega
theorem lead_eq {l : List Int} {k : Nat} (hk : k ≤ l.length) (h0 : ∀ j, j < k → l.getD j 0 = 48) (h1 : k = l.length ∨ l.getD k 0 ≠ 48) : lead l = k := by
  induction l generalizing k with
  | nil => simp at hk; simp [lead, hk]
  | cons x l ih =>
    cases k with
    | zero =>
      rcases h1 with h1 | h1
      · simp at h1
      · simp at h1; simp [lead, h1]
    | succ k =>
      have hx : x = 48 := by have := h0 0 (by omega); simpa using this
      have := ih (k := k) (by simpa using hk) (fun j hj => by have := h0 (j + 1) (by omega); rwa [List.getD_cons_succ] at this) (by
        rcases h1 with h1 | h1
        · left; simpa using h1
        · right; rwa [List.getD_cons_succ] at h1)
      simp [lead, hx, this]

/-- What is left of a row of bytes when the zeros at its head are cut off: none, or a slice further on in the row. -/
def RetTL (g off n cap : Nat) (l : List Int) (w : World) (e : Ending) (w' : World) : Prop :=
  w = w' ∧ ((lead l = n ∧ e = .returned (.slice none 0 0)) ∨ (lead l < n ∧ e = .returned (.slice (some ⟨g, off + lead l, none⟩) (n - lead l) (cap - lead l))))

set_option maxRecDepth 100000 in
set_option maxHeartbeats 2000000 in
theorem trimByte_any (g off n cap : Nat) (l : List Int) (w : World) (hn : n = l.length) (h1 : n ≤ cap) (_h2 : cap ≤ 9223372036854775807) (h : AtB w g off l) :
    Calls Tryd.prog 110 #[.slice (some ⟨g, off, none⟩) n cap, .int .u8 48] w fun e w' => RetTL g off n cap l w e w' := by
  have HN := Lib.hid hn
  clear hn
  go_enter Tryd.func110, Tryd.ntmps110
  go_wp2
  go_loop [0] (fun v => ∃ (k : Nat) (a : Addr), k ≤ n ∧ v = .slice (some a) (n - k) (cap - k) ∧ (k < n → a = ⟨g, off + k, none⟩) ∧ Hid (∀ j, j < k → l.getD j 0 = 48)) (fun v => match v with | .slice _ m _ => m | _ => 0)
  case atStart => exact ⟨0, _, Nat.zero_le _, rfl, fun _ => rfl, fun j h => by omega⟩
  case round =>
    obtain ⟨k, a, hk, rfl, ha, HZ⟩ := hrel
    by_cases hlt : k < n
    · obtain rfl := ha hlt
      obtain ⟨x, hx⟩ : ∃ x, x = l.getD k 0 := ⟨_, rfl⟩
      have hc : w.cell? ⟨g, off + k, none⟩ = some (.int .u8 x) := by rw [hx]; exact h k (by rw [← HN.out]; exact hlt)
      have hpos : 0 < n - k := by omega
      have HX := Lib.hid hx
      clear hx ha
      by_cases h48 : x = 48
      · have hb : (x == 48) = true := by simp [h48]
        have HX48 := Lib.hid h48
        clear h48
        by_cases hone : cap - k = 1
        · go_wp2
          go_round
          case rel =>
            refine ⟨k + 1, ⟨g, off + k, none⟩, by omega, ?_, fun h => by omega, ?_⟩
            · rw [show n - (k + 1) = n - k - 1 by omega, show cap - (k + 1) = 0 by omega]
            · intro j hj
              by_cases hjk : j = k
              · subst hjk; rw [← HX.out, HX48.out]
              · exact HZ.out j (by omega)
          case measure => show n - k - 1 < n - k; omega
        · go_wp2
          go_round
          case rel =>
            refine ⟨k + 1, ⟨g, off + k + 1, none⟩, by omega, ?_, fun h => rfl, ?_⟩
            · rw [show n - (k + 1) = n - k - 1 by omega, show cap - (k + 1) = cap - k - 1 by omega]
            · intro j hj
              by_cases hjk : j = k
              · subst hjk; rw [← HX.out, HX48.out]
              · exact HZ.out j (by omega)
          case measure => show n - k - 1 < n - k; omega
      · have hb : (x == 48) = false := by simp [h48]
        have hl : lead l = k := lead_eq (by rw [← HN.out]; omega) HZ.out (Or.inr (by rw [← HX.out]; exact h48))
        have HL := Lib.hid hl
        clear hl
        go_wp2
        go_ret
        refine ⟨rfl, Or.inr ⟨by rw [HL.out]; exact hlt, ?_⟩⟩
        rw [HL.out]
        rfl
    · have hkn : k = n := by omega
      subst hkn
      have hl : lead l = k := lead_eq (by rw [← HN.out]; omega) HZ.out (Or.inl HN.out)
      have HL := Lib.hid hl
      clear hl
      go_wp2
      go_ret
      exact ⟨rfl, Or.inl ⟨HL.out, rfl⟩⟩
set_option maxRecDepth 100000 in
set_option maxHeartbeats 2000000 in
/-- bytes.TrimLeft(s, "0"). -/
theorem trimLeft_any (g off n cap : Nat) (l : List Int) (w : World) (hn : n = l.length) (h1 : n ≤ cap) (h2 : cap ≤ 9223372036854775807) (h : AtB w g off l) (hp : 0 < n) :
    Calls Tryd.prog 97 #[.slice (some ⟨g, off, none⟩) n cap, .string ⟨#[48]⟩] w fun e w' => RetTL g off n cap l w e w' := by
  have hn0 : ((n : Int) == 0) = false := by simp; omega
  have HT := Lib.hid (trimByte_any g off n cap l w hn h1 h2 h)
  clear hn
  go_enter Tryd.func97, Tryd.ntmps97
  go_wp2_with fail
  refine HT.out.mono ?_
  rintro e w' ⟨rfl, h | h⟩
  · obtain ⟨hl, rfl⟩ := h
    have HL := Lib.hid hl
    clear hl
    go_wp2_with fail
    go_ret
    exact ⟨rfl, Or.inl ⟨HL.out, rfl⟩⟩
  · obtain ⟨hl, rfl⟩ := h
    go_wp2_with fail
    go_ret
    exact ⟨rfl, Or.inr ⟨hl, rfl⟩⟩

set_option maxRecDepth 100000 in
set_option maxHeartbeats 2000000 in
/-- nat.chunkPowers of a number below 10^19: there are none. -/
theorem powers_small (ao : Option Addr) (n cap : Nat) (l : List Int) (w : World) (hn : n = l.length) (h1 : n ≤ cap) (h2 : cap ≤ 9223372036854775807) (h : Rd w ao l) (hl : Lim B64 l) (hM : n ≤ MaxW) (hN : vb B64 l < 10000000000000000000) :
    Calls Tryd.prog 95 #[.slice ao n cap] w fun e w' => RetV w (.slice none 0 0) e w' := by
  have hbits := Lib.hid (bits_any ao n cap l w hn h1 h2 h hl hM)
  have HN := Lib.hid hn
  have limc : Lim B64 [10000000000000000000] := Lim.cons (by decide) (by decide) (Lim.nil _)
  obtain ⟨t, ht⟩ : ∃ t, t = nb (vb B64 l) := ⟨_, rfl⟩
  rw [← ht] at hbits
  have HNN := Lib.hid hN
  clear hn ht hN
  go_enter Tryd.func95, Tryd.ntmps95
  go_wp2_with fail
  refine hbits.out.mono ?_
  rintro e w' ⟨rfl, rfl⟩
  go_wp2_with fail
  refine (of_any _ 1 1 [10000000000000000000] _ rfl (Nat.le_refl _) (by decide) (at_new _ _ _) (by decide)).mono ?_
  rintro e w1 ⟨v1, rfl, hO1, hb1⟩
  have hbA : Below w.heap.size w w1 := ((Below.refl _ _).alloc (Nat.le_refl _) _).trans (hb1.mono (by simp))
  obtain ⟨a1, c1, rfl, hc1, hc2, hr1⟩ := hO1.form
  obtain ⟨m, hm⟩ : ∃ m, m = (tr [10000000000000000000]).length := ⟨_, rfl⟩
  rw [← hm] at hc1
  rw [← hm]
  have hcmp := cmp_any a1 m c1 (tr [10000000000000000000]) ao n cap l w1 hm HN.out hc1 hc2 h1 h2 hr1 (h.below hbA) (limc.take _) hl
  rw [vb_tr, vb_one, cmpI_gt HNN.out] at hcmp
  have HCMP := Lib.hid hcmp
  clear hcmp hm
  go_wp2_with fail
  refine wp_loop_rounds 1 ?_
  rw [rounds_succ]
  go_wp2_with fail
  refine HCMP.out.mono ?_
  rintro e w2 ⟨rfl, hb2⟩
  go_wp2_with fail
  go_ret
  exact ⟨rfl, hbA.trans (hb2.mono hbA.size)⟩

def RetWD (g off n : Nat) (N : Int) (w : World) (e : Ending) (w' : World) : Prop := e = .returned (.tuple #[]) ∧ ArrB w' g off (dg n N) ∧ Only g off (off + n) w w'

set_option maxRecDepth 100000 in
set_option maxHeartbeats 2000000 in
/-- nat.writeDigits without powers: chunk by chunk. -/
theorem writeDigits_none (g off n cap M : Nat) (D : List Int) (ao : Option Addr) (m ca : Nat) (l : List Int) (ap : Option Addr) (cp : Nat) (w : World) (hn : n = 19 * M) (hD : D.length = n) (h1 : n ≤ cap) (h2 : cap ≤ 9223372036854775807)
    (hd : ArrB w g off D) (hm : m = l.length) (h3 : m ≤ ca) (h4 : ca ≤ 9223372036854775807) (h : Rd w ao l) (hl : Lim B64 l) (hM : m ≤ MaxW) :
    Calls Tryd.prog 96 #[.slice (some ⟨g, off, none⟩) n cap, .slice ao m ca, .slice ap 0 cp] w fun e w' => RetWD g off n (vb B64 l) w e w' := by
  have HM := Lib.hid hm
  have HNN := Lib.hid hn
  have HD := Lib.hid hD
  have hglt := hd.lt
  clear hm hn hD
  go_enter Tryd.func96, Tryd.ntmps96
  go_wp2_with fail
  refine (of_any ao m ca l w HM.out h3 h4 h hM).mono ?_
  rintro e w1 ⟨v1, rfl, hO1, hb1⟩
  go_wp2_with fail
  refine (writeChunks_any g off n cap M D v1 (tr l) w.heap.size w1 HNN.out HD.out h1 h2 (hd.below hb1 hglt) hO1 (hl.take _) hglt hb1.size).mono ?_
  rintro e w2 ⟨rfl, harr, honly⟩
  go_wp2_with fail
  go_end0
  rw [vb_tr] at harr
  exact ⟨rfl, harr, ((OnlyB.of_below hb1 hglt).trans honly).only⟩

/-- The digits of a number of at most n of them, without zeros ahead; one zero for 0. -/
def txt (n : Nat) (N : Int) : List Int := if lead (dg n N) = n then [48] else (dg n N).drop (lead (dg n N))

set_option maxRecDepth 100000 in
set_option maxHeartbeats 2000000 in
theorem text_small (ao : Option Addr) (n cap : Nat) (l : List Int) (w : World) (hn : n = l.length) (h1 : n ≤ cap) (h2 : cap ≤ 9223372036854775807) (h : Rd w ao l) (hl : Lim B64 l) (hM : n ≤ MaxW) (hN : vb B64 l < 10000000000000000000) :
    Calls Tryd.prog 66 #[.slice ao n cap] w fun e w' => RetV w (.string (strOfNums (txt 19 (vb B64 l)))) e w' := by
  have hpw := Lib.hid (powers_small ao n cap l w hn h1 h2 h hl hM hN)
  have HN := Lib.hid hn
  clear hn hN
  go_enter Tryd.func66, Tryd.ntmps66
  go_wp2_with fail
  refine hpw.out.mono ?_
  rintro e w1 ⟨rfl, hb1⟩
  go_wp2_with (at_make; refine wpList_make_bytes _ rfl (.tmp 9) (.tmp 9) 93 rfl Tryd.underlying93 info_u8 _ _ 19 rfl rfl rfl rfl (by decide) ?_; intro w2 hA2 hb2 hs2)
  have hbA : Below w1.heap.size w1 w2 := by assumption
  have hA : ArrB w2 w1.heap.size 0 (List.replicate 19 0) := by assumption
  have hbB : Below w.heap.size w w2 := hb1.trans (hbA.mono hb1.size)
  refine (writeDigits_none w1.heap.size 0 19 19 1 _ ao n cap l none 0 w2 rfl (by simp) (by decide) (by decide) hA HN.out h1 h2 (h.below hbB) hl hM).mono ?_
  rintro e w3 ⟨rfl, harr, honly⟩
  have hbC : Below w.heap.size w w3 := hbB.trans (honly.below hb1.size hbB.size)
  go_wp2_with fail
  refine (trimLeft_any w1.heap.size 0 19 19 (dg 19 (vb B64 l)) w3 (dg_length _ _).symm (by decide) (by decide) harr.at' (by decide)).mono ?_
  rintro e w' ⟨rfl, h | h⟩
  · obtain ⟨hld, rfl⟩ := h
    have htx : strOfNums (txt 19 (vb B64 l)) = ⟨#[48]⟩ := by rw [txt, if_pos hld]; rfl
    have HTX := Lib.hid htx
    clear htx hld
    go_wp2_with fail
    go_ret
    exact ⟨by rw [HTX.out]; rfl, hbC⟩
  · obtain ⟨hld, rfl⟩ := h
    obtain ⟨k, hk⟩ : ∃ k, k = lead (dg 19 (vb B64 l)) := ⟨_, rfl⟩
    obtain ⟨bs, hbs⟩ : ∃ bs, bs = txt 19 (vb B64 l) := ⟨_, rfl⟩
    have htx : bs = (dg 19 (vb B64 l)).drop k := by rw [hbs, txt, if_neg (by omega), hk]
    rw [← hk] at hld ⊢
    have HBS := Lib.hid hbs
    have hlen : bs.length = 19 - k := by rw [htx, List.length_drop, dg_length]
    have hcells := (harr.drop k).at'
    rw [← htx] at hcells
    have hconv := fun dst hd => run_convert_bytes_arg (P := Tryd.prog) w3 93 5 Tryd.underlying93 Tryd.underlying5 w1.heap.size (0 + k) (19 - k) (19 - k) bs hlen (fun i hi => hcells i (by rw [hlen]; exact hi)) dst hd
    have hc9 := hconv 9 Tryd.underlying9
    have hne : (((19 - k : Nat) : Int) == 0) = false := by simp; omega
    rw [Nat.zero_add] at hc9 ⊢
    clear htx hbs hk hlen hcells hconv harr
    go_wp2_with fail
    go_ret
    exact ⟨by rw [← HBS.out]; rfl, hbC⟩
end Go.Proofs.YtfanhllcoaondaaDoor

namespace Go.Proofs.YtfanhllcoaondaaDoor
open Go.RowKit

def sumv (ls : List (List Int)) : Int := (ls.map (vb B64)).foldr (· + ·) 0
theorem sumv_cons (l : List Int) (ls : List (List Int)) : sumv (l :: ls) = vb B64 l + sumv ls := rfl
theorem sumv_append (ls ms : List (List Int)) : sumv (ls ++ ms) = sumv ls + sumv ms := by
  induction ls with
  | nil => simp [sumv]
  | cons l ls ih => rw [List.cons_append, sumv_cons, sumv_cons, ih, Int.add_assoc]
theorem sumv_take {ls : List (List Int)} {k : Nat} (hk : k < ls.length) : sumv (ls.take (k + 1)) = sumv (ls.take k) + vb B64 (ls.getD k []) := by
  rw [List.take_succ_eq_append_getElem hk, sumv_append, List.getD_eq_getElem?_getD, List.getElem?_eq_getElem hk]
  simp [sumv]

theorem sum_bound {ls : List (List Int)} {k s : Nat} (hk : k < ls.length) (hl : Lim B64 (ls.getD k [])) (ht : tlen (ls.getD k []) ≤ s) (h : sumv (ls.take k) ≤ (k : Int) * B64 ^ s) : sumv (ls.take (k + 1)) ≤ ((k + 1 : Nat) : Int) * B64 ^ s := by
  rw [sumv_take hk]
  have h1 : vb B64 (ls.getD k []) < B64 ^ s := by
    rw [← vb_tr]
    have h2 := vb_lt B64_pos (can_tr hl).lim
    rw [tr_length] at h2
    have h3 := pow_le_pow B64_pos ht
    omega
  have e : ((k + 1 : Nat) : Int) * B64 ^ s = (k : Int) * B64 ^ s + B64 ^ s := by
    rw [Int.natCast_add, Int.add_mul]; simp
  omega
theorem sum_fit {x : Int} {k s : Nat} (h : x ≤ (k : Int) * B64 ^ s) (hk : k < 4294967297) : x < B64 ^ (s + 1) := by
  have hp := pow_pos' B64_pos s
  have : (k : Int) * B64 ^ s ≤ 4294967296 * B64 ^ s := Int.mul_le_mul_of_nonneg_right (by omega) (Int.le_of_lt hp)
  have e : B64 ^ (s + 1) = 18446744073709551616 * B64 ^ s := by rw [Int.pow_succ, Int.mul_comm]; rfl
  omega

set_option maxRecDepth 100000 in
set_option maxHeartbeats 1000000 in
theorem add_any (ao : Option Addr) (n cap : Nat) (vs : List Value) (ls : List (List Int)) (w : World) (hn : n = vs.length) (hls : ls.length = vs.length) (h1 : n ≤ cap) (_h2 : cap ≤ 9223372036854775807)
    (hrow : RdRow w ao vs) (hel : ∀ j, j < vs.length → RdV w (vs.getD j undef) (ls.getD j [])) (hM : ∀ j, (ls.getD j []).length < MaxW) (hC : n < 4294967296) :
    Calls Tryd.prog 51 #[.slice ao n cap] w fun e w' => RetNum w (sumv ls) e w' := by
  have HN := Lib.hid hn
  have HLS := Lib.hid hls
  have HROW := Lib.hid hrow
  have HEL := Lib.hid hel
  have HM := Lib.hid hM
  clear hn hls hrow hel hM
  go_enter Tryd.func51, Tryd.ntmps51
  go_wp2
  go_loop [3, 11] (fun sz i => ∃ k s : Nat, k ≤ n ∧ i = .int .i64 k ∧ sz = .int .i64 s ∧ s < MaxW ∧ Hid (∀ j, j < k → tlen (ls.getD j []) ≤ s)) (fun _ i => n - (intOf i).toNat)
  case atStart => exact ⟨0, 0, Nat.zero_le _, rfl, rfl, by decide, fun j h => by omega⟩
  case round =>
    obtain ⟨k, s, hk, rfl, rfl, hs, HB⟩ := hrel
    have hs63 : s + 1 ≤ 9223372036854775807 := by unfold MaxW at hs; omega
    by_cases hlt : k < n
    · have hv0 : vs ≠ [] := by intro e; subst e; have := HN.out; simp at this; omega
      obtain ⟨b, off, rfl, hcells⟩ := HROW.out.resolve_left hv0
      have hkv : k < vs.length := by rw [← HN.out]; exact hlt
      obtain ⟨ax, cx, hvk, hxc, hxc2, hrd, hlim⟩ := HEL.out k hkv
      have hcell : w.cell? ⟨b, off + k, none⟩ = some (.slice ax (ls.getD k []).length cx) := by
        rw [← hvk]; refine hcells k _ ?_
        rw [List.getD_eq_getElem?_getD, List.getElem?_eq_getElem hkv]; rfl
      obtain ⟨nx, hnx⟩ : ∃ nx, nx = (ls.getD k []).length := ⟨_, rfl⟩
      rw [← hnx] at hcell hxc hvk
      obtain ⟨lx, hlx⟩ : ∃ lx, lx = ls.getD k [] := ⟨_, rfl⟩
      rw [← hlx] at hnx hrd hlim
      have HNX := Lib.hid hnx
      have HLX := Lib.hid hlx
      clear hnx hlx hvk hcells hkv
      go_wp2_with (go_at_call 83; refine (trim_any ax nx cx lx _ HNX.out hxc hxc2 hrd).mono ?_; rintro e w' ⟨rfl, rfl⟩)
      go_round
      case rel =>
        refine ⟨k + 1, max s (tlen lx), by omega, by go_num, ?_, ?_, ?_⟩
        · split
          · rw [Nat.max_eq_right (by omega)]
          · rw [Nat.max_eq_left (by omega)]
        · have := HM.out k
          rw [← HLX.out] at this
          have := tlen_le lx
          omega
        · intro j hj
          by_cases hjk : j = k
          · subst hjk; rw [← HLX.out]; omega
          · have := HB.out j (by omega); omega
      case measure => simp [intOf]; omega
    · have hkn : k = n := by omega
      subst hkn
      clear hlt hk
      have hsm : s + 1 ≤ MaxW := by omega
      go_wp2_with (at_make; refine wpList_make_words w rfl (.tmp 22) (.tmp 22) 26 rfl Tryd.underlying26 info_u64 _ _ (s + 1) rfl rfl (by omega) (by omega) hsm ?_; intro w1 hw1 hb1 hs1)
      have hw0 := (by assumption : Ow w.heap.size _ _ (List.replicate (s + 1) 0))
      have hb0 := (by assumption : Below w.heap.size w _)
      go_loopw [26] (fun i wr => ∃ (j : Nat) (lo : List Int), j ≤ k ∧ i = .int .i64 j ∧ Ow w.heap.size wr (.slice (some ⟨w.heap.size, 0, none⟩) (s + 1) (s + 1)) lo ∧ Below w.heap.size w wr ∧ Lim B64 lo ∧ Hid (vb B64 lo = sumv (ls.take j)) ∧ Hid (sumv (ls.take j) ≤ (j : Int) * B64 ^ s)) (fun i _ => k - (intOf i).toNat)
      case atStart => exact ⟨0, _, Nat.zero_le _, rfl, hw0, hb0, Lim.replicate B64_pos _, by show _ = _; rw [vb_replicate]; rfl, by show sumv [] ≤ ((0 : Nat) : Int) * B64 ^ s; rw [Int.natCast_zero, Int.zero_mul]; exact Int.le_refl 0⟩
      case round =>
        clear hw0 hb0
        obtain ⟨j, lo, hj, rfl, hO, hbl, hlim, HV, HS⟩ := hrel
        obtain ⟨harr, -, hlo⟩ := hO.arr
        have HLO := Lib.hid hlo
        clear hlo
        by_cases hlt : j < k
        · have hv0 : vs ≠ [] := by intro e; subst e; have := HN.out; simp at this; omega
          obtain ⟨b, off, rfl, hcells⟩ := (HROW.out.below hbl).resolve_left hv0
          have hjv : j < vs.length := by rw [← HN.out]; exact hlt
          have hjl : j < ls.length := by rw [HLS.out]; exact hjv
          have hel := HEL.out j hjv
          have hlimj := hel.lim
          obtain ⟨ax, cx, hvk, hxc, hxc2, hrd, -⟩ := hel.below hbl
          have hrdw : ls.getD j [] ≠ [] → ∀ b' off', ax = some ⟨b', off', none⟩ → b' ≠ w.heap.size := by
            intro hn b' off' e
            obtain ⟨ax2, cx2, hvk2, _, _, hrd2, _⟩ := hel
            rw [hvk] at hvk2
            simp only [Value.slice.injEq] at hvk2
            obtain ⟨rfl, _, _⟩ := hvk2
            subst e
            have := hrd2.at'.lt hn
            omega
          have hcell : wr.cell? ⟨b, off + j, none⟩ = some (.slice ax (ls.getD j []).length cx) := by
            rw [← hvk]; refine hcells j _ ?_
            rw [List.getD_eq_getElem?_getD, List.getElem?_eq_getElem hjv]; rfl
          have htj := HB.out j hlt
          have hsb := sum_bound hjl hlimj htj HS.out
          have hst := sumv_take hjl
          obtain ⟨nx, hnx⟩ : ∃ nx, nx = (ls.getD j []).length := ⟨_, rfl⟩
          rw [← hnx] at hcell hxc hvk
          obtain ⟨lx, hlx⟩ : ∃ lx, lx = ls.getD j [] := ⟨_, rfl⟩
          rw [← hlx] at hnx hrd hlimj htj hst hrdw
          have htn := tlen_le lx
          have HNX := Lib.hid hnx
          have htc : tlen lx ≤ cx := by omega
          have hfit : vb B64 lo + vb B64 (tr lx) < B64 ^ (s + 1) := by
            rw [vb_tr, HV.out, ← hst]
            exact sum_fit hsb (by omega)
          have hadd := addTo_any w.heap.size 0 (s + 1) (s + 1) lo ax (tlen lx) cx (tr lx) wr HLO.out (tr_length lx).symm (Nat.le_refl _) (by omega) htc hxc2 harr (hrd.take _) (fun h => hrdw (by intro e; subst e; exact h rfl)) hlim (hlimj.take _) hfit (by omega)
          rw [vb_tr] at hadd
          have HA := Lib.hid hadd
          have HSB := Lib.hid hsb
          have HST := Lib.hid hst
          clear hnx hlx hvk hcells hjv hjl hel hsb hst htn hfit hadd hrdw htj
          go_wp2_with (first | (go_at_call 83; refine (trim_any ax nx cx lx _ HNX.out hxc hxc2 hrd).mono ?_; rintro e w' ⟨rfl, rfl⟩) | (go_at_call 89; refine HA.out.mono ?_; rintro e w3 ⟨rfl, l3, hl3, hlim3, harr3, hval3, honly3⟩; have HL3 := Lib.hid hl3; have HV3 := Lib.hid hval3; clear hl3 hval3))
          go_roundw
          case rel =>
            have HL3 := (by assumption : Hid (List.length _ = s + 1))
            have HV3 := (by assumption : Hid (_ = vb B64 lo + vb B64 lx))
            have honly := (by assumption : Only w.heap.size 0 (0 + (s + 1)) wr _)
            have harr3 := (by assumption : Arr _ w.heap.size 0 _)
            refine ⟨j + 1, _, by omega, by go_num, hO.only honly harr3 (by rw [HL3.out, ← HLO.out]), hbl.trans (honly.below (Nat.le_refl _) hbl.size), by assumption, ?_, HSB.out⟩
            show _ = _
            rw [HV3.out, HV.out, HST.out]
          case measure => simp [intOf]; omega
        · have hjk : j = k := by omega
          have hval : vb B64 lo = sumv ls := by
            rw [HV.out, hjk, List.take_of_length_le (by rw [HLS.out, HN.out]; exact Nat.le_refl _)]
          have HVA := Lib.hid hval
          clear hval hjk
          go_wp2_with (go_at_call 83; refine (trim_any (some ⟨w.heap.size, 0, none⟩) (s + 1) (s + 1) lo wr HLO.out (Nat.le_refl _) (by omega) (Rd.of_at harr.at')).mono ?_; rintro e w' ⟨rfl, rfl⟩)
          go_ret
          exact ⟨_, tr lo, rfl, hO.take (tlen lo) (by rw [HLO.out]; exact tlen_le lo), can_tr hlim, by rw [vb_tr]; exact HVA.out, hbl⟩
end Go.Proofs.YtfanhllcoaondaaDoor

namespace Go.Proofs.YtfanhllcoaondaaDoor
open Go.RowKit

theorem tr_one {x : Int} (h : x ≠ 0) : tr [x] = [x] := by simp [tr, tlen, h]

/-- Of one word that is not 0, at a new block. -/
def RetOne (w : World) (x : Int) (e : Ending) (w' : World) : Prop := ∃ g cap, e = .returned (.slice (some ⟨g, 0, none⟩) 1 cap) ∧ 1 ≤ cap ∧ cap ≤ 9223372036854775807 ∧ At w' g 0 [x] ∧ Below w.heap.size w w' ∧ g < w'.heap.size
theorem of_one (x : Int) (t : TypeId) (w : World) (hx : x ≠ 0) :
    Calls Tryd.prog 52 #[.slice (some ⟨w.heap.size, 0, none⟩) 1 1] (w.alloc (.cells #[.int .u64 x] t)) fun e w' => RetOne w x e w' := by
  refine (of_any _ 1 1 [x] _ rfl (Nat.le_refl _) (by decide) (at_new _ x _) (by decide)).mono ?_
  rintro e w1 ⟨v1, rfl, hO1, hb1⟩
  rw [tr_one hx] at hO1
  rcases hO1.cases with ⟨_, h⟩ | ⟨g, cap, rfl, hg, h1, h2, harr⟩
  · cases h
  · exact ⟨g, cap, rfl, h1, h2, harr.at', ((Below.refl _ _).alloc (Nat.le_refl _) _).trans (hb1.mono (by simp)), harr.lt⟩

theorem row_new (w : World) (vs : List Value) (t : TypeId) : RdRow (w.alloc (.cells vs.toArray t)) (some ⟨w.heap.size, 0, none⟩) vs := by
  refine Or.inr ⟨w.heap.size, 0, rfl, fun j v hv => ?_⟩
  rw [Nat.zero_add, World.cell?_alloc_new, List.getElem?_toArray]
  exact hv

theorem below_alloc (w : World) (o : Obj) : Below w.heap.size w (w.alloc o) := (Below.refl _ _).alloc (Nat.le_refl _) o

/-- nat.Add of two. -/
theorem add_two (v1 v2 : Value) (l1 l2 : List Int) (t : TypeId) (w : World) (h1 : RdV w v1 l1) (h2 : RdV w v2 l2) (m1 : l1.length < MaxW) (m2 : l2.length < MaxW) :
    Calls Tryd.prog 51 #[.slice (some ⟨w.heap.size, 0, none⟩) 2 2] (w.alloc (.cells #[v1, v2] t)) fun e w' => RetNum w (vb B64 l1 + vb B64 l2) e w' := by
  have hb := below_alloc w (.cells #[v1, v2] t)
  refine (add_any (some ⟨w.heap.size, 0, none⟩) 2 2 [v1, v2] [l1, l2] _ rfl rfl (Nat.le_refl _) (by decide) (row_new w [v1, v2] t) ?_ ?_ (by decide)).mono ?_
  · intro j hj
    match j, hj with
    | 0, _ => exact h1.below hb
    | 1, _ => exact h2.below hb
  · intro j
    match j with
    | 0 => exact m1
    | 1 => exact m2
    | j + 2 => simp; decide
  · rintro e w' ⟨v, l, rfl, hO, hc, hv, hb2⟩
    refine ⟨v, l, rfl, hO.mono (by simp), hc, ?_, hb.trans (hb2.mono (by simp))⟩
    rw [hv]; simp [sumv]

/-! ### Light -/

/-- Are all lists short? -/
def lightB (ls : List (List Int)) : Bool := ls.all fun l => decide (l.length ≤ 40)

theorem light_step {ls : List (List Int)} {k : Nat} (hk : k < ls.length) : lightB (ls.take (k + 1)) = (lightB (ls.take k) && decide ((ls.getD k []).length ≤ 40)) := by
  unfold lightB
  rw [List.take_succ_eq_append_getElem hk, List.all_append, List.getD_eq_getElem?_getD, List.getElem?_eq_getElem hk]
  simp
theorem light_no {ls : List (List Int)} {k : Nat} (hk : k < ls.length) (h : ¬ (ls.getD k []).length ≤ 40) : lightB ls = false := by
  unfold lightB
  rw [List.all_eq_false]
  refine ⟨ls.getD k [], ?_, by simpa using h⟩
  rw [List.getD_eq_getElem?_getD, List.getElem?_eq_getElem hk]
  exact List.getElem_mem hk
theorem light_len {ls : List (List Int)} (h : lightB ls = true) (k : Nat) : (ls.getD k []).length ≤ 40 := by
  by_cases hk : k < ls.length
  · unfold lightB at h
    rw [List.all_eq_true] at h
    rw [List.getD_eq_getElem?_getD, List.getElem?_eq_getElem hk]
    simpa using h _ (List.getElem_mem hk)
  · rw [List.getD_eq_getElem?_getD, List.getElem?_eq_none (by omega)]; simp

set_option maxRecDepth 100000 in
set_option maxHeartbeats 1000000 in
theorem light_any (ao : Option Addr) (n cap : Nat) (vs : List Value) (ls : List (List Int)) (w : World) (hn : n = vs.length) (hls : ls.length = vs.length) (h1 : n ≤ cap) (h2 : cap ≤ 9223372036854775807)
    (hrow : RdRow w ao vs) (hel : ∀ j, j < vs.length → ∃ a c, vs.getD j undef = .slice a (ls.getD j []).length c) (hM : ∀ j, (ls.getD j []).length ≤ 9223372036854775807) :
    Calls Tryd.prog 7 #[.slice ao n cap] w fun e w' => e = .returned (.bool (lightB ls)) ∧ w = w' := by
  have HN := Lib.hid hn
  have HLS := Lib.hid hls
  have HROW := Lib.hid hrow
  have HEL := Lib.hid hel
  have HM := Lib.hid hM
  clear hn hls hrow hel hM
  go_enter Tryd.func7, Tryd.ntmps7
  go_wp2
  go_loop [3] (fun i => ∃ k : Nat, k ≤ n ∧ i = .int .i64 k ∧ Hid (lightB (ls.take k) = true)) (fun i => n - (intOf i).toNat)
  case atStart => exact ⟨0, Nat.zero_le _, rfl, rfl⟩
  case round =>
    obtain ⟨k, hk, rfl, HL⟩ := hrel
    by_cases hlt : k < n
    · have hkv : k < vs.length := by rw [← HN.out]; exact hlt
      have hv0 : vs ≠ [] := by intro e; subst e; simp at hkv
      obtain ⟨b, off, rfl, hcells⟩ := HROW.out.resolve_left hv0
      obtain ⟨ax, cx, hvk⟩ := HEL.out k hkv
      have hkl : k < ls.length := by rw [HLS.out]; exact hkv
      have hcell : w.cell? ⟨b, off + k, none⟩ = some (.slice ax (ls.getD k []).length cx) := by
        rw [← hvk]; refine hcells k _ ?_
        rw [List.getD_eq_getElem?_getD, List.getElem?_eq_getElem hkv]; rfl
      have hst := light_step hkl
      have hno := light_no (ls := ls) hkl
      have hmx := HM.out k
      obtain ⟨m, hm⟩ : ∃ m, m = (ls.getD k []).length := ⟨_, rfl⟩
      rw [← hm] at hcell hst hno hmx
      have HST := Lib.hid hst
      have HNO := Lib.hid hno
      clear hst hno hm hvk hcells hkv
      by_cases h40 : m ≤ 40
      · go_wp2
        go_round
        case rel => exact ⟨k + 1, by omega, by go_num, by show _ = _; rw [HST.out, HL.out]; simpa using h40⟩
        case measure => simp [intOf]; omega
      · have hf := HNO.out h40
        have HF := Lib.hid hf
        clear hf
        go_wp2
        go_ret
        exact ⟨by rw [HF.out]; rfl, rfl⟩
    · have hl : lightB ls = true := by
        have := HL.out
        rwa [List.take_of_length_le (by rw [HLS.out, ← HN.out]; omega)] at this
      have HLL := Lib.hid hl
      clear hl
      go_wp2
      go_ret
      exact ⟨by rw [HLL.out]; rfl, rfl⟩

end Go.Proofs.YtfanhllcoaondaaDoor
