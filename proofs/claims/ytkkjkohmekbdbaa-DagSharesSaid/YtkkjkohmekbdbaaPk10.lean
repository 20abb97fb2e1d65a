/-
  Low: Contracts of math/bits.TrailingZeros64 and nat.Low.
  RefBits: Arithmetic of the schoolbook division in digits of base 2^32: the digit that is guessed of three top digits by two, the product that is taken off, the divisor that is put back. No program is spoken of here. Contracts of the document's own Bits and Low.
-/
import Derived.Test.YtkkjkohmekbdbaaPk9
import Derived.Shelf.Spec.TrailingZeros
import Derived.Test.YtkkjkohmekbdbaaPk2
import Derived.Test.YtkkjkohmekbdbaaPk6
import Derived.Test.YtkkjkohmekbdbaaPk8

namespace Go.Proofs.Ytkkjkohmekbdbaa
open Go.RowKit

/-- The number t of zero bits at the end of N. -/
def IsLow (N : Int) (t : Nat) : Prop := ∃ z : Int, N = 2 ^ t * (2 * z + 1)

theorem low_word {l : List Int} {i c : Nat} {x m : Int} (hi : i < l.length) (hc : c < 64) (hx : l.getD i 0 = x) (hz : vb B64 (l.take i) = 0) (hm : x = 2 ^ c * (2 * m + 1)) : IsLow (vb B64 l) (64 * i + c) := by
  refine ⟨m + 2 ^ (63 - c) * vb B64 (l.drop (i + 1)), ?_⟩
  rw [vb_split B64 l i (by omega), hz, vb_drop B64 hi, hx, hm]
  have e1 : B64 ^ i = 2 ^ (64 * i) := by rw [Int.pow_mul]; rfl
  have e2 : (B64 : Int) = 2 ^ c * (2 ^ (63 - c) * 2) := by
    rw [← Int.pow_succ, ← Int.pow_add, show c + (63 - c + 1) = 64 by omega]; rfl
  generalize vb B64 (l.drop (i + 1)) = R
  rw [e1, Int.pow_add, Int.zero_add]
  conv => lhs; rw [e2]
  rw [Int.mul_assoc (2 ^ (64 * i)) (2 ^ c)]
  congr 1
  rw [Int.mul_assoc (2 ^ c), ← Int.mul_add]
  congr 1
  rw [Int.mul_comm (2 ^ (63 - c)) 2, Int.mul_assoc, Int.mul_add]
  omega

end Go.Proofs.Ytkkjkohmekbdbaa

namespace Go.Proofs.Ytkkjkohmekbdbaa
open Go.RowKit

/-- Digits above the number's size are zeros. -/
theorem vb_zero_above {b : Int} (hb : 0 < b) {l : List Int} (h : Lim b l) {n : Nat} (hlt : vb b l < b ^ n) : ∀ j, n ≤ j → l.getD j 0 = 0 := by
  intro j hj
  by_cases hjl : j < l.length
  · have e := vb_split b l j (by omega)
    have d := vb_drop b (l := l) (k := j) hjl
    have h1 := vb_nonneg hb (h.take j)
    have h2 := vb_nonneg hb (h.drop (j + 1))
    have h3 := h.getD hb j
    rcases Int.lt_or_le 0 (l.getD j 0) with h4 | h4
    · exfalso
      have hp := pow_pos' hb j
      have h6 := Int.mul_nonneg (Int.le_of_lt hb) h2
      have h5 : b ^ j * 1 ≤ b ^ j * vb b (l.drop j) := Int.mul_le_mul_of_nonneg_left (by omega) (Int.le_of_lt hp)
      have := pow_le_pow hb hj
      omega
    · omega
  · rw [List.getD_eq_getElem?_getD, List.getElem?_eq_none (by omega)]; rfl

/-- A number whose digits from k on are zeros is below b^k. -/
theorem vb_lt_of_zeros {b : Int} (hb : 0 < b) {l : List Int} (h : Lim b l) {k : Nat} (hz : ∀ j, k ≤ j → l.getD j 0 = 0) : vb b l < b ^ k := by
  by_cases hk : k ≤ l.length
  · have e := vb_split b l k hk
    have e0 : vb b (l.drop k) = 0 := by
      refine vb_zeros b fun x hx => ?_
      obtain ⟨j, _, rfl⟩ := mem_getD hx
      rw [getD_drop]; exact hz _ (by omega)
    rw [e0, Int.mul_zero, Int.add_zero] at e
    have := vb_lt hb (h.take k)
    rw [List.length_take, Nat.min_eq_left hk] at this
    omega
  · have := vb_lt hb h
    have := pow_le_pow hb (show l.length ≤ k by omega)
    omega

section
variable {T v1 v0 u0 d r : Int}
theorem gd_init (hv1 : 0 < v1) (hv0 : 0 ≤ v0) (hT : 0 ≤ T) (hu0 : u0 < 4294967296) :
    T / v1 * v1 + T % v1 = T ∧ 0 ≤ T % v1 ∧ T % v1 < v1 ∧ 0 ≤ T / v1 ∧ T * 4294967296 + u0 < (T / v1 + 1) * (v1 * 4294967296 + v0) := by
  have e1 := Int.mul_ediv_add_emod T v1
  have e2 := Int.emod_lt_of_pos T hv1
  have e3 := Int.emod_nonneg T (by omega : v1 ≠ 0)
  have e4 : 0 ≤ T / v1 := Int.ediv_nonneg hT (by omega)
  rw [Int.mul_comm v1] at e1
  refine ⟨e1, e3, e2, e4, ?_⟩
  have h1 : (T / v1 + 1) * (v1 * 4294967296 + v0) = (T / v1 * v1 + v1) * 4294967296 + (T / v1 + 1) * v0 := by
    rw [Int.mul_add, ← Int.mul_assoc, Int.add_mul, Int.one_mul]
  have h2 : 0 ≤ (T / v1 + 1) * v0 := Int.mul_nonneg (by omega) hv0
  rw [h1]
  omega
theorem gd_mul (hI : d * v1 + r = T) : d * (v1 * 4294967296 + v0) = (T - r) * 4294967296 + d * v0 := by
  rw [Int.mul_add, ← Int.mul_assoc, ← hI]; omega
theorem gd_step (hI : d * v1 + r = T) (h : 4294967296 ≤ d ∨ r * 4294967296 + u0 < d * v0) :
    (d - 1) * v1 + (r + v1) = T ∧ (4294967296 ≤ d ∨ T * 4294967296 + u0 < d * (v1 * 4294967296 + v0)) := by
  refine ⟨by rw [Int.sub_mul, Int.one_mul]; omega, h.imp id fun h => ?_⟩
  rw [gd_mul hI]; omega
theorem gd_done (hI : d * v1 + r = T) (h : d * v0 ≤ r * 4294967296 + u0) : d * (v1 * 4294967296 + v0) ≤ T * 4294967296 + u0 := by
  rw [gd_mul hI]; omega
theorem gd_break (hI : d * v1 + r = T) (hr : 4294967296 ≤ r) (hv00 : 0 ≤ v0) (hv0 : v0 < 4294967296) (hv1 : 0 < v1) (hu0 : 0 ≤ u0) (hT : T ≤ v1 * 4294967296 + v0) :
    d ≤ 4294967295 ∧ d * (v1 * 4294967296 + v0) ≤ T * 4294967296 + u0 := by
  have h1 : d ≤ 4294967295 := by
    rcases Int.lt_or_le d 4294967296 with h | h
    · omega
    · have : 4294967296 * v1 ≤ d * v1 := Int.mul_le_mul_of_nonneg_right h (by omega)
      omega
  refine ⟨h1, ?_⟩
  rw [gd_mul hI]
  have : d * v0 ≤ 4294967296 * v0 := Int.mul_le_mul_of_nonneg_right (by omega) hv00
  omega
end

/-- The top digits of the dividend's window and of the divisor. -/
theorem rd_top {m v : List Int} {n j : Nat} (hm : Lim B32 m) (hv : Lim B32 v) (hvl : v.length = n + 2) (hlt : vb B32 (m.drop j) < B32 * vb B32 v) (hj : j + n + 2 < m.length) :
    ∃ x y W, 1 ≤ W ∧ 0 ≤ x ∧ x < W ∧ 0 ≤ y ∧ y < W ∧ vb B32 (m.drop j) = x + W * ((m.getD (j + n + 2) 0 * 4294967296 + m.getD (j + n + 1) 0) * 4294967296 + m.getD (j + n) 0) ∧
      vb B32 v = y + W * (v.getD (n + 1) 0 * 4294967296 + v.getD n 0) ∧ m.getD (j + n + 2) 0 * 4294967296 + m.getD (j + n + 1) 0 ≤ v.getD (n + 1) 0 * 4294967296 + v.getD n 0 := by
  have hW := pow_pos' B32_pos n
  have hvlt := vb_lt B32_pos hv
  rw [hvl] at hvlt
  have hwin : vb B32 (m.drop j) < B32 ^ (n + 3) := by
    have h1 : B32 * (vb B32 v + 1) ≤ B32 * B32 ^ (n + 2) := Int.mul_le_mul_of_nonneg_left (by omega) (by decide)
    rw [show n + 3 = n + 2 + 1 by omega, Int.pow_succ B32 (n + 2), Int.mul_comm (B32 ^ (n + 2))]
    rw [Int.mul_add] at h1
    unfold B32 at *
    omega
  have hz := vb_zero_above B32_pos (hm.drop j) hwin
  have e0 := vb_split B32 (m.drop j) n (by rw [List.length_drop]; omega)
  rw [List.drop_drop] at e0
  have e1 := vb_drop B32 (l := m) (k := j + n) (by omega)
  have e2 := vb_drop B32 (l := m) (k := j + n + 1) (by omega)
  have e3 := vb_drop B32 (l := m) (k := j + n + 1 + 1) (by omega)
  have e4 : vb B32 (m.drop (j + n + 1 + 1 + 1)) = 0 := by
    refine vb_zeros B32 fun x hx => ?_
    obtain ⟨i, _, rfl⟩ := mem_getD hx
    have := hz (n + 3 + i) (by omega)
    rw [getD_drop] at this ⊢
    rw [← this]; congr 1; omega
  rw [e4, Int.mul_zero, Int.add_zero] at e3
  rw [e3] at e2
  rw [e2] at e1
  rw [e1] at e0
  have f0 := vb_split B32 v n (by omega)
  have f1 := vb_drop B32 (l := v) (k := n) (by omega)
  have f2 := vb_drop B32 (l := v) (k := n + 1) (by omega)
  rw [show v.drop (n + 1 + 1) = [] from List.drop_of_length_le (by omega), vb_nil, Int.mul_zero, Int.add_zero] at f2
  rw [f2] at f1
  rw [f1] at f0
  have hx0 := vb_nonneg B32_pos ((hm.drop j).take n)
  have hx1 := vb_lt B32_pos ((hm.drop j).take n)
  rw [List.length_take, List.length_drop, Nat.min_eq_left (by omega)] at hx1
  have hy0 := vb_nonneg B32_pos (hv.take n)
  have hy1 := vb_lt B32_pos (hv.take n)
  rw [List.length_take, Nat.min_eq_left (by omega)] at hy1
  have s1 : m.getD (j + n + 1 + 1) 0 = m.getD (j + n + 2) 0 := rfl
  rw [s1] at e0
  have g0 := hm.getD B32_pos (j + n)
  refine ⟨_, _, B32 ^ n, hW, hx0, hx1, hy0, hy1, ?_, ?_, ?_⟩
  · rw [e0]; congr 2; unfold B32; omega
  · rw [f0]; congr 2; unfold B32; omega
  · rw [e0, f0] at hlt
    generalize vb B32 ((m.drop j).take n) = x at *
    generalize vb B32 (v.take n) = y at *
    generalize m.getD (j + n + 2) 0 = u2 at *
    generalize m.getD (j + n + 1) 0 = u1 at *
    generalize m.getD (j + n) 0 = u0 at *
    generalize v.getD (n + 1) 0 = v1 at *
    generalize v.getD n 0 = v0 at *
    generalize B32 ^ n = W at *
    rcases Int.lt_or_le (v1 * 4294967296 + v0) (u2 * 4294967296 + u1) with h | h
    · exfalso
      have h1 : W * (B32 * (v1 * 4294967296 + v0 + 1)) ≤ W * (u0 + B32 * (u1 + B32 * u2)) := Int.mul_le_mul_of_nonneg_left (by unfold B32 at *; omega) (by omega)
      have h2 : W * (B32 * (v1 * 4294967296 + v0 + 1)) = B32 * (W * (v0 + B32 * v1)) + B32 * W := by
        rw [show v1 * 4294967296 + v0 + 1 = (v0 + B32 * v1) + 1 by unfold B32; omega, Int.mul_add B32, Int.mul_add W, Int.mul_left_comm W, Int.mul_one, Int.mul_comm W B32]
      rw [Int.mul_add B32 y] at hlt
      have h3 : B32 * (y + 1) ≤ B32 * W := Int.mul_le_mul_of_nonneg_left (by omega) (by decide)
      rw [Int.mul_add, Int.mul_one] at h3
      unfold B32 at *
      omega
    · exact h

/-- The guess is the quotient, or one more. -/
theorem red_guess32 {a b G U V W x y : Int} (hW : 1 ≤ W) (hx0 : 0 ≤ x) (hx1 : x < W) (hy0 : 0 ≤ y) (hy1 : y < W) (ha : a = x + W * U) (hb : b = y + W * V) (hV : 4294967296 ≤ V)
    (hlt : a < 4294967296 * b) (g0 : 0 ≤ G) (g1 : G ≤ 4294967295) (hle : G * V ≤ U) (hmore : G = 4294967295 ∨ U < (G + 1) * V) :
    a < (G + 1) * b ∧ G * b < a + b := by
  constructor
  · rcases hmore with h | h
    · rw [h]; exact hlt
    · have h1 : W * (U + 1) ≤ W * ((G + 1) * V) := Int.mul_le_mul_of_nonneg_left (by omega) (by omega)
      have h2 : (G + 1) * b = (G + 1) * y + W * ((G + 1) * V) := by rw [hb, Int.mul_add, Int.mul_left_comm]
      have h3 : 0 ≤ (G + 1) * y := Int.mul_nonneg (by omega) hy0
      rw [Int.mul_add, Int.mul_one] at h1
      omega
  · have h1 : W * (G * V) ≤ W * U := Int.mul_le_mul_of_nonneg_left hle (by omega)
    have h2 : G * b = G * y + W * (G * V) := by rw [hb, Int.mul_add, Int.mul_left_comm]
    have h3 : G * y ≤ 4294967295 * y := Int.mul_le_mul_of_nonneg_right g1 hy0
    have h4 : W * 4294967296 ≤ W * V := Int.mul_le_mul_of_nonneg_left hV (by omega)
    omega

/-- A digit of the product is taken off. -/
theorem sm_step {m : List Int} {p : Nat} {c low o lo2 y c2 x E F : Int} (hp : p < m.length) (ho : o = m.getD p 0) (hS : vb B32 m + E = F + B32 ^ p * (c + low)) (hc : c2 = c + y) (hx : x = c2 % 4294967296 + low) :
    vb B32 (m.set p (o + lo2 * 4294967296 - x)) + (E + B32 ^ p * y) = F + B32 ^ (p + 1) * (c2 / 4294967296 + lo2) := by
  rw [vb_set B32 m p _ hp, ← ho, Int.pow_succ, Int.mul_assoc]
  have e : B32 ^ p * (B32 * (c2 / 4294967296 + lo2)) = B32 ^ p * (c + low) + B32 ^ p * y + B32 ^ p * (o + lo2 * 4294967296 - x - o) := by
    rw [← Int.mul_add, ← Int.mul_add]
    congr 1
    unfold B32
    omega
  rw [e]
  omega
/-- A digit of the divisor is put back. -/
theorem ab_step {m : List Int} {p : Nat} {c o y s E : Int} (hp : p < m.length) (ho : o = m.getD p 0) (hS : vb B32 m + B32 ^ p * c = E) (hs : s = c + o + y) :
    vb B32 (m.set p (s % 4294967296)) + B32 ^ (p + 1) * (s / 4294967296) = E + B32 ^ p * y := by
  rw [vb_set B32 m p _ hp, ← ho, Int.pow_succ, Int.mul_assoc, ← hS]
  have e : B32 ^ p * (B32 * (s / 4294967296)) = B32 ^ p * c + B32 ^ p * y - B32 ^ p * (s % 4294967296 - o) := by
    rw [← Int.mul_add, ← Int.mul_sub]
    congr 1
    unfold B32
    omega
  rw [e]
  omega

/-- Two lists that are alike up to place j. -/
theorem vb_drop_sub {m m' : List Int} {j : Nat} (hl : m'.length = m.length) (hj : j ≤ m.length) (ht : m'.take j = m.take j) {X : Int} (h : vb B32 m' + B32 ^ j * X = vb B32 m) : vb B32 (m'.drop j) + X = vb B32 (m.drop j) := by
  have e1 := vb_split B32 m j hj
  have e2 := vb_split B32 m' j (by omega)
  rw [ht] at e2
  rw [e1, e2] at h
  have hp := pow_pos' B32_pos j
  have : B32 ^ j * (vb B32 (m'.drop j) + X) = B32 ^ j * vb B32 (m.drop j) := by rw [Int.mul_add]; omega
  exact Int.eq_of_mul_eq_mul_left (by omega) this

theorem take_set_above {m : List Int} {j p : Nat} (h : j ≤ p) (x : Int) : (m.set p x).take j = m.take j := by
  apply List.ext_getElem?
  intro i
  rw [List.getElem?_take, List.getElem?_take]
  by_cases hi : i < j
  · rw [if_pos hi, if_pos hi, List.getElem?_set, if_neg (by omega)]
  · rw [if_neg hi, if_neg hi]

/-- The last place: the borrow is at most one more than what is there. -/
theorem sm_top {m m0 : List Int} {j n : Nat} {x G b t : Int} (hm : Lim B32 m) (hl : m.length = m0.length) (hj : j + n < m.length) (ht : m.take j = m0.take j) (hz : ∀ i, j + n < i → m.getD i 0 = 0) (hte : t = m.getD (j + n) 0)
    (hS : vb B32 m + B32 ^ j * (G * b) = vb B32 m0 + B32 ^ (j + n) * x) (hb : b < B32 ^ n) (hG : G * b < vb B32 (m0.drop j) + b) : x ≤ t + 1 := by
  have h1 : vb B32 m + B32 ^ j * (G * b - B32 ^ n * x) = vb B32 m0 := by rw [Int.mul_sub, ← Int.mul_assoc (B32 ^ j) (B32 ^ n), ← Int.pow_add]; omega
  have h2 := vb_drop_sub hl (by omega) ht h1
  have e := vb_split B32 (m.drop j) n (by rw [List.length_drop]; omega)
  rw [List.drop_drop] at e
  have e1 := vb_drop B32 (l := m) (k := j + n) hj
  have e4 : vb B32 (m.drop (j + n + 1)) = 0 := by
    refine vb_zeros B32 fun x hx => ?_
    obtain ⟨i, _, rfl⟩ := mem_getD hx
    rw [getD_drop]
    exact hz _ (by omega)
  rw [e4, Int.mul_zero, Int.add_zero, ← hte] at e1
  rw [e1] at e
  have hL := vb_lt B32_pos ((hm.drop j).take n)
  rw [List.length_take, List.length_drop, Nat.min_eq_left (by omega)] at hL
  have hp := pow_pos' B32_pos n
  rcases Int.lt_or_le (t + 1) x with h | h
  · exfalso
    have h3 : B32 ^ n * (t + 2) ≤ B32 ^ n * x := Int.mul_le_mul_of_nonneg_left (by omega) (Int.le_of_lt hp)
    rw [Int.mul_add] at h3
    omega
  · exact h

/-- What is left, where the guess was right. -/
theorem sm_right {m m0 : List Int} {j n : Nat} {x G b t : Int} (hl : m.length = m0.length) (hj : j + n < m.length) (ht : m.take j = m0.take j) (hte : t = m.getD (j + n) 0)
    (hS : vb B32 m + B32 ^ j * (G * b) = vb B32 m0 + B32 ^ (j + n) * x) :
    vb B32 (m.set (j + n) (t - x)) + B32 ^ j * (G * b) = vb B32 m0 ∧ vb B32 ((m.set (j + n) (t - x)).drop j) + G * b = vb B32 (m0.drop j) := by
  have h1 : vb B32 (m.set (j + n) (t - x)) + B32 ^ j * (G * b) = vb B32 m0 := by
    rw [vb_set B32 m (j + n) _ hj, ← hte, show t - x - t = -x by omega, Int.mul_neg]
    omega
  exact ⟨h1, vb_drop_sub (by rw [List.length_set]; exact hl) (by omega) (by rw [take_set_above (by omega)]; exact ht) h1⟩

/-- What is left, where it was one too great: t2 is the top digit as it stands, c the carry behind the divisor that is put back. -/
theorem ab_right {m1 m2 m0 : List Int} {j n : Nat} {x G b t c : Int} (hm2 : Lim B32 m2) (hl : m2.length = m0.length) (hj : j + n < m2.length) (ht : m2.take j = m0.take j) (hz : ∀ i, j + n < i → m2.getD i 0 = 0)
    (hte : t + 4294967296 - x = m2.getD (j + n) 0) (hc0 : 0 ≤ c) (hc1 : c ≤ 1)
    (h1 : vb B32 m1 + B32 ^ j * (G * b) = vb B32 m0 + B32 ^ (j + n + 1)) (h2 : vb B32 m2 + B32 ^ (j + n) * c = vb B32 m1 + B32 ^ j * b) (hG : G * b < vb B32 (m0.drop j) + b) :
    (t + 4294967296 - x + c) % 4294967296 = 0 ∧ vb B32 (m2.set (j + n) 0) + B32 ^ j * ((G - 1) * b) = vb B32 m0 ∧ vb B32 ((m2.set (j + n) 0).drop j) + (G - 1) * b = vb B32 (m0.drop j) := by
  have hd := hm2.getD B32_pos (j + n)
  rw [← hte] at hd
  obtain ⟨hd0, hd1⟩ := hd
  have hsum : B32 ^ j * ((G - 1) * b) = B32 ^ j * (G * b) - B32 ^ j * b := by rw [Int.sub_mul, Int.one_mul, Int.mul_sub]
  rcases Int.lt_or_le (t + 4294967296 - x + c) 4294967296 with h | h
  · exfalso
    -- the number would be too great for its digits
    have h3 : vb B32 (m2.set (j + n) (t + 4294967296 - x + c)) + B32 ^ j * ((G - 1) * b - B32 ^ (n + 1)) = vb B32 m0 := by
      rw [vb_set B32 m2 (j + n) _ hj, ← hte, show t + 4294967296 - x + c - (t + 4294967296 - x) = c by omega, Int.mul_sub, hsum, ← Int.pow_add, ← Nat.add_assoc]
      omega
    have h4 := vb_drop_sub (by rw [List.length_set]; exact hl) (by omega) (by rw [take_set_above (by omega)]; exact ht) h3
    have hl2 : Lim B32 (m2.set (j + n) (t + 4294967296 - x + c)) := hm2.set _ (by omega) (by unfold B32; omega)
    have h5 := vb_lt_of_zeros B32_pos (hl2.drop j) (k := n + 1) (fun i hi => by
      rw [getD_drop, getD_set_other m2 (by omega)]
      exact hz _ (by omega))
    rw [Int.sub_mul, Int.one_mul] at h4
    omega
  · have e : t + 4294967296 - x + c = 4294967296 := by unfold B32 at hd1; omega
    refine ⟨by rw [e]; rfl, ?_⟩
    have h3 : vb B32 (m2.set (j + n) 0) + B32 ^ j * ((G - 1) * b) = vb B32 m0 := by
      rw [vb_set B32 m2 (j + n) _ hj, ← hte, hsum]
      have e2 : B32 ^ (j + n + 1) = B32 ^ (j + n) * c + B32 ^ (j + n) * (t + 4294967296 - x) := by
        rw [Int.pow_succ, ← Int.mul_add]; congr 1; unfold B32; omega
      rw [show (0 : Int) - (t + 4294967296 - x) = -(t + 4294967296 - x) by omega, Int.mul_neg]
      omega
    exact ⟨h3, vb_drop_sub (by rw [List.length_set]; exact hl) (by omega) (by rw [take_set_above (by omega)]; exact ht) h3⟩

/-- A round of the division: the quotient's digit is written. -/
theorem rd_round {m m0 q : List Int} {j : Nat} {D b A : Int} (hq : j < q.length) (h : vb B32 m + B32 ^ j * (D * b) = vb B32 m0) (hI : vb B32 m0 + B32 ^ (j + 1) * (vb B32 (q.drop (j + 1)) * b) = A) :
    vb B32 m + B32 ^ j * (vb B32 ((q.set j D).drop j) * b) = A := by
  rw [vb_drop B32 (l := q.set j D) (k := j) (by rw [List.length_set]; exact hq), getD_set_same hq]
  have e : (q.set j D).drop (j + 1) = q.drop (j + 1) := by
    apply List.ext_getElem?
    intro i
    rw [List.getElem?_drop, List.getElem?_drop, List.getElem?_set, if_neg (by omega)]
  rw [e, Int.add_mul, Int.mul_add, Int.mul_assoc B32, ← Int.mul_assoc (B32 ^ j) B32, show B32 ^ j * B32 = B32 ^ (j + 1) from (Int.pow_succ ..).symm]
  omega
/-- The end of the division. -/
theorem rd_end {Q R A B a b s : Int} (hs : 0 < s) (hA : A = a * s) (hB : B = b * s) (h : R + Q * B = A) (h0 : 0 ≤ R) (h1 : R < B) : Q = a / b ∧ R / s = a % b := by
  have hb : 0 < b := by
    rcases Int.lt_or_le 0 b with h2 | h2
    · exact h2
    · have := Int.mul_nonneg (show 0 ≤ -b by omega) (Int.le_of_lt hs)
      rw [Int.neg_mul] at this
      omega
  have e : R = (a - Q * b) * s := by rw [Int.sub_mul, Int.mul_assoc, ← hB, ← hA]; omega
  have e1 : R / s = a - Q * b := by rw [e, Int.mul_ediv_cancel _ (by omega)]
  have h2 : 0 ≤ a - Q * b := by rw [← e1]; exact Int.ediv_nonneg h0 (by omega)
  have h3 : a - Q * b < b := by
    rw [e, hB] at h1
    exact Int.lt_of_mul_lt_mul_right h1 (by omega)
  obtain ⟨g1, g2⟩ := red_right (a := a) (b := b) (G := Q) (by rw [Int.add_mul, Int.one_mul]; omega) (by omega)
  exact ⟨g1.symm, by rw [e1, g2]⟩


theorem nb_half {x : Int} (h : 0 < x) : nb x = nb (x / 2) + 1 := by
  obtain ⟨a, b, c⟩ := nb_spec h
  obtain ⟨m, hm⟩ : ∃ m, nb x = m + 1 := ⟨nb x - 1, by omega⟩
  rw [hm] at a b ⊢
  rw [Nat.add_sub_cancel] at a
  by_cases h0 : m = 0
  · subst h0
    have e : x / 2 = 0 := by have : x < 2 := b; omega
    rw [e, nb_zero]
  · obtain ⟨k, rfl⟩ : ∃ k, m = k + 1 := ⟨m - 1, by omega⟩
    rw [Int.pow_succ] at a b
    rw [nb_eq (m := k + 1) (by omega) (by rw [Nat.add_sub_cancel]; omega) (by omega)]

theorem nb_digits32 {l : List Int} (hc : Can B32 l) (hl : l ≠ []) : nb (vb B32 l) = 32 * (l.length - 1) + nb (l.getD (l.length - 1) 0) := by
  have hn : 0 < l.length := List.length_pos_iff.2 hl
  have ht := hc.top hl
  have hd := hc.lim.getD B32_pos (l.length - 1)
  obtain ⟨t, hte⟩ : ∃ t, t = l.getD (l.length - 1) 0 := ⟨_, rfl⟩
  rw [← hte] at ht hd ⊢
  have e := vb_take_succ B32 (l := l) (k := l.length - 1) (by omega)
  rw [show l.length - 1 + 1 = l.length by omega, List.take_length, ← hte] at e
  have h0 := vb_nonneg B32_pos (hc.lim.take (l.length - 1))
  have h1 := vb_lt B32_pos (hc.lim.take (l.length - 1))
  rw [List.length_take, Nat.min_eq_left (by omega)] at h1
  obtain ⟨b1, b2, b3⟩ := nb_spec (N := t) (by omega)
  have hp := pow_pos' B32_pos (l.length - 1)
  have hpw : B32 ^ (l.length - 1) = 2 ^ (32 * (l.length - 1)) := by rw [Int.pow_mul]; rfl
  have m1 : B32 ^ (l.length - 1) * (t + 1) ≤ B32 ^ (l.length - 1) * 2 ^ nb t := Int.mul_le_mul_of_nonneg_left (by omega) (Int.le_of_lt hp)
  have m2 : B32 ^ (l.length - 1) * 2 ^ (nb t - 1) ≤ B32 ^ (l.length - 1) * t := Int.mul_le_mul_of_nonneg_left b1 (Int.le_of_lt hp)
  rw [Int.mul_add, Int.mul_one] at m1
  refine nb_eq (by omega) ?_ ?_
  · rw [show 32 * (l.length - 1) + nb t - 1 = 32 * (l.length - 1) + (nb t - 1) by omega, Int.pow_add, ← hpw]
    omega
  · rw [Int.pow_add, ← hpw]
    omega

end Go.Proofs.Ytkkjkohmekbdbaa
