/-
  MulHalves: Contract of nat.multiplyHalves, what nat.multiply does on shorter numbers being given.
  Mul: Contract of nat.multiply, for every cut. Contract of nat.Mul.
  Reduce: Contract of nat.reduce: one step of the long division.
  DivLong: Contract of nat.divideLong.
-/
import Derived.Test.YtkkjkohmekbdbaaPk15
import Derived.Test.YtkkjkohmekbdbaaPk6
import Derived.Test.YtkkjkohmekbdbaaPk2
import Derived.StillTailTactics
import Derived.Test.YtkkjkohmekbdbaaPk14
import Derived.Test.YtkkjkohmekbdbaaPk9

namespace Go.Proofs.Ytkkjkohmekbdbaa
open Go.RowKit

theorem cross_same {A0 A1 B0 B1 : Int} (h : decide (A0 < A1) = decide (B0 < B1)) : A0 * B0 + A1 * B1 - (if A0 < A1 then A1 - A0 else A0 - A1) * (if B0 < B1 then B1 - B0 else B0 - B1) = A0 * B1 + A1 * B0 := by
  by_cases h1 : A0 < A1
  · have h2 : B0 < B1 := by rw [decide_eq_true h1] at h; exact of_decide_eq_true h.symm
    rw [if_pos h1, if_pos h2, Int.sub_mul, Int.mul_sub, Int.mul_sub]
    omega
  · have h2 : ¬ B0 < B1 := by rw [decide_eq_false h1] at h; exact of_decide_eq_false h.symm
    rw [if_neg h1, if_neg h2, Int.sub_mul, Int.mul_sub, Int.mul_sub]
    omega
theorem cross_diff {A0 A1 B0 B1 : Int} (h : decide (A0 < A1) ≠ decide (B0 < B1)) : A0 * B0 + A1 * B1 + (if A0 < A1 then A1 - A0 else A0 - A1) * (if B0 < B1 then B1 - B0 else B0 - B1) = A0 * B1 + A1 * B0 := by
  by_cases h1 : A0 < A1
  · have h2 : ¬ B0 < B1 := by intro h2; exact h (by rw [decide_eq_true h1, decide_eq_true h2])
    rw [if_pos h1, if_neg h2, Int.sub_mul, Int.mul_sub, Int.mul_sub]
    omega
  · have h2 : B0 < B1 := by
      rcases Classical.em (B0 < B1) with h2 | h2
      · exact h2
      · exact absurd (by rw [decide_eq_false h1, decide_eq_false h2]) h
    rw [if_neg h1, if_pos h2, Int.sub_mul, Int.mul_sub, Int.mul_sub]
    omega
theorem halves_tot (A0 A1 B0 B1 X : Int) : (A0 + X * A1) * (B0 + X * B1) = A0 * B0 + X * X * (A1 * B1) + X * (A0 * B1 + A1 * B0) := by
  rw [Int.add_mul, Int.mul_add, Int.mul_add, Int.mul_assoc X A1 B0, Int.mul_left_comm A0 X B1, Int.mul_assoc X A1 (X * B1), Int.mul_left_comm A1 X B1, ← Int.mul_assoc X X, Int.mul_add X]
  omega
theorem abs_gap {A B X : Int} (h0 : 0 ≤ A) (h1 : A < X) (h2 : 0 ≤ B) (h3 : B < X) : 0 ≤ (if A < B then B - A else A - B) ∧ (if A < B then B - A else A - B) < X := by
  split <;> omega
/-- What the products of the halves are at most. -/
theorem halves_room {A0 A1 B0 B1 X : Int} {h : Nat} (hX : X = B64 ^ h) (a0 : 0 ≤ A0) (a1 : A0 < X) (a2 : 0 ≤ A1) (a3 : A1 < X) (b0 : 0 ≤ B0) (b1 : B0 < X) (b2 : 0 ≤ B1) (b3 : B1 < X) :
    A0 * B0 + A1 * B1 + (if A0 < A1 then A1 - A0 else A0 - A1) * (if B0 < B1 then B1 - B0 else B0 - B1) < B64 ^ (2 * h + 1) ∧ 0 ≤ A0 * B0 ∧ 0 ≤ A1 * B1 ∧ 0 ≤ A0 * B1 + A1 * B0 ∧ 0 ≤ (if A0 < A1 then A1 - A0 else A0 - A1) * (if B0 < B1 then B1 - B0 else B0 - B1) := by
  obtain ⟨da0, da1⟩ := abs_gap a0 a1 a2 a3
  obtain ⟨db0, db1⟩ := abs_gap b0 b1 b2 b3
  have e1 := prod_lt a1 b1 a0 b0
  have e2 := prod_lt a3 b3 a2 b2
  have e3 := prod_lt da1 db1 da0 db0
  have n1 := Int.mul_nonneg a0 b0
  have n2 := Int.mul_nonneg a2 b2
  have n3 := Int.mul_nonneg a0 b2
  have n4 := Int.mul_nonneg a2 b0
  have n5 := Int.mul_nonneg da0 db0
  have e4 : B64 ^ (2 * h + 1) = X * X * B64 := by rw [Int.pow_succ, show 2 * h = h + h by omega, Int.pow_add, hX]
  rw [e4]
  generalize X * X = Y at *
  refine ⟨?_, n1, n2, by omega, n5⟩
  unfold B64
  omega

end Go.Proofs.Ytkkjkohmekbdbaa

namespace Go.Proofs.Ytkkjkohmekbdbaa
open Go.RowKit


end Go.Proofs.Ytkkjkohmekbdbaa

namespace Go.Proofs.Ytkkjkohmekbdbaa
open Go.RowKit

/-- What nat.reduce leaves. -/
def RetRed (g off n : Nat) (a b : Int) (w : World) (e : Ending) (w' : World) : Prop := e = .returned (.int .u64 (a / b)) ∧ InPl g off (n + 1) (a % b) w w'

end Go.Proofs.Ytkkjkohmekbdbaa

namespace Go.Proofs.Ytkkjkohmekbdbaa
open Go.RowKit

/-- A row of which words in the middle have been written. -/
theorem splice_mid {g off t s n : Nat} {l : List Int} {N : Int} {w w' : World} (ha : Arr w g off l) (hl : Lim B64 l) (hn : l.length = n) (ht : t + s ≤ n) (h : InPl g (off + t) s N w w') :
    ∃ l2, l2.length = n ∧ Lim B64 l2 ∧ Arr w' g off l2 ∧ l2.take t = l.take t ∧ vb B64 (l2.drop t) = N + B64 ^ s * vb B64 (l.drop (t + s)) ∧ Only g off (off + n) w w' := by
  obtain ⟨l', hl', hlim', harr', hv', hon'⟩ := h
  have hlt : (l.take t).length = t := by rw [List.length_take]; omega
  have h1 := hon'.arr (ha.take t) (Or.inl (by rw [hlt]; exact Nat.le_refl _))
  have h2 := hon'.arr (ha.drop (t + s)) (Or.inr (by omega))
  have h3 := h1.append (by rw [hlt]; exact harr')
  have h4 := h3.append (m := l.drop (t + s)) (by rw [List.length_append, hlt, hl']; exact h2)
  refine ⟨l.take t ++ l' ++ l.drop (t + s), by rw [List.length_append, List.length_append, hlt, hl', List.length_drop]; omega, ((hl.take t).app hlim').app (hl.drop _), h4, ?_, ?_, hon'.mono (by omega) (by omega)⟩
  · rw [List.append_assoc, List.take_append_of_le_length (by omega), List.take_of_length_le (by omega)]
  · rw [List.append_assoc, List.drop_append_of_le_length (by omega), List.drop_of_length_le (l := l.take t) (by omega), List.nil_append, vb_append, hl', hv']

/-- Where the upper part is small its words above n are nothing. -/
theorem high_zero {l : List Int} {k n : Nat} {b : Int} (hl : Lim B64 l) (hb : b < B64 ^ n) (h : vb B64 (l.drop k) < b) (hkn : k + n ≤ l.length) : vb B64 (l.drop (k + n)) = 0 := by
  have h1 := vb_split B64 (l.drop k) n (by rw [List.length_drop]; omega)
  rw [List.drop_drop] at h1
  have h2 := vb_nonneg B64_pos ((hl.drop k).take n)
  have h3 := vb_nonneg B64_pos (hl.drop (k + n))
  rcases Int.lt_or_le 0 (vb B64 (l.drop (k + n))) with h4 | h4
  · have := Int.mul_le_mul_of_nonneg_left (show 1 ≤ vb B64 (l.drop (k + n)) by omega) (Int.le_of_lt (pow_pos' B64_pos n))
    omega
  · omega

/-- One more digit of the quotient. -/
theorem long_step {Q' Rt q r b A S : Int} {j : Nat} (hS : S = q * b + r) (h : A = B64 ^ (j + 1) * (Q' * b) + (Rt + B64 ^ j * S)) : A = B64 ^ j * ((q + B64 * Q') * b) + (Rt + B64 ^ j * r) := by
  rw [h, hS, Int.add_mul, Int.mul_add (B64 ^ j), Int.mul_add (B64 ^ j), Int.pow_succ, Int.mul_assoc (B64 ^ j), Int.mul_assoc B64]
  omega

/-- Two rows of the call's own lie apart. -/
def Dis (v u : Value) : Prop := ∀ g, v.ownBlock = some g → u.ownBlock ≠ some g
theorem Ow.lt {base : Nat} {w : World} {v : Value} {l : List Int} (h : Ow base w v l) {k : Nat} (hk : v.ownBlock = some k) : k < w.heap.size := by
  rcases h.2 with ⟨rfl, _⟩ | ⟨g, cap, cur, rfl, hg, hh, _⟩
  · simp [Value.ownBlock] at hk
  · simp only [Value.ownBlock, Option.some.injEq] at hk
    rw [← hk]
    exact (Array.getElem?_eq_some_iff.1 hh).1

/-- What nat.divideLong returns. -/
def RetDivL (a b : Int) (w : World) (e : Ending) (w' : World) : Prop :=
  ∃ vq lq vr lr, e = .returned (.tuple #[vq, vr]) ∧ Ow w.heap.size w' vq lq ∧ Can B64 lq ∧ vb B64 lq = a / b ∧ Ow w.heap.size w' vr lr ∧ Can B64 lr ∧ vb B64 lr = a % b ∧ Dis vq vr ∧ Below w.heap.size w w'

end Go.Proofs.Ytkkjkohmekbdbaa
