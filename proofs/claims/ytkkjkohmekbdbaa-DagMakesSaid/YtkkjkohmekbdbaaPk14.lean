/-
  AddProd: Contract of nat.addProduct: a number times a word is added to the first words of a row. Contract of nat.subProduct: a number times a word is taken from the first words of a row.
  Guess: Contract of nat.guessLimb: three words divided by two.
-/
import Derived.Test.YtkkjkohmekbdbaaPk13
import Derived.Test.YtkkjkohmekbdbaaPk6
import Derived.Test.YtkkjkohmekbdbaaPk9

namespace Go.Proofs.Ytkkjkohmekbdbaa
open Go.RowKit


theorem ap_step {l lo lx : List Int} {k : Nat} {c x y f s d : Int} (hk : k < l.length) (hkl : k < lo.length) (hkx : k < lx.length) (hx : x = lx.getD k 0) (hy : y = lo.getD k 0) (hs : s + B64 * d = y + x * f + c)
    (h : vb B64 (l.take k) + B64 ^ k * c = vb B64 (lo.take k) + vb B64 (lx.take k) * f) :
    vb B64 ((l.set k s).take (k + 1)) + B64 ^ (k + 1) * d = vb B64 (lo.take (k + 1)) + vb B64 (lx.take (k + 1)) * f := by
  rw [vb_take_succ B64 hkl, vb_take_succ B64 hkx, vb_take_succ B64 (by rw [List.length_set]; exact hk), getD_set_same hk, List.take_set_of_le (Nat.le_refl _), ← hx, ← hy, Int.pow_succ, Int.mul_assoc, Int.add_assoc, ← Int.mul_add, hs, Int.mul_add, Int.mul_add, Int.add_mul, Int.mul_assoc]
  omega

theorem word_prod {x f : Int} (hx0 : 0 ≤ x) (hx1 : x ≤ 18446744073709551615) (hf0 : 0 ≤ f) (hf1 : f ≤ 18446744073709551615) : 0 ≤ x * f ∧ x * f ≤ 340282366920938463426481119284349108225 := by
  refine ⟨Int.mul_nonneg hx0 hf0, ?_⟩
  have := Int.mul_le_mul hx1 hf1 hf0 (by decide)
  omega

/-- What nat.addProduct leaves. -/
def RetAP (g off no nx : Nat) (lo : List Int) (N : Int) (w : World) (e : Ending) (w' : World) : Prop :=
  ∃ c l, e = .returned (.int .u64 c) ∧ 0 ≤ c ∧ c < B64 ∧ l.length = no ∧ Lim B64 l ∧ Arr w' g off l ∧ l.drop nx = lo.drop nx ∧ vb B64 (l.take nx) + B64 ^ nx * c = vb B64 (lo.take nx) + N ∧ Only g off (off + nx) w w'

theorem sp_step {l lo lx : List Int} {k : Nat} {c x y f s d : Int} (hk : k < l.length) (hkl : k < lo.length) (hkx : k < lx.length) (hx : x = lx.getD k 0) (hy : y = lo.getD k 0) (hs : s - B64 * d = y - x * f - c)
    (h : vb B64 (l.take k) - B64 ^ k * c = vb B64 (lo.take k) - vb B64 (lx.take k) * f) :
    vb B64 ((l.set k s).take (k + 1)) - B64 ^ (k + 1) * d = vb B64 (lo.take (k + 1)) - vb B64 (lx.take (k + 1)) * f := by
  rw [vb_take_succ B64 hkl, vb_take_succ B64 hkx, vb_take_succ B64 (by rw [List.length_set]; exact hk), getD_set_same hk, List.take_set_of_le (Nat.le_refl _), ← hx, ← hy, Int.pow_succ, Int.mul_assoc, Int.add_mul, Int.mul_assoc]
  have e : B64 ^ k * s - B64 ^ k * (B64 * d) = B64 ^ k * y - B64 ^ k * (x * f) - B64 ^ k * c := by rw [← Int.mul_sub, hs, Int.mul_sub, Int.mul_sub]
  omega

/-- What nat.subProduct leaves. -/
def RetSP (g off no nx : Nat) (lo : List Int) (N : Int) (w : World) (e : Ending) (w' : World) : Prop :=
  ∃ c l, e = .returned (.int .u64 c) ∧ 0 ≤ c ∧ c < B64 ∧ l.length = no ∧ Lim B64 l ∧ Arr w' g off l ∧ l.drop nx = lo.drop nx ∧ vb B64 (l.take nx) - B64 ^ nx * c = vb B64 (lo.take nx) - N ∧ Only g off (off + nx) w w'

end Go.Proofs.Ytkkjkohmekbdbaa

namespace Go.Proofs.Ytkkjkohmekbdbaa
open Go.RowKit

/-- What nat.guessLimb returns: the quotient of U by V, but no more than a word holds. -/
def RetGuess (U V : Int) (w : World) (e : Ending) (w' : World) : Prop :=
  ∃ G : Int, e = .returned (.int .u64 G) ∧ 0 ≤ G ∧ G ≤ 18446744073709551615 ∧ G * V ≤ U ∧ (G = 18446744073709551615 ∨ U < (G + 1) * V) ∧ Below w.heap.size w w'

theorem guess_ok {a2 a1 a0 b1 b0 G R o : Int} (h : a2 * 18446744073709551616 + a1 = G * b1 + R + o * 18446744073709551616) (hle : G * b0 ≤ (R + o * 18446744073709551616) * 18446744073709551616 + a0) :
    G * (b1 * 18446744073709551616 + b0) ≤ (a2 * 18446744073709551616 + a1) * 18446744073709551616 + a0 := by
  rw [Int.mul_add, ← Int.mul_assoc, h]
  generalize G * b1 = p at *
  generalize G * b0 = q at *
  omega
theorem guess_more {a2 a1 a0 b1 b0 G R : Int} (h : a2 * 18446744073709551616 + a1 = G * b1 + R) (hgt : R * 18446744073709551616 + a0 < G * b0) :
    (a2 * 18446744073709551616 + a1) * 18446744073709551616 + a0 < ((G - 1) + 1) * (b1 * 18446744073709551616 + b0) := by
  rw [Int.sub_add_cancel, Int.mul_add, ← Int.mul_assoc, h]
  generalize G * b1 = p at *
  generalize G * b0 = q at *
  omega

set_option maxRecDepth 100000 in
set_option maxHeartbeats 4000000 in
/-- The loop, from any state that fits. -/
theorem guess_first {a2 a1 b1 : Int} (h0 : 0 ≤ a2) (h1 : 0 ≤ a1) (h1' : a1 ≤ 18446744073709551615) (hlt : a2 < b1) :
    0 ≤ (a2 * 18446744073709551616 + a1) / b1 ∧ (a2 * 18446744073709551616 + a1) / b1 ≤ 18446744073709551615 ∧ 0 ≤ (a2 * 18446744073709551616 + a1) % b1 ∧ (a2 * 18446744073709551616 + a1) % b1 < b1 ∧ a2 * 18446744073709551616 + a1 = (a2 * 18446744073709551616 + a1) / b1 * b1 + (a2 * 18446744073709551616 + a1) % b1 := by
  have e := Int.mul_ediv_add_emod (a2 * 18446744073709551616 + a1) b1
  have hb : 0 < b1 := by omega
  refine ⟨Int.ediv_nonneg (by omega) (by omega), ?_, Int.emod_nonneg _ (by omega), Int.emod_lt_of_pos _ hb, by rw [Int.mul_comm] at e; omega⟩
  have : (a2 * 18446744073709551616 + a1) / b1 < 18446744073709551616 := Int.ediv_lt_of_lt_mul hb (by omega)
  omega

end Go.Proofs.Ytkkjkohmekbdbaa
