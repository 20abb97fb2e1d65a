/-
  LowNum: Contracts of nat.parseLimb and nat.appendChunk. Contract of nat.Parse. Contracts of nat.Low, nat.Parse of a text of digits, nat.Shl by a negative number, at the level of numbers; the bits of a power of two.
-/
import Derived.Test.YtkkjkohmekbdbaaPk13
import Derived.Test.YtkkjkohmekbdbaaPk6
import Derived.Test.YtkkjkohmekbdbaaPk2
import Derived.Test.YtkkjkohmekbdbaaPk19
import Derived.Test.YtkkjkohmekbdbaaPk10

namespace Go.Proofs.Ytkkjkohmekbdbaa
open Go.RowKit


/-- What nat.parseLimb returns. -/
def limbOf (l : List UInt8) : Value := .tuple #[.int .u64 (if allD l then dval l else 0), .bool (allD l)]

theorem pow_ten_le {k : Nat} (h : k ≤ 18) : (10 : Int) ^ k ≤ 1000000000000000000 := by
  have := pow_le_pow (b := 10) (by decide) h
  rw [show (10 : Int) ^ 18 = 1000000000000000000 by decide] at this
  exact this

theorem can_of_ge {b : Int} (hb : 0 < b) {l : List Int} (h : Lim b l) (hg : l ≠ [] → b ^ (l.length - 1) ≤ vb b l) : Can b l := by
  refine ⟨h, ?_⟩
  by_cases hl : l = []
  · subst hl; rfl
  · have h1 := hg hl
    have h2 := vb_lt hb (l := tr l) (h.take _)
    rw [vb_tr, tr_length] at h2
    have h3 := tlen_le l
    by_cases he : tlen l = l.length
    · exact he
    · have := pow_le_pow hb (show tlen l ≤ l.length - 1 by omega)
      omega

/-- A row of the call's own that holds a word. -/
theorem Ow.some {base : Nat} {w : World} {v : Value} {l : List Int} (h : Ow base w v l) (hl : l ≠ []) : ∃ g cap, v = .slice (some ⟨g, 0, none⟩) l.length cap ∧ l.length ≤ cap ∧ cap ≤ 9223372036854775807 ∧ base ≤ g := by
  obtain ⟨ao, cap, rfl, h1, h2, _⟩ := h.form
  rcases h.2 with ⟨_, h0⟩ | ⟨g, cap', cur, hv, hg, _⟩
  · exact absurd (List.eq_nil_of_length_eq_zero h0) hl
  · simp only [Value.slice.injEq] at hv
    obtain ⟨rfl, _, rfl⟩ := hv
    exact ⟨g, cap, rfl, h1, h2, hg⟩

/-- One word times the chunk, and the carry. -/
theorem chunk_step {l m : List Int} {k : Nat} {c x T : Int} (hk : k < l.length) (hlm : m.length = l.length) (hx : x = l.getD k 0) (h : vb B64 (m.take k) + B64 ^ k * c = vb B64 (l.take k) * 10000000000000000000 + T) :
    vb B64 ((m.set k (lo64 (x * 10000000000000000000 % 18446744073709551616 + c))).take (k + 1)) + B64 ^ (k + 1) * (x * 10000000000000000000 / 18446744073709551616 + hi64 (x * 10000000000000000000 % 18446744073709551616 + c)) = vb B64 (l.take (k + 1)) * 10000000000000000000 + T := by
  have hkm : k < m.length := by omega
  rw [vb_take_succ B64 hk, vb_take_succ B64 (by rw [List.length_set]; exact hkm), getD_set_same hkm, List.take_set_of_le (Nat.le_refl _), ← hx, Int.pow_succ, Int.mul_assoc, Int.add_assoc, ← Int.mul_add]
  have e : lo64 (x * 10000000000000000000 % 18446744073709551616 + c) + B64 * (x * 10000000000000000000 / 18446744073709551616 + hi64 (x * 10000000000000000000 % 18446744073709551616 + c)) = c + x * 10000000000000000000 := by
    have := lohi (x * 10000000000000000000 % 18446744073709551616 + c)
    unfold B64 at *
    omega
  rw [e, Int.mul_add, Int.add_mul, Int.mul_assoc]
  omega

/-- A row of the call's own that is the number N, without zeros at its end. -/
def RetChunk (base : Nat) (N : Int) (w : World) (e : Ending) (w' : World) : Prop := ∃ v' l', e = .returned v' ∧ Ow base w' v' l' ∧ Can B64 l' ∧ vb B64 l' = N ∧ Below base w w'

/-- What nat.Parse returns. -/
def RetP (L : List UInt8) (w : World) (e : Ending) (w' : World) : Prop :=
  ∃ v l, e = .returned (.tuple #[v, .bool (allD L)]) ∧ Ow w.heap.size w' v l ∧ Can B64 l ∧ vb B64 l = (if allD L then dval L else 0) ∧ Below w.heap.size w w'

theorem low_pow {n t : Nat} (h : IsLow (2 ^ n) t) : t = n := by
  obtain ⟨z, hz⟩ := h
  have hp := pow2_pos n
  have ht := pow2_pos t
  have hz1 : 0 < 2 * z + 1 := by
    rcases Int.lt_or_le 0 (2 * z + 1) with a | a
    · exact a
    · have := Int.mul_nonpos_of_nonneg_of_nonpos (Int.le_of_lt ht) a
      omega
  rcases Nat.lt_trichotomy t n with a | a | a
  · obtain ⟨k, hk⟩ := Nat.le.dest (Nat.succ_le_of_lt a)
    rw [← hk, show t.succ + k = t + (k + 1) by omega, Int.pow_add] at hz
    have e := Int.eq_of_mul_eq_mul_left (by omega : (2:Int) ^ t ≠ 0) hz
    rw [Int.pow_succ] at e
    omega
  · exact a
  · have h1 : (2 : Int) ^ n < 2 ^ t := by
      have h2 : (2 : Int) ^ (n + 1) ≤ 2 ^ t := pow_le_pow (by decide) a
      rw [Int.pow_succ] at h2
      omega
    have h3 := Int.mul_le_mul_of_nonneg_left (show 1 ≤ 2 * z + 1 by omega) (Int.le_of_lt ht)
    omega

theorem nb_pow (n : Nat) : nb (2 ^ n) = n + 1 := nb_eq (by omega) (Int.le_refl _) (by rw [Int.pow_succ]; have := pow2_pos n; omega)
theorem nb_pow_pred (n : Nat) : nb (2 ^ n - 1) = n := by
  by_cases h : n = 0
  · subst h; decide
  · have e : (2 : Int) ^ n = 2 ^ (n - 1) * 2 := by rw [← Int.pow_succ]; congr 1; omega
    have := pow2_pos (n - 1)
    exact nb_eq (by omega) (by omega) (by omega)

end Go.Proofs.Ytkkjkohmekbdbaa
