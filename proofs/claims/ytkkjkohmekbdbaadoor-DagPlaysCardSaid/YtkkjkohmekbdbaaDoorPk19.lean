/-
  DivMod: Contract of nat.divide where the quotient is short. Contract of nat.DivMod where the dividend has at most 150 words: the quotient and the rest.
-/
import Derived.Test.YtkkjkohmekbdbaaDoorPk18
import Derived.Test.YtkkjkohmekbdbaaDoorPk8
import Derived.OwnWalk

namespace Go.Proofs.YtkkjkohmekbdbaaDoor
open Go.RowKit


theorem top_big {lb : List Int} {n : Nat} (hnb : n = lb.length) (hlb : Lim B64 lb) (hn2 : 2 ≤ n) (htop : 9223372036854775808 ≤ lb.getD (n - 1) 0) : B64 ^ (n - 1) ≤ vb B64 lb := by
  have h1 := vb_take_succ B64 (l := lb) (k := n - 1) (by omega)
  rw [List.take_of_length_le (by omega)] at h1
  have h2 := vb_nonneg B64_pos (hlb.take (n - 1))
  have h3 := Int.mul_le_mul_of_nonneg_left (show 1 ≤ lb.getD (n - 1) 0 by omega) (Int.le_of_lt (pow_pos' B64_pos (n - 1)))
  omega

/-- What nat.DivMod leaves: two new rows that lie apart. -/
def RetDM (a b : Int) (w : World) (e : Ending) (w' : World) : Prop :=
  ∃ vq lq vr lr, e = .returned (.tuple #[vq, vr, .bool true]) ∧ Ow w.heap.size w' vq lq ∧ Can B64 lq ∧ vb B64 lq = a / b ∧ Ow w.heap.size w' vr lr ∧ Can B64 lr ∧ vb B64 lr = a % b ∧ Dis vq vr ∧ Below w.heap.size w w'

/-- A divisor shifted until its top bit is set. -/
theorem norm_top {l l2 : List Int} {t s : Nat} (hl : Can B64 l) (ht : t = l.length) (h0 : 0 < t) (hs : 64 - (Lib.bitLen (l.getD (t - 1) 0).toNat : Int) = (s : Int)) (hl2 : Can B64 l2) (hv : vb B64 l2 = vb B64 l * 2 ^ s) :
    l2.length = t ∧ 9223372036854775808 ≤ l2.getD (t - 1) 0 := by
  obtain ⟨x, hx⟩ : ∃ x, x = l.getD (t - 1) 0 := ⟨_, rfl⟩
  rw [← hx] at hs
  have hne : l ≠ [] := by intro e; subst e; simp at ht; omega
  have hx0 : x ≠ 0 := by rw [hx, ht]; exact hl.top hne
  have hxl := hl.lim.getD B64_pos (t - 1)
  rw [← hx] at hxl
  have hxn : x.toNat < 2 ^ 64 := by unfold B64 at hxl; omega
  obtain ⟨hb1, hb2⟩ := bitLen_spec 64 x.toNat hxn hxn
  obtain ⟨hb3, hb4⟩ := hb2 (by omega)
  have hb5 := bitLen_le64 x.toNat hxn
  obtain ⟨L, hL⟩ : ∃ L, L = Lib.bitLen x.toNat := ⟨_, rfl⟩
  rw [← hL] at hs hb1 hb3 hb4 hb5
  have e1 : (2:Int) ^ L * 2 ^ s = 18446744073709551616 := by rw [← Int.pow_add, show L + s = 64 by omega]; rfl
  have e2 : (2:Int) ^ (L - 1) * 2 ^ s = 9223372036854775808 := by rw [← Int.pow_add, show L - 1 + s = 63 by omega]; rfl
  have hp : 0 < (2:Int) ^ s := Int.pow_pos (by decide)
  have c1 : x + 1 ≤ (2:Int) ^ L := by
    have h1 : (x.toNat : Int) < ((2 ^ L : Nat) : Int) := by exact_mod_cast hb1
    rw [Int.natCast_pow] at h1
    have h2 : ((2 : Nat) : Int) ^ L = (2:Int) ^ L := rfl
    omega
  have c2 : (2:Int) ^ (L - 1) ≤ x := by
    have h1 : ((2 ^ (L - 1) : Nat) : Int) ≤ (x.toNat : Int) := by exact_mod_cast hb3
    rw [Int.natCast_pow] at h1
    have h2 : ((2 : Nat) : Int) ^ (L - 1) = (2:Int) ^ (L - 1) := rfl
    omega
  have d1 : (x + 1) * 2 ^ s ≤ 18446744073709551616 := by rw [← e1]; exact Int.mul_le_mul_of_nonneg_right c1 (Int.le_of_lt hp)
  have d2 : 9223372036854775808 ≤ x * 2 ^ s := by rw [← e2]; exact Int.mul_le_mul_of_nonneg_right c2 (Int.le_of_lt hp)
  have f1 := vb_take_succ B64 (l := l) (k := t - 1) (by omega)
  rw [List.take_of_length_le (by omega), ← hx] at f1
  have f2 := vb_nonneg B64_pos (hl.lim.take (t - 1))
  have f3 := vb_lt B64_pos (hl.lim.take (t - 1))
  rw [List.length_take, Nat.min_eq_left (by omega)] at f3
  obtain ⟨P, hP⟩ : ∃ P, P = B64 ^ (t - 1) := ⟨_, rfl⟩
  have hP0 : 0 < P := by rw [hP]; exact pow_pos' B64_pos _
  have hPt : B64 ^ t = P * 18446744073709551616 := by rw [show B64 ^ t = B64 ^ (t - 1 + 1) by rw [Nat.sub_add_cancel h0], Int.pow_succ, ← hP]; rfl
  rw [← hP] at f1 f3
  have g1 : P * (x * 2 ^ s) ≤ vb B64 l2 := by
    rw [hv, f1, Int.add_mul, Int.mul_assoc]
    have := Int.mul_nonneg f2 (Int.le_of_lt hp)
    omega
  have g2 : vb B64 l2 < P * ((x + 1) * 2 ^ s) := by
    have h : vb B64 l < P * (x + 1) := by rw [Int.mul_add, Int.mul_one]; omega
    have h2 := Int.mul_lt_mul_of_pos_right h hp
    rw [Int.mul_assoc, ← hv] at h2
    exact h2
  have g3 : P * 9223372036854775808 ≤ vb B64 l2 := Int.le_trans (Int.mul_le_mul_of_nonneg_left d2 (Int.le_of_lt hP0)) g1
  have g4 : vb B64 l2 < P * 18446744073709551616 := Int.lt_of_lt_of_le g2 (Int.mul_le_mul_of_nonneg_left d1 (Int.le_of_lt hP0))
  have hlen : l2.length = t := by
    rcases Nat.lt_trichotomy l2.length t with h | h | h
    · have h1 := vb_lt B64_pos hl2.lim
      have h2 := pow_le_pow B64_pos (show l2.length ≤ t - 1 by omega)
      rw [← hP] at h2
      omega
    · exact h
    · have h1 := hl2.ge B64_pos (by intro e; subst e; simp at h)
      have h2 := pow_le_pow B64_pos (show t ≤ l2.length - 1 by omega)
      rw [hPt] at h2
      omega
  refine ⟨hlen, ?_⟩
  have k1 := vb_take_succ B64 (l := l2) (k := t - 1) (by omega)
  rw [List.take_of_length_le (by omega), ← hP] at k1
  have k3 := vb_lt B64_pos (hl2.lim.take (t - 1))
  rw [List.length_take, Nat.min_eq_left (by omega), ← hP] at k3
  rcases Int.lt_or_le (l2.getD (t - 1) 0) 9223372036854775808 with h | h
  · have h1 := Int.mul_le_mul_of_nonneg_left (show l2.getD (t - 1) 0 + 1 ≤ 9223372036854775808 by omega) (Int.le_of_lt hP0)
    rw [Int.mul_add, Int.mul_one] at h1
    omega
  · exact h

theorem len_le_of_lt {l : List Int} {m : Nat} (hc : Can B64 l) (h : vb B64 l < B64 ^ m) : l.length ≤ m := by
  by_cases hl : l = []
  · subst hl; simp
  · have h1 := hc.ge B64_pos hl
    rcases Nat.lt_or_ge m l.length with h2 | h2
    · have := pow_le_pow B64_pos (show m ≤ l.length - 1 by omega)
      omega
    · exact h2

theorem norm_div {a b s : Int} (hs : 0 < s) : a * s / (b * s) = a / b := Int.mul_ediv_mul_of_pos_left a b hs
theorem norm_mod {a b s : Int} (hs : 0 < s) : (a * s) % (b * s) = a % b * s := by rw [Int.mul_comm a s, Int.mul_comm b s, Int.mul_emod_mul_of_pos _ _ hs, Int.mul_comm]

end Go.Proofs.YtkkjkohmekbdbaaDoor
