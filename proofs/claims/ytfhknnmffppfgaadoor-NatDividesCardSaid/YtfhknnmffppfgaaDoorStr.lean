/-
  Decimal texts: the number of a list of digits, and when a list of bytes is one. No program is spoken of here.
-/
import Derived.Test.YtfhknnmffppfgaaDoorMath
namespace Go.Proofs.YtfhknnmffppfgaaDoor

def dokB (c : UInt8) : Bool := decide (48 ≤ (c.toNat : Int)) && decide ((c.toNat : Int) ≤ 57)
def allD (l : List UInt8) : Bool := l.all dokB
def dval (l : List UInt8) : Int := l.foldl (fun a c => 10 * a + ((c.toNat : Int) - 48)) 0

theorem dval_snoc (l : List UInt8) (c : UInt8) : dval (l ++ [c]) = 10 * dval l + ((c.toNat : Int) - 48) := by simp [dval]
theorem allD_app (l m : List UInt8) : allD (l ++ m) = (allD l && allD m) := by simp [allD]
theorem allD_snoc (l : List UInt8) (c : UInt8) : allD (l ++ [c]) = (allD l && dokB c) := by simp [allD]

theorem fold_from (m : List UInt8) : ∀ z : Int, m.foldl (fun a c => 10 * a + ((c.toNat : Int) - 48)) z = z * 10 ^ m.length + dval m := by
  induction m with
  | nil => intro z; simp [dval]
  | cons c m ih =>
    intro z
    have e0 : dval (c :: m) = (10 * 0 + ((c.toNat : Int) - 48)) * 10 ^ m.length + dval m := ih (10 * 0 + ((c.toNat : Int) - 48))
    rw [List.foldl_cons, ih, e0, List.length_cons, Int.pow_succ]
    generalize dval m = d
    have e : (10 * z + ((c.toNat : Int) - 48)) * 10 ^ m.length = z * (10 ^ m.length * 10) + (10 * 0 + ((c.toNat : Int) - 48)) * 10 ^ m.length := by
      rw [Int.add_mul, Int.mul_zero, Int.zero_add, Int.mul_comm (10 ^ m.length) 10, ← Int.mul_assoc z, Int.mul_comm z 10]
    rw [e]
    omega
theorem dval_app (l m : List UInt8) : dval (l ++ m) = dval l * 10 ^ m.length + dval m := by
  rw [dval, List.foldl_append, fold_from]
  rfl

theorem snoc_ind {P : List UInt8 → Prop} (h0 : P []) (h1 : ∀ l c, P l → P (l ++ [c])) (l : List UInt8) : P l := by
  rw [← List.reverse_reverse l]
  induction l.reverse with
  | nil => exact h0
  | cons c m ih => rw [List.reverse_cons]; exact h1 _ _ ih

theorem dval_lim (l : List UInt8) (h : allD l = true) : 0 ≤ dval l ∧ dval l < 10 ^ l.length := by
  induction l using snoc_ind with
  | h0 => exact ⟨Int.le_refl _, by decide⟩
  | h1 l c ih =>
    rw [allD_snoc, Bool.and_eq_true] at h
    obtain ⟨i1, i2⟩ := ih h.1
    have hc := h.2
    simp [dokB] at hc
    rw [dval_snoc, List.length_append, List.length_singleton, Int.pow_succ]
    omega

theorem str_take (s : ByteArray) (k : Nat) (h : k < s.size) : s.data.toList.take (k + 1) = s.data.toList.take k ++ [s[k]] := by
  rw [List.take_succ_eq_append_getElem (by simpa using h)]; rfl
theorem str_len (s : ByteArray) : s.data.toList.length = s.size := by simp

/-- A bad byte anywhere makes the whole no number. -/
theorem allD_bad (s : ByteArray) (k : Nat) (h : k < s.size) (hc : dokB s[k] = false) : allD s.data.toList = false := by
  rw [← List.take_append_drop (k + 1) s.data.toList, allD_app, str_take s k h, allD_snoc, hc]
  simp
theorem dokB_lo (c : UInt8) (h : (c.toNat : Int) < 48) : dokB c = false := by simp [dokB]; omega
theorem dokB_hi (c : UInt8) (h : 57 < (c.toNat : Int)) : dokB c = false := by simp [dokB]; omega
theorem dokB_yes (c : UInt8) (h : 48 ≤ (c.toNat : Int)) (h2 : (c.toNat : Int) ≤ 57) : dokB c = true := by simp [dokB]; omega

theorem room_of {b : Int} (hb : 0 < b) {l : List Int} {m : Nat} (hc : Can b l) (h : vb b l < b ^ m) : l.length ≤ m := by
  by_cases hl : l = []
  · subst hl; simp
  · have h1 := hc.ge hb hl
    rcases Nat.lt_or_ge m l.length with h2 | h2
    · have := pow_le_pow hb (show m ≤ l.length - 1 by omega)
      omega
    · exact h2
theorem ten_pow_b {b : Int} (hb : 10 ≤ b) (k : Nat) : (10 : Int) ^ k ≤ b ^ k := by
  induction k with
  | zero => rw [Int.pow_zero, Int.pow_zero]; exact Int.le_refl _
  | succ k ih =>
    rw [Int.pow_succ, Int.pow_succ]
    have h0 : (0 : Int) ≤ 10 ^ k := Int.le_of_lt (Int.pow_pos (by decide))
    have h1 : (10 : Int) ^ k * 10 ≤ 10 ^ k * b := Int.mul_le_mul_of_nonneg_left hb h0
    have h2 : (10 : Int) ^ k * b ≤ b ^ k * b := Int.mul_le_mul_of_nonneg_right ih (by omega)
    omega
/-- A number of n decimal digits takes at most n words. -/
theorem room_dec {l : List Int} {L : List UInt8} (hc : Can B64 l) (ha : allD L = true) (h : vb B64 l = dval L) : l.length ≤ L.length := by
  refine room_of B64_pos hc ?_
  rw [h]
  exact Int.lt_of_lt_of_le (dval_lim L ha).2 (ten_pow_b (by decide) _)

end Go.Proofs.YtfhknnmffppfgaaDoor
