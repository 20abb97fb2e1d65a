/-
  Math: Plain arithmetic of lists of digits: the number that a list of digits of some base denotes, lists without zeros at their end, and how sums, differences and comparisons of such lists go. No program is spoken of here. Plain arithmetic of the division of two words by one: a quotient's digit that is guessed from the top digit of the divisor, and mended. Decimal digits of a number, as bytes; no program is spoken of here. Arithmetic of one step of the long division: what the guess of three words by two tells of the whole. No program is spoken of here. Decimal texts: the number of a list of digits, and when a list of bytes is one. No program is spoken of here.
  Mem: Memory that holds lists of 64-bit words: what a slice reads as, what a row of the call's own holds, and what a function that writes into a row leaves as it was. No function of the program is spoken of here.
  Laws: Laws for a walk, in the words of XMem: make, copy, append on rows of 64-bit words. No function of the program is spoken of here.
  Laid: What every proof of a row of this seat needs: the world in which the listed variables hold their values, and what a call that only adds new memory leaves of its arguments.
  Trim: Contracts of the smallest functions of package nat: trim, and the two calls of math/bits that the model stands in for. Contracts of nat.addTo and nat.subFrom: a number is added to, taken from, the number in a row, in place.
  Nat1: Contracts of nat.Of, nat.Cmp, nat.Sub and nat.Add.
-/
import Derived.WalkKit
import Derived.WalkSpells
import Derived.WalkLawsBesides
import Derived.Lib.Hide
import Derived.Laws.CopyOwn
import Derived.Deep.Draws
import Derived.Deep.RegionLaw
import Derived.Test.YtfanhllcoaondaaDoorRows
import Derived.ProofKit
import Derived.OpenShut
import Derived.Carry
import Derived.Deep.DeepHandedRow
import Derived.Deep.Matrix
import Derived.Test.YtfanhllcoaondaaDoorProg
import Derived.BigQuiet
import Derived.Deep.QuietTactic

namespace Go.Proofs.YtfanhllcoaondaaDoor

/-- The number of a list of digits, the lowest first. -/
def vb (b : Int) : List Int → Int
  | [] => 0
  | x :: l => x + b * vb b l

/-- Every digit is one. -/
def Lim (b : Int) (l : List Int) : Prop := ∀ x ∈ l, 0 ≤ x ∧ x < b

/-- How many digits are left when the zeros at the end are taken off. -/
def tlen : List Int → Nat
  | [] => 0
  | x :: l => if tlen l = 0 then (if x = 0 then 0 else 1) else tlen l + 1

def tr (l : List Int) : List Int := l.take (tlen l)

/-- Digits, and no zero at the end. -/
def Can (b : Int) (l : List Int) : Prop := Lim b l ∧ tlen l = l.length

@[simp] theorem vb_nil (b : Int) : vb b [] = 0 := rfl
theorem vb_cons (b x : Int) (l : List Int) : vb b (x :: l) = x + b * vb b l := rfl

theorem Lim.nil (b : Int) : Lim b [] := fun _ h => by cases h
theorem Lim.cons {b x : Int} {l : List Int} (h0 : 0 ≤ x) (h1 : x < b) (h : Lim b l) : Lim b (x :: l) := by
  intro y hy
  rcases List.mem_cons.1 hy with rfl | hy
  · exact ⟨h0, h1⟩
  · exact h y hy
theorem Lim.tail {b x : Int} {l : List Int} (h : Lim b (x :: l)) : Lim b l := fun y hy => h y (List.mem_cons_of_mem _ hy)
theorem Lim.head {b x : Int} {l : List Int} (h : Lim b (x :: l)) : 0 ≤ x ∧ x < b := h x (List.mem_cons_self ..)
theorem Lim.app {b : Int} {l m : List Int} (h : Lim b l) (k : Lim b m) : Lim b (l ++ m) := by
  intro x hx
  rcases List.mem_append.1 hx with hx | hx
  · exact h x hx
  · exact k x hx
theorem Lim.take {b : Int} {l : List Int} (h : Lim b l) (k : Nat) : Lim b (l.take k) := fun x hx => h x (List.mem_of_mem_take hx)
theorem Lim.drop {b : Int} {l : List Int} (h : Lim b l) (k : Nat) : Lim b (l.drop k) := fun x hx => h x (List.mem_of_mem_drop hx)
theorem Lim.getD {b : Int} {l : List Int} (hb : 0 < b) (h : Lim b l) (k : Nat) : 0 ≤ l.getD k 0 ∧ l.getD k 0 < b := by
  by_cases hk : k < l.length
  · rw [List.getD_eq_getElem?_getD, List.getElem?_eq_getElem hk]
    exact h _ (List.getElem_mem hk)
  · rw [List.getD_eq_getElem?_getD, List.getElem?_eq_none (by omega)]
    exact ⟨Int.le_refl _, hb⟩
theorem Lim.set {b : Int} {l : List Int} (h : Lim b l) (k : Nat) {x : Int} (h0 : 0 ≤ x) (h1 : x < b) : Lim b (l.set k x) := by
  intro y hy
  rcases List.mem_or_eq_of_mem_set hy with hy | rfl
  · exact h y hy
  · exact ⟨h0, h1⟩
theorem Lim.replicate {b : Int} (hb : 0 < b) (n : Nat) : Lim b (List.replicate n 0) := by
  intro y hy
  rw [(List.mem_replicate.1 hy).2]
  exact ⟨Int.le_refl _, hb⟩

theorem pow_pos' {b : Int} (hb : 0 < b) (n : Nat) : 0 < b ^ n := Int.pow_pos hb

theorem vb_nonneg {b : Int} (hb : 0 < b) {l : List Int} (h : Lim b l) : 0 ≤ vb b l := by
  induction l with
  | nil => exact Int.le_refl _
  | cons x l ih =>
    rw [vb_cons]
    have := h.head
    have := Int.mul_nonneg (Int.le_of_lt hb) (ih h.tail)
    omega

theorem vb_lt {b : Int} (hb : 0 < b) {l : List Int} (h : Lim b l) : vb b l < b ^ l.length := by
  induction l with
  | nil => show (0:Int) < b ^ 0; rw [Int.pow_zero]; decide
  | cons x l ih =>
    rw [vb_cons, List.length_cons, Int.pow_succ]
    have h1 := h.head
    have h2 := ih h.tail
    have h3 : b * (vb b l + 1) ≤ b * b ^ l.length := Int.mul_le_mul_of_nonneg_left (by omega) (Int.le_of_lt hb)
    rw [Int.mul_add] at h3
    rw [Int.mul_comm (b ^ l.length) b]
    omega

theorem vb_append (b : Int) (l m : List Int) : vb b (l ++ m) = vb b l + b ^ l.length * vb b m := by
  induction l with
  | nil => simp
  | cons x l ih =>
    rw [List.cons_append, vb_cons, vb_cons, ih, List.length_cons, Int.pow_succ, Int.mul_add, Int.mul_comm (b ^ l.length) b, Int.mul_assoc]
    omega

theorem vb_replicate (b : Int) (n : Nat) : vb b (List.replicate n 0) = 0 := by
  induction n with
  | zero => rfl
  | succ n ih => rw [List.replicate_succ, vb_cons, ih]; simp

/-- A digit more at the end. -/
theorem vb_snoc (b x : Int) (l : List Int) : vb b (l ++ [x]) = vb b l + b ^ l.length * x := by
  rw [vb_append, vb_cons, vb_nil, Int.mul_zero, Int.add_zero]

/-- The first k digits and the others. -/
theorem vb_split (b : Int) (l : List Int) (k : Nat) (hk : k ≤ l.length) : vb b l = vb b (l.take k) + b ^ k * vb b (l.drop k) := by
  have h := vb_append b (l.take k) (l.drop k)
  rw [List.take_append_drop, List.length_take, Nat.min_eq_left hk] at h
  exact h

theorem take_succ_getD {l : List Int} {k : Nat} (hk : k < l.length) : l.take (k + 1) = l.take k ++ [l.getD k 0] := by
  rw [List.take_succ_eq_append_getElem hk]
  congr 2
  rw [List.getD_eq_getElem?_getD, List.getElem?_eq_getElem hk]; rfl

theorem vb_take_succ (b : Int) {l : List Int} {k : Nat} (hk : k < l.length) : vb b (l.take (k + 1)) = vb b (l.take k) + b ^ k * l.getD k 0 := by
  rw [take_succ_getD hk, vb_snoc, List.length_take, Nat.min_eq_left (by omega)]

theorem drop_getD_cons {l : List Int} {k : Nat} (hk : k < l.length) : l.drop k = l.getD k 0 :: l.drop (k + 1) := by
  rw [List.drop_eq_getElem_cons hk]
  congr 1
  rw [List.getD_eq_getElem?_getD, List.getElem?_eq_getElem hk]; rfl

theorem vb_drop (b : Int) {l : List Int} {k : Nat} (hk : k < l.length) : vb b (l.drop k) = l.getD k 0 + b * vb b (l.drop (k + 1)) := by
  rw [drop_getD_cons hk, vb_cons]

/-- One digit set: the number turns by the difference at its place. -/
theorem vb_set (b : Int) (l : List Int) (k : Nat) (x : Int) (hk : k < l.length) : vb b (l.set k x) = vb b l + b ^ k * (x - l.getD k 0) := by
  induction l generalizing k with
  | nil => simp at hk
  | cons y l ih =>
    cases k with
    | zero => simp [vb_cons]; omega
    | succ k =>
      rw [List.set_cons_succ, vb_cons, ih k (by simpa using hk), vb_cons, List.getD_cons_succ, Int.pow_succ, Int.mul_add, Int.mul_comm (b ^ k) b, Int.mul_assoc]
      omega

theorem getD_set_same {l : List Int} {k : Nat} (hk : k < l.length) (x : Int) : (l.set k x).getD k 0 = x := by
  simp [List.getD_eq_getElem?_getD, hk]
theorem getD_set_other (l : List Int) {k j : Nat} (h : k ≠ j) (x : Int) : (l.set k x).getD j 0 = l.getD j 0 := by
  simp [List.getD_eq_getElem?_getD, h]

theorem getD_take {l : List Int} {k j : Nat} (h : j < k) : (l.take k).getD j 0 = l.getD j 0 := by
  simp [List.getD_eq_getElem?_getD, h]
theorem getD_drop (l : List Int) (k j : Nat) : (l.drop k).getD j 0 = l.getD (k + j) 0 := by
  simp [List.getD_eq_getElem?_getD]

/-! ### Zeros at the end -/

theorem tlen_le (l : List Int) : tlen l ≤ l.length := by
  induction l with
  | nil => exact Nat.le_refl _
  | cons x l ih =>
    simp only [tlen, List.length_cons]
    split
    · split <;> omega
    · omega

theorem tlen_zero_above {l : List Int} : ∀ j, tlen l ≤ j → l.getD j 0 = 0 := by
  induction l with
  | nil => intro j _; simp
  | cons x l ih =>
    intro j hj
    simp only [tlen] at hj
    cases j with
    | zero =>
      by_cases h0 : tlen l = 0
      · by_cases hx : x = 0
        · simp [hx]
        · simp [h0, hx] at hj
      · simp [h0] at hj
    | succ j =>
      rw [List.getD_cons_succ]
      apply ih
      by_cases h0 : tlen l = 0
      · omega
      · simp only [h0, if_false] at hj; omega

theorem tlen_top {l : List Int} (h : tlen l ≠ 0) : l.getD (tlen l - 1) 0 ≠ 0 := by
  induction l with
  | nil => exact absurd rfl h
  | cons x l ih =>
    simp only [tlen] at h ⊢
    by_cases h0 : tlen l = 0
    · by_cases hx : x = 0
      · simp [h0, hx] at h
      · simp [h0, hx]
    · simp only [h0, if_false] at h ⊢
      have := ih h0
      rw [show tlen l + 1 - 1 = (tlen l - 1) + 1 by omega, List.getD_cons_succ]
      exact this

/-- What the count is. -/
theorem tlen_eq {l : List Int} {k : Nat} (_hk : k ≤ l.length) (h0 : ∀ j, k ≤ j → j < l.length → l.getD j 0 = 0) (h1 : k = 0 ∨ l.getD (k - 1) 0 ≠ 0) : tlen l = k := by
  have hle := tlen_le l
  rcases Nat.lt_trichotomy (tlen l) k with h | h | h
  · rcases h1 with h1 | h1
    · omega
    · exact absurd (tlen_zero_above (l := l) (k - 1) (by omega)) h1
  · exact h
  · exact absurd (h0 (tlen l - 1) (by omega) (by omega)) (tlen_top (by omega))

theorem tr_length (l : List Int) : (tr l).length = tlen l := by
  rw [tr, List.length_take, Nat.min_eq_left (tlen_le l)]

theorem vb_zeros (b : Int) {l : List Int} (h : ∀ x ∈ l, x = 0) : vb b l = 0 := by
  induction l with
  | nil => rfl
  | cons x l ih =>
    rw [vb_cons, ih (fun y hy => h y (List.mem_cons_of_mem _ hy)), h x (List.mem_cons_self ..)]; simp

theorem mem_getD {l : List Int} {x : Int} (h : x ∈ l) : ∃ j, j < l.length ∧ l.getD j 0 = x := by
  obtain ⟨j, hj, rfl⟩ := List.getElem_of_mem h
  exact ⟨j, hj, by rw [List.getD_eq_getElem?_getD, List.getElem?_eq_getElem hj]; rfl⟩

theorem vb_tr (b : Int) (l : List Int) : vb b (tr l) = vb b l := by
  rw [vb_split b l (tlen l) (tlen_le l), vb_zeros b (l := l.drop (tlen l)), Int.mul_zero, Int.add_zero, tr]
  intro x hx
  obtain ⟨j, _, rfl⟩ := mem_getD hx
  rw [getD_drop]
  exact tlen_zero_above _ (by omega)

theorem tlen_tr (l : List Int) : tlen (tr l) = tlen l := by
  refine tlen_eq ?_ ?_ ?_
  · rw [tr_length]; exact Nat.le_refl _
  · intro j h1 h2; rw [tr_length] at h2; omega
  · by_cases h : tlen l = 0
    · exact Or.inl h
    · exact Or.inr (by rw [tr, getD_take (by omega)]; exact tlen_top h)

theorem can_tr {b : Int} {l : List Int} (h : Lim b l) : Can b (tr l) := ⟨h.take _, by rw [tlen_tr, tr_length]⟩
theorem Can.lim {b : Int} {l : List Int} (h : Can b l) : Lim b l := h.1
theorem Can.nil (b : Int) : Can b [] := ⟨Lim.nil b, rfl⟩
theorem Can.tr {b : Int} {l : List Int} (h : Can b l) : tr l = l := by rw [Proofs.YtfanhllcoaondaaDoor.tr, h.2, List.take_length]
theorem Can.top {b : Int} {l : List Int} (h : Can b l) (hl : l ≠ []) : l.getD (l.length - 1) 0 ≠ 0 := by
  have : l.length ≠ 0 := by simpa using hl
  rw [← h.2] at this ⊢
  exact tlen_top this

/-- A number with n digits of which the top one is not 0 is at least b^(n-1). -/
theorem Can.ge {b : Int} (hb : 0 < b) {l : List Int} (h : Can b l) (hl : l ≠ []) : b ^ (l.length - 1) ≤ vb b l := by
  have hn : 0 < l.length := List.length_pos_iff.2 hl
  have ht := h.top hl
  have hd := h.lim.getD hb (l.length - 1)
  have e := vb_take_succ b (l := l) (k := l.length - 1) (by omega)
  rw [show l.length - 1 + 1 = l.length by omega, List.take_length] at e
  have h0 := vb_nonneg hb (h.lim.take (l.length - 1))
  have hp := pow_pos' hb (l.length - 1)
  have : b ^ (l.length - 1) * 1 ≤ b ^ (l.length - 1) * l.getD (l.length - 1) 0 := Int.mul_le_mul_of_nonneg_left (by omega) (Int.le_of_lt hp)
  omega

theorem pow_le_pow {b : Int} (hb : 0 < b) {m n : Nat} (h : m ≤ n) : b ^ m ≤ b ^ n := by
  obtain ⟨k, rfl⟩ := Nat.le.dest h
  rw [Int.pow_add]
  have h1 : (1 : Int) ≤ b ^ k := pow_pos' hb k
  have h2 := pow_pos' hb m
  have := Int.mul_le_mul_of_nonneg_left h1 (Int.le_of_lt h2)
  omega

/-- The longer of two numbers without zeros at their ends is the greater one. -/
theorem can_lt_of_length {b : Int} (hb : 0 < b) {l m : List Int} (hl : Lim b l) (hm : Can b m) (h : l.length < m.length) : vb b l < vb b m := by
  have h1 := vb_lt hb hl
  have h2 := hm.ge hb (by intro e; subst e; simp at h)
  have h3 := pow_le_pow hb (show l.length ≤ m.length - 1 by omega)
  omega

/-- Two lists of digits of one length that are one number are one list. -/
theorem eq_of_vb {b : Int} (hb : 0 < b) : ∀ {l m : List Int}, Lim b l → Lim b m → l.length = m.length → vb b l = vb b m → l = m := by
  intro l
  induction l with
  | nil => intro m _ _ h _; exact (List.eq_nil_of_length_eq_zero h.symm).symm
  | cons x l ih =>
    intro m hl hm h e
    cases m with
    | nil => simp at h
    | cons y m =>
      rw [vb_cons, vb_cons] at e
      have hx := hl.head
      have hy := hm.head
      have h1 : x % b = x := Int.emod_eq_of_lt hx.1 hx.2
      have h2 : y % b = y := Int.emod_eq_of_lt hy.1 hy.2
      have h3 : (x + b * vb b l) % b = x % b := Int.add_mul_emod_self_left ..
      have h4 : (y + b * vb b m) % b = y % b := Int.add_mul_emod_self_left ..
      have hxy : x = y := by rw [e, h4, h1, h2] at h3; exact h3.symm
      subst hxy
      have : b * vb b l = b * vb b m := by omega
      have hv := Int.eq_of_mul_eq_mul_left (by omega : b ≠ 0) this
      rw [ih hl.tail hm.tail (by simpa using h) hv]

theorem can_eq {b : Int} (hb : 0 < b) {l m : List Int} (hl : Can b l) (hm : Can b m) (e : vb b l = vb b m) : l = m := by
  refine eq_of_vb hb hl.lim hm.lim ?_ e
  rcases Nat.lt_trichotomy l.length m.length with h | h | h
  · have := can_lt_of_length hb hl.lim hm h; omega
  · exact h
  · have := can_lt_of_length hb hm.lim hl h; omega

theorem Can.eq_nil {b : Int} (hb : 0 < b) {l : List Int} (hl : Can b l) (e : vb b l = 0) : l = [] := can_eq hb hl (Can.nil b) e

/-- The digits above k are alike, the digit at k is less: the number is less. -/
theorem lt_of_digit {b : Int} (hb : 0 < b) {l m : List Int} (hl : Lim b l) (hm : Lim b m) (h : l.length = m.length) {k : Nat} (hk : k < l.length)
    (heq : ∀ j, k < j → j < l.length → l.getD j 0 = m.getD j 0) (hlt : l.getD k 0 < m.getD k 0) : vb b l < vb b m := by
  have e1 := vb_split b l k (by omega)
  have e2 := vb_split b m k (by omega)
  have d1 := vb_drop b (l := l) hk
  have d2 := vb_drop b (l := m) (k := k) (by omega)
  have hdr : l.drop (k + 1) = m.drop (k + 1) := by
    apply List.ext_getElem?
    intro j
    by_cases hj : k + 1 + j < l.length
    · have := heq (k + 1 + j) (by omega) hj
      rw [List.getElem?_drop, List.getElem?_drop, List.getElem?_eq_getElem hj, List.getElem?_eq_getElem (by omega)]
      simpa [List.getD_eq_getElem?_getD, List.getElem?_eq_getElem hj, List.getElem?_eq_getElem (show k + 1 + j < m.length by omega)] using this
    · rw [List.getElem?_eq_none (by simp; omega), List.getElem?_eq_none (by simp; omega)]
  rw [hdr] at d1
  have h1 := vb_lt hb (hl.take k)
  rw [List.length_take, Nat.min_eq_left (by omega)] at h1
  have h0 := vb_nonneg hb (hm.take k)
  have hp := pow_pos' hb k
  rw [d1] at e1
  rw [d2] at e2
  have hmul : b ^ k * (l.getD k 0 + b * vb b (m.drop (k + 1)) + 1) ≤ b ^ k * (m.getD k 0 + b * vb b (m.drop (k + 1))) := Int.mul_le_mul_of_nonneg_left (by omega) (Int.le_of_lt hp)
  rw [Int.mul_add (b ^ k) _ 1, Int.mul_one] at hmul
  omega

/-! ### Words of 64 bits -/

/-- The low word and what is above it. -/
def lo64 (x : Int) : Int := x % 18446744073709551616
def hi64 (x : Int) : Int := x / 18446744073709551616
/-- The borrow of a difference. -/
def bo64 (x : Int) : Int := -(x / 18446744073709551616)
def B64 : Int := 18446744073709551616
def B32 : Int := 4294967296

theorem B64_pos : 0 < B64 := by decide
theorem B32_pos : 0 < B32 := by decide
theorem lohi (x : Int) : lo64 x + B64 * hi64 x = x := by unfold lo64 hi64 B64; omega
theorem lobo (x : Int) : lo64 x - B64 * bo64 x = x := by unfold lo64 bo64 B64; omega
theorem lo64_lim (x : Int) : 0 ≤ lo64 x ∧ lo64 x < B64 := by unfold lo64 B64; omega
theorem hi64_carry {x y c : Int} (hx : 0 ≤ x ∧ x < B64) (hy : 0 ≤ y ∧ y < B64) (hc : 0 ≤ c ∧ c ≤ 1) : 0 ≤ hi64 (x + y + c) ∧ hi64 (x + y + c) ≤ 1 := by unfold hi64; unfold B64 at hx hy; omega
theorem bo64_carry {x y c : Int} (hx : 0 ≤ x ∧ x < B64) (hy : 0 ≤ y ∧ y < B64) (hc : 0 ≤ c ∧ c ≤ 1) : 0 ≤ bo64 (x - y - c) ∧ bo64 (x - y - c) ≤ 1 := by unfold bo64; unfold B64 at hx hy; omega

/-- One word added, the carry handed on. -/
theorem add_step {l : List Int} {k : Nat} {x c T : Int} (hk : k < l.length) (h : vb B64 l + B64 ^ k * c = T) :
    vb B64 (l.set k (lo64 (l.getD k 0 + x + c))) + B64 ^ (k + 1) * hi64 (l.getD k 0 + x + c) = T + B64 ^ k * x := by
  rw [vb_set _ _ _ _ hk, Int.pow_succ, Int.mul_assoc, Int.add_assoc, ← Int.mul_add]
  have e : lo64 (l.getD k 0 + x + c) - l.getD k 0 + B64 * hi64 (l.getD k 0 + x + c) = c + x := by
    have := lohi (l.getD k 0 + x + c)
    omega
  rw [e, Int.mul_add]
  omega
/-- One word taken away, the borrow handed on. -/
theorem sub_step {l : List Int} {k : Nat} {x c T : Int} (hk : k < l.length) (h : vb B64 l - B64 ^ k * c = T) :
    vb B64 (l.set k (lo64 (l.getD k 0 - x - c))) - B64 ^ (k + 1) * bo64 (l.getD k 0 - x - c) = T - B64 ^ k * x := by
  rw [vb_set _ _ _ _ hk, Int.pow_succ, Int.mul_assoc]
  have e : lo64 (l.getD k 0 - x - c) - l.getD k 0 - B64 * bo64 (l.getD k 0 - x - c) = - c - x := by
    have := lobo (l.getD k 0 - x - c)
    omega
  have e2 : B64 ^ k * (lo64 (l.getD k 0 - x - c) - l.getD k 0) - B64 ^ k * (B64 * bo64 (l.getD k 0 - x - c)) = B64 ^ k * (- c - x) := by rw [← Int.mul_sub, e]
  have e3 : B64 ^ k * (- c - x) = - (B64 ^ k * c) - B64 ^ k * x := by rw [Int.mul_sub, Int.mul_neg]
  omega
/-- A carry that is still there has a place. -/
theorem carry_room {l : List Int} {k : Nat} {c T : Int} (hl : Lim B64 l) (hc : 0 < c) (h : vb B64 l + B64 ^ k * c = T) (hT : T < B64 ^ l.length) : k < l.length := by
  rcases Nat.lt_or_ge k l.length with h1 | h1
  · exact h1
  · have h2 := pow_le_pow B64_pos h1
    have h3 := vb_nonneg B64_pos hl
    have h4 : B64 ^ k * 1 ≤ B64 ^ k * c := Int.mul_le_mul_of_nonneg_left (by omega) (Int.le_of_lt (pow_pos' B64_pos k))
    omega
theorem borrow_room {l : List Int} {k : Nat} {c T : Int} (hl : Lim B64 l) (hc : 0 < c) (h : vb B64 l - B64 ^ k * c = T) (hT : 0 ≤ T) : k < l.length := by
  rcases Nat.lt_or_ge k l.length with h1 | h1
  · exact h1
  · have h2 := pow_le_pow B64_pos h1
    have h3 := vb_lt B64_pos hl
    have h4 : B64 ^ k * 1 ≤ B64 ^ k * c := Int.mul_le_mul_of_nonneg_left (by omega) (Int.le_of_lt (pow_pos' B64_pos k))
    omega

/-- Which of two numbers is the greater one. -/
def cmpI (a b : Int) : Int := if a < b then -1 else if a = b then 0 else 1
theorem cmpI_lt {a b : Int} (h : a < b) : cmpI a b = -1 := if_pos h
theorem cmpI_gt {a b : Int} (h : b < a) : cmpI a b = 1 := by rw [cmpI, if_neg (by omega), if_neg (by omega)]
theorem cmpI_eq {a b : Int} (h : a = b) : cmpI a b = 0 := by rw [cmpI, if_neg (by omega), if_pos h]

/-! ### Digits of 32 bits and words of 64 -/

/-- Each word as two digits. -/
def dig : List Int → List Int
  | [] => []
  | x :: l => x % 4294967296 :: x / 4294967296 :: dig l
theorem dig_length (l : List Int) : (dig l).length = 2 * l.length := by
  induction l with
  | nil => rfl
  | cons x l ih => simp only [dig, List.length_cons, ih]; omega
theorem dig_append (l m : List Int) : dig (l ++ m) = dig l ++ dig m := by
  induction l with
  | nil => rfl
  | cons x l ih => simp [dig, ih]
theorem dig_take {l : List Int} {k : Nat} (hk : k < l.length) : dig (l.take (k + 1)) = dig (l.take k) ++ [l.getD k 0 % 4294967296, l.getD k 0 / 4294967296] := by
  rw [take_succ_getD hk, dig_append]; rfl
theorem dig_lim {l : List Int} (h : Lim B64 l) : Lim B32 (dig l) := by
  induction l with
  | nil => exact Lim.nil _
  | cons x l ih =>
    have hx := h.head
    unfold B64 at hx
    exact Lim.cons (by omega) (by unfold B32; omega) (Lim.cons (by omega) (by unfold B32; omega) (ih h.tail))
theorem vb_dig (l : List Int) : vb B32 (dig l) = vb B64 l := by
  induction l with
  | nil => rfl
  | cons x l ih =>
    simp only [dig, vb_cons, ih]
    unfold B32 B64
    omega

/-- Each two digits as a word. -/
def prs : List Int → List Int
  | [] => []
  | [x] => [x]
  | x :: y :: l => (x + y * 4294967296) :: prs l
theorem prs_spec : ∀ (l : List Int), (prs l).length = (l.length + 1) / 2 ∧ ∀ j, (prs l).getD j 0 = l.getD (2 * j) 0 + l.getD (2 * j + 1) 0 * 4294967296
  | [] => ⟨rfl, fun j => by simp [prs]⟩
  | [x] => ⟨by simp [prs], fun j => by cases j <;> simp [prs]⟩
  | x :: y :: l => by
    obtain ⟨h1, h2⟩ := prs_spec l
    refine ⟨by simp only [prs, List.length_cons, h1]; omega, fun j => ?_⟩
    cases j with
    | zero => simp [prs]
    | succ j =>
      rw [show 2 * (j + 1) = (2 * j + 1) + 1 by omega]
      simp only [prs, List.getD_cons_succ]
      exact h2 j
theorem prs_lim : ∀ {l : List Int}, Lim B32 l → Lim B64 (prs l)
  | [], _ => Lim.nil _
  | [x], h => Lim.cons h.head.1 (by have := h.head; unfold B32 at this; unfold B64; omega) (Lim.nil _)
  | x :: y :: l, h => by
    have h1 := h.head
    have h2 := h.tail.head
    unfold B32 at h1 h2
    exact Lim.cons (by omega) (by unfold B64; omega) (prs_lim h.tail.tail)
theorem vb_prs : ∀ (l : List Int), vb B64 (prs l) = vb B32 l
  | [] => rfl
  | [x] => by simp [prs, vb_cons]
  | x :: y :: l => by
    simp only [prs, vb_cons, vb_prs l]
    unfold B32 B64
    omega
theorem prs_can {l : List Int} (h : Can B32 l) : Can B64 (prs l) := by
  obtain ⟨h1, h2⟩ := prs_spec l
  refine ⟨prs_lim h.lim, ?_⟩
  by_cases hl : l = []
  · subst hl; rfl
  · have hn : 0 < l.length := List.length_pos_iff.2 hl
    have ht := h.top hl
    refine tlen_eq (Nat.le_refl _) (fun j a b => by omega) (Or.inr ?_)
    rw [h1, h2]
    have d0 := h.lim.getD B32_pos (2 * ((l.length + 1) / 2 - 1))
    have d1 := h.lim.getD B32_pos (2 * ((l.length + 1) / 2 - 1) + 1)
    rcases (show l.length - 1 = 2 * ((l.length + 1) / 2 - 1) ∨ l.length - 1 = 2 * ((l.length + 1) / 2 - 1) + 1 by omega) with e | e
    · rw [e] at ht; omega
    · rw [e] at ht; omega

section
variable {u u1 v1 v0 Y q r Q : Int}

theorem kn_le (hY : Y = v1 * 4294967296 + v0) (hv1 : 2147483648 ≤ v1) (h1 : 0 ≤ v0) (hu : 0 ≤ u) (huY : u < Y) (hu1 : 0 ≤ u1) (hu2 : u1 < 4294967296) :
    0 ≤ (u * 4294967296 + u1) / Y ∧ (u * 4294967296 + u1) / Y < 4294967296 ∧ (u * 4294967296 + u1) / Y ≤ u / v1 := by
  have hYp : 0 < Y := by omega
  refine ⟨Int.ediv_nonneg (by omega) (by omega), Int.ediv_lt_of_lt_mul hYp (by omega), ?_⟩
  have hvp : 0 < v1 := by omega
  have e1 := Int.mul_ediv_add_emod u v1
  have e2 := Int.emod_lt_of_pos u hvp
  have e3 := Int.emod_nonneg u (by omega : v1 ≠ 0)
  have hq : 0 ≤ u / v1 := Int.ediv_nonneg hu (by omega)
  have h3 : (u * 4294967296 + u1) / Y < u / v1 + 1 := by
    refine Int.ediv_lt_of_lt_mul hYp ?_
    have h4 : 0 ≤ (u / v1 + 1) * v0 := Int.mul_nonneg (by omega) h1
    have h5 : (u / v1 + 1) * Y = (v1 * (u / v1) + v1) * 4294967296 + (u / v1 + 1) * v0 := by
      rw [hY, Int.mul_add, ← Int.mul_assoc, Int.add_mul (u / v1) 1 v1, Int.one_mul, Int.mul_comm (u / v1) v1]
    omega
  omega

theorem kn_top (hY : Y = v1 * 4294967296 + v0) (hv1 : 2147483648 ≤ v1) (h1 : v0 < 4294967296) (hu : 0 ≤ u) (huY : u < Y) : 0 ≤ u / v1 ∧ u / v1 ≤ 4294967297 := by
  refine ⟨Int.ediv_nonneg hu (by omega), ?_⟩
  have : u / v1 < 4294967298 := Int.ediv_lt_of_lt_mul (by omega) (by omega)
  omega

theorem kn_rest (hv1 : 0 < v1) (hu : 0 ≤ u) : 0 ≤ u / v1 * v1 ∧ u / v1 * v1 ≤ u ∧ 0 ≤ u - u / v1 * v1 ∧ u - u / v1 * v1 < v1 := by
  have e1 := Int.mul_ediv_add_emod u v1
  have e2 := Int.emod_lt_of_pos u hv1
  have e3 := Int.emod_nonneg u (by omega : v1 ≠ 0)
  rw [Int.mul_comm (u / v1) v1]
  have : 0 ≤ v1 * (u / v1) := Int.mul_nonneg (by omega) (Int.ediv_nonneg hu (by omega))
  omega

theorem kn_mul (hY : Y = v1 * 4294967296 + v0) (hI : q * v1 + r = u) : q * Y = (u - r) * 4294967296 + q * v0 := by
  rw [hY, Int.mul_add, ← Int.mul_assoc, ← hI]
  omega

theorem kn_gt (hY : Y = v1 * 4294967296 + v0) (hYp : 0 < Y) (huY : u < Y) (hu2 : u1 < 4294967296) (hQ : (u * 4294967296 + u1) / Y = Q) (hI : q * v1 + r = u)
    (h : 4294967296 ≤ q ∨ 4294967296 * r + u1 < q * v0) : Q + 1 ≤ q := by
  rcases h with h | h
  · have : Q < 4294967296 := by rw [← hQ]; exact Int.ediv_lt_of_lt_mul hYp (by omega)
    omega
  · have hm := kn_mul hY hI
    have : Q < q := by rw [← hQ]; exact Int.ediv_lt_of_lt_mul hYp (by omega)
    omega

theorem kn_done (hY : Y = v1 * 4294967296 + v0) (hYp : 0 < Y) (hQ : (u * 4294967296 + u1) / Y = Q) (hI : q * v1 + r = u) (hQq : Q ≤ q)
    (h : q * v0 ≤ 4294967296 * r + u1) : q = Q := by
  have hm := kn_mul hY hI
  have : q ≤ Q := by rw [← hQ]; exact Int.le_ediv_of_mul_le hYp (by omega)
  omega

theorem kn_break (hY : Y = v1 * 4294967296 + v0) (hYp : 0 < Y) (h0 : 0 ≤ v0) (h1 : v0 < 4294967296) (hu1 : 0 ≤ u1) (hQ : (u * 4294967296 + u1) / Y = Q) (hI : q * v1 + r = u) (hQq : Q + 1 ≤ q) (hq : q ≤ 4294967297)
    (h : 4294967296 ≤ r + v1) : q = Q + 1 := by
  have hI' : (q - 1) * v1 + (r + v1) = u := by rw [Int.sub_mul, Int.one_mul]; omega
  have hm := kn_mul hY hI'
  have hle : (q - 1) * v0 ≤ 4294967296 * v0 := Int.mul_le_mul_of_nonneg_right (by omega) h0
  have : q - 1 ≤ Q := by rw [← hQ]; exact Int.le_ediv_of_mul_le hYp (by omega)
  omega

theorem kn_step (hI : q * v1 + r = u) : (q - 1) * v1 + (r + v1) = u := by rw [Int.sub_mul, Int.one_mul]; omega

theorem kn_prod (hq0 : 0 ≤ q) (hq : q < 4294967296) (h0 : 0 ≤ v0) (h1 : v0 < 4294967296) : 0 ≤ q * v0 ∧ q * v0 ≤ 18446744073709551615 := by
  refine ⟨Int.mul_nonneg hq0 h0, ?_⟩
  have := Int.mul_le_mul (by omega : q ≤ 4294967295) (by omega : v0 ≤ 4294967295) h0 (by decide)
  omega

/-- What is left behind a digit. -/
theorem kn_left (hYp : 0 < Y) (hQ : (u * 4294967296 + u1) / Y = Q) : u * 4294967296 + u1 - Q * Y = (u * 4294967296 + u1) % Y ∧ 0 ≤ u * 4294967296 + u1 - Q * Y ∧ u * 4294967296 + u1 - Q * Y < Y := by
  have e1 := Int.mul_ediv_add_emod (u * 4294967296 + u1) Y
  have e2 := Int.emod_lt_of_pos (u * 4294967296 + u1) hYp
  have e3 := Int.emod_nonneg (u * 4294967296 + u1) (by omega : Y ≠ 0)
  rw [hQ, Int.mul_comm Y Q] at e1
  omega
end

/-- The last n decimal digits of x, as bytes, the highest first. -/
def dg : Nat → Int → List Int
  | 0, _ => []
  | n + 1, x => dg n (x / 10) ++ [48 + x % 10]

theorem dg_length (n : Nat) (x : Int) : (dg n x).length = n := by
  induction n generalizing x with
  | zero => rfl
  | succ n ih => simp [dg, ih]

theorem ediv_pow10 (x : Int) (j : Nat) : x / 10 / 10 ^ j = x / 10 ^ (j + 1) := by
  rw [Int.pow_succ, Int.mul_comm, Int.ediv_ediv_of_nonneg (by decide)]
theorem ediv_pow10' (x : Int) (j : Nat) : x / 10 ^ j / 10 = x / 10 ^ (j + 1) := by
  rw [Int.pow_succ, Int.ediv_ediv_of_nonneg (Int.le_of_lt (Int.pow_pos (by decide)))]

theorem dg_cons (j : Nat) (x : Int) : dg (j + 1) x = (48 + x / 10 ^ j % 10) :: dg j x := by
  induction j generalizing x with
  | zero => simp [dg]
  | succ j ih =>
    rw [dg, ih (x / 10), ediv_pow10, List.cons_append]
    rfl

theorem dg_add (a b : Nat) (x : Int) : dg (a + b) x = dg a (x / 10 ^ b) ++ dg b x := by
  induction b generalizing x with
  | zero => simp [dg]
  | succ b ih =>
    rw [← Nat.add_assoc, dg, ih (x / 10), ediv_pow10, List.append_assoc]
    rfl

theorem dg_mod (k m : Nat) (x : Int) (h : k ≤ m) : dg k (x % 10 ^ m) = dg k x := by
  induction k generalizing x m with
  | zero => rfl
  | succ k ih =>
    obtain ⟨m, rfl⟩ : ∃ m', m = m' + 1 := ⟨m - 1, by omega⟩
    rw [dg, dg]
    have hp : (0 : Int) < 10 ^ m := Int.pow_pos (by decide)
    have e1 : x % 10 ^ (m + 1) % 10 = x % 10 := Int.emod_emod_of_dvd x (by rw [Int.pow_succ]; exact Int.dvd_mul_left ..)
    have e2 : x % 10 ^ (m + 1) / 10 = x / 10 % 10 ^ m := by
      have a := Int.mul_ediv_add_emod x (10 ^ (m + 1))
      have b : x / 10 = 10 ^ m * (x / 10 ^ (m + 1)) + x % 10 ^ (m + 1) / 10 := by
        have : x = x % 10 ^ (m + 1) + 10 * (10 ^ m * (x / 10 ^ (m + 1))) := by
          rw [Int.pow_succ, Int.mul_comm (10 ^ m) 10, Int.mul_assoc] at a
          rw [Int.pow_succ, Int.mul_comm (10 ^ m) 10]
          omega
        have c := congrArg (fun z : Int => z / 10) this
        have c : x / 10 = (x % 10 ^ (m + 1) + 10 * (10 ^ m * (x / 10 ^ (m + 1)))) / 10 := c
        rw [Int.add_mul_ediv_left _ _ (by decide)] at c
        omega
      have h0 : 0 ≤ x % 10 ^ (m + 1) / 10 := Int.ediv_nonneg (Int.emod_nonneg _ (Int.ne_of_gt (Int.pow_pos (by decide)))) (by decide)
      have h1 : x % 10 ^ (m + 1) / 10 < 10 ^ m := by
        refine Int.ediv_lt_of_lt_mul (by decide) ?_
        have := Int.emod_lt_of_pos x (Int.pow_pos (by decide) : (0 : Int) < 10 ^ (m + 1))
        rw [Int.pow_succ] at this
        rw [Int.pow_succ]
        exact this
      rw [b, Int.add_comm, Int.add_mul_emod_self_left, Int.emod_eq_of_lt h0 h1]
    rw [e1, e2, ih m (x / 10) (by omega)]

theorem dg_lim (n : Nat) (x : Int) : ∀ d ∈ dg n x, 48 ≤ d ∧ d ≤ 57 := by
  induction n generalizing x with
  | zero => intro d h; cases h
  | succ n ih =>
    intro d h
    rcases List.mem_append.1 h with h | h
    · exact ih _ d h
    · rw [List.mem_singleton] at h; omega

/-- The guess is the quotient, or one more: W times the top words, and what lies below them. -/
theorem red_guess {a b G U V W x y : Int} (hW : 1 ≤ W) (hx0 : 0 ≤ x) (hx1 : x < W) (hy0 : 0 ≤ y) (hy1 : y < W) (ha : a = x + W * U) (hb : b = y + W * V) (hV : 18446744073709551616 ≤ V)
    (hlt : a < 18446744073709551616 * b) (g0 : 0 ≤ G) (g1 : G ≤ 18446744073709551615) (hle : G * V ≤ U) (hmore : G = 18446744073709551615 ∨ U < (G + 1) * V) :
    a < (G + 1) * b ∧ G * b < a + b := by
  constructor
  · rcases hmore with h | h
    · rw [h]; exact hlt
    · have h1 : W * (U + 1) ≤ W * ((G + 1) * V) := Int.mul_le_mul_of_nonneg_left (by omega) (by omega)
      have h2 : (G + 1) * b = (G + 1) * y + W * ((G + 1) * V) := by rw [hb, Int.mul_add, Int.mul_left_comm]
      have h3 : 0 ≤ (G + 1) * y := Int.mul_nonneg (by omega) hy0
      rw [Int.mul_add, Int.mul_one] at h1
      omega
  · have h1 : W * (G * V) ≤ W * U := Int.mul_le_mul_of_nonneg_left hle (by omega)
    have h2 : G * b = G * y + W * (G * V) := by rw [hb, Int.mul_add, Int.mul_left_comm]
    have h3 : G * y ≤ 18446744073709551615 * y := Int.mul_le_mul_of_nonneg_right g1 hy0
    have h4 : W * 18446744073709551616 ≤ W * V := Int.mul_le_mul_of_nonneg_left hV (by omega)
    omega

/-- The two top words of a number of n of them, and the rest. -/
theorem top_two {l : List Int} {n : Nat} (hl : l.length = n + 2) : vb B64 l = vb B64 (l.take n) + B64 ^ n * (l.getD (n + 1) 0 * 18446744073709551616 + l.getD n 0) := by
  have h1 := vb_split B64 l n (by omega)
  have h2 := vb_drop B64 (l := l) (k := n) (by omega)
  have h3 := vb_drop B64 (l := l) (k := n + 1) (by omega)
  have h4 : l.drop (n + 1 + 1) = [] := List.drop_of_length_le (by omega)
  rw [h4, vb_nil, Int.mul_zero, Int.add_zero] at h3
  rw [h3] at h2
  rw [h1, h2]
  congr 2
  unfold B64
  omega
/-- The three top words. -/
theorem top_three {l : List Int} {n : Nat} (hl : l.length = n + 3) : vb B64 l = vb B64 (l.take n) + B64 ^ n * ((l.getD (n + 2) 0 * 18446744073709551616 + l.getD (n + 1) 0) * 18446744073709551616 + l.getD n 0) := by
  have h1 := vb_split B64 l n (by omega)
  have h2 := vb_drop B64 (l := l) (k := n) (by omega)
  have h3 := vb_drop B64 (l := l) (k := n + 1) (by omega)
  have h5 := vb_drop B64 (l := l) (k := n + 1 + 1) (by omega)
  have h4 : l.drop (n + 1 + 1 + 1) = [] := List.drop_of_length_le (by omega)
  have e : l.getD (n + 1 + 1) 0 = l.getD (n + 2) 0 := rfl
  rw [e] at h5
  rw [h4, vb_nil, Int.mul_zero, Int.add_zero] at h5
  rw [h5] at h3
  rw [h3] at h2
  rw [h1, h2]
  congr 2
  unfold B64
  omega

/-- The dividend's top word is not above the divisor's. -/
theorem red_top {a b : Int} {W x y a2 a1 a0 b1 b0 : Int} (hW : 1 ≤ W) (hx0 : 0 ≤ x) (hy1 : y < W) (ha : a = x + W * ((a2 * 18446744073709551616 + a1) * 18446744073709551616 + a0)) (hb : b = y + W * (b1 * 18446744073709551616 + b0))
    (h1 : 0 ≤ a1) (h0 : 0 ≤ a0) (hb0 : b0 ≤ 18446744073709551615) (hlt : a < 18446744073709551616 * b) : a2 ≤ b1 := by
  rcases Int.lt_or_le b1 a2 with h | h
  · exfalso
    have h2 : W * ((b1 + 1) * 18446744073709551616 * 18446744073709551616) ≤ W * ((a2 * 18446744073709551616 + a1) * 18446744073709551616 + a0) := Int.mul_le_mul_of_nonneg_left (by omega) (by omega)
    have h3 : W * (b1 * 18446744073709551616 + b0) ≤ W * (b1 * 18446744073709551616 + 18446744073709551615) := Int.mul_le_mul_of_nonneg_left (by omega) (by omega)
    have e1 : W * ((b1 + 1) * 18446744073709551616 * 18446744073709551616) = (W * b1) * 340282366920938463463374607431768211456 + W * 340282366920938463463374607431768211456 := by
      rw [show (b1 + 1) * 18446744073709551616 * 18446744073709551616 = b1 * 340282366920938463463374607431768211456 + 340282366920938463463374607431768211456 by omega, Int.mul_add, ← Int.mul_assoc]
    have e2 : W * (b1 * 18446744073709551616 + 18446744073709551615) = (W * b1) * 18446744073709551616 + W * 18446744073709551615 := by
      rw [Int.mul_add, ← Int.mul_assoc]
    rw [e1] at h2
    rw [e2] at h3
    omega
  · exact h

/-- The rest, where the guess was right, and where it was one too great. -/
theorem red_right {a b G : Int} (h : a < (G + 1) * b) (hg : G * b ≤ a) : a / b = G ∧ a % b = a - G * b := by
  have hb : 0 < b := by rw [Int.add_mul, Int.one_mul] at h; omega
  have h1 : a = (a - G * b) + b * G := by rw [Int.mul_comm b G]; omega
  rw [Int.add_mul, Int.one_mul] at h
  constructor
  · rw [h1, Int.add_mul_ediv_left _ _ (by omega), Int.ediv_eq_zero_of_lt (by omega) (by omega)]; omega
  · have h2 := Int.add_mul_emod_self_left (a - G * b) b G
    rw [← h1] at h2
    rw [h2, Int.emod_eq_of_lt (by omega) (by omega)]
theorem red_over {a b G : Int} (h : G * b < a + b) (hg : a < G * b) : a / b = G - 1 ∧ a % b = a - G * b + b := by
  have e1 : (G - 1) * b = G * b - b := by rw [Int.sub_mul, Int.one_mul]
  have h2 := red_right (a := a) (b := b) (G := G - 1) (by rw [Int.sub_add_cancel]; exact hg) (by omega)
  exact ⟨h2.1, by rw [h2.2, e1]; omega⟩

def dokB (c : UInt8) : Bool := decide (48 ≤ (c.toNat : Int)) && decide ((c.toNat : Int) ≤ 57)
def allD (l : List UInt8) : Bool := l.all dokB
def dval (l : List UInt8) : Int := l.foldl (fun a c => 10 * a + ((c.toNat : Int) - 48)) 0

theorem dval_snoc (l : List UInt8) (c : UInt8) : dval (l ++ [c]) = 10 * dval l + ((c.toNat : Int) - 48) := by simp [dval]
theorem allD_app (l m : List UInt8) : allD (l ++ m) = (allD l && allD m) := by simp [allD]
theorem allD_snoc (l : List UInt8) (c : UInt8) : allD (l ++ [c]) = (allD l && dokB c) := by simp [allD]

theorem fold_from (m : List UInt8) : ∀ z : Int, m.foldl (fun a c => 10 * a + ((c.toNat : Int) - 48)) z = z * 10 ^ m.length + dval m := by
  induction m with
  | nil => intro z; simp [dval]
  | cons c m ih =>
    intro z
    have e0 : dval (c :: m) = (10 * 0 + ((c.toNat : Int) - 48)) * 10 ^ m.length + dval m := ih (10 * 0 + ((c.toNat : Int) - 48))
    rw [List.foldl_cons, ih, e0, List.length_cons, Int.pow_succ]
    generalize dval m = d
    have e : (10 * z + ((c.toNat : Int) - 48)) * 10 ^ m.length = z * (10 ^ m.length * 10) + (10 * 0 + ((c.toNat : Int) - 48)) * 10 ^ m.length := by
      rw [Int.add_mul, Int.mul_zero, Int.zero_add, Int.mul_comm (10 ^ m.length) 10, ← Int.mul_assoc z, Int.mul_comm z 10]
    rw [e]
    omega
theorem dval_app (l m : List UInt8) : dval (l ++ m) = dval l * 10 ^ m.length + dval m := by
  rw [dval, List.foldl_append, fold_from]
  rfl

theorem snoc_ind {P : List UInt8 → Prop} (h0 : P []) (h1 : ∀ l c, P l → P (l ++ [c])) (l : List UInt8) : P l := by
  rw [← List.reverse_reverse l]
  induction l.reverse with
  | nil => exact h0
  | cons c m ih => rw [List.reverse_cons]; exact h1 _ _ ih

theorem dval_lim (l : List UInt8) (h : allD l = true) : 0 ≤ dval l ∧ dval l < 10 ^ l.length := by
  induction l using snoc_ind with
  | h0 => exact ⟨Int.le_refl _, by decide⟩
  | h1 l c ih =>
    rw [allD_snoc, Bool.and_eq_true] at h
    obtain ⟨i1, i2⟩ := ih h.1
    have hc := h.2
    simp [dokB] at hc
    rw [dval_snoc, List.length_append, List.length_singleton, Int.pow_succ]
    omega

theorem str_take (s : ByteArray) (k : Nat) (h : k < s.size) : s.data.toList.take (k + 1) = s.data.toList.take k ++ [s[k]] := by
  rw [List.take_succ_eq_append_getElem (by simpa using h)]; rfl
theorem str_len (s : ByteArray) : s.data.toList.length = s.size := by simp

/-- A bad byte anywhere makes the whole no number. -/
theorem allD_bad (s : ByteArray) (k : Nat) (h : k < s.size) (hc : dokB s[k] = false) : allD s.data.toList = false := by
  rw [← List.take_append_drop (k + 1) s.data.toList, allD_app, str_take s k h, allD_snoc, hc]
  simp
theorem dokB_lo (c : UInt8) (h : (c.toNat : Int) < 48) : dokB c = false := by simp [dokB]; omega
theorem dokB_hi (c : UInt8) (h : 57 < (c.toNat : Int)) : dokB c = false := by simp [dokB]; omega
theorem dokB_yes (c : UInt8) (h : 48 ≤ (c.toNat : Int)) (h2 : (c.toNat : Int) ≤ 57) : dokB c = true := by simp [dokB]; omega

theorem room_of {b : Int} (hb : 0 < b) {l : List Int} {m : Nat} (hc : Can b l) (h : vb b l < b ^ m) : l.length ≤ m := by
  by_cases hl : l = []
  · subst hl; simp
  · have h1 := hc.ge hb hl
    rcases Nat.lt_or_ge m l.length with h2 | h2
    · have := pow_le_pow hb (show m ≤ l.length - 1 by omega)
      omega
    · exact h2
theorem ten_pow_b {b : Int} (hb : 10 ≤ b) (k : Nat) : (10 : Int) ^ k ≤ b ^ k := by
  induction k with
  | zero => rw [Int.pow_zero, Int.pow_zero]; exact Int.le_refl _
  | succ k ih =>
    rw [Int.pow_succ, Int.pow_succ]
    have h0 : (0 : Int) ≤ 10 ^ k := Int.le_of_lt (Int.pow_pos (by decide))
    have h1 : (10 : Int) ^ k * 10 ≤ 10 ^ k * b := Int.mul_le_mul_of_nonneg_left hb h0
    have h2 : (10 : Int) ^ k * b ≤ b ^ k * b := Int.mul_le_mul_of_nonneg_right ih (by omega)
    omega
/-- A number of n decimal digits takes at most n words. -/
theorem room_dec {l : List Int} {L : List UInt8} (hc : Can B64 l) (ha : allD L = true) (h : vb B64 l = dval L) : l.length ≤ L.length := by
  refine room_of B64_pos hc ?_
  rw [h]
  exact Int.lt_of_lt_of_le (dval_lim L ha).2 (ten_pow_b (by decide) _)

end Go.Proofs.YtfanhllcoaondaaDoor

namespace Go.Proofs.YtfanhllcoaondaaDoor
open Go.RowKit

/-- The words as values. -/
def vals (l : List Int) : List Value := l.map (Value.int .u64)
theorem length_vals (l : List Int) : (vals l).length = l.length := by simp [vals]
theorem vals_get (l : List Int) (j : Nat) (h : j < l.length) : (vals l)[j]? = some (.int .u64 (l.getD j 0)) := by
  simp [vals, List.getD_eq_getElem?_getD, h]
theorem vals_take (l : List Int) (k : Nat) : (vals l).take k = vals (l.take k) := by simp [vals]
theorem vals_set (l : List Int) (k : Nat) (x : Int) : (vals l).set k (.int .u64 x) = vals (l.set k x) := by simp [vals, List.map_set]
theorem vals_append (l m : List Int) : vals l ++ vals m = vals (l ++ m) := by simp [vals]
theorem vals_inj {l m : List Int} (h : vals l = vals m) : l = m := by
  refine List.map_inj_right (f := Value.int .u64) ?_ |>.1 h
  intro a b h
  simpa using h
theorem oneCell_vals (l : List Int) : ∀ u ∈ vals l, u.oneCell' = true := ints_oneCell _ _

/-- Words lie at an address. -/
def At (w : World) (b off : Nat) (l : List Int) : Prop := ∀ j, j < l.length → w.cell? ⟨b, off + j, none⟩ = some (.int .u64 (l.getD j 0))

/-- What a slice reads as: its address (whatever it is where there is no word), its words. -/
def Rd (w : World) (ao : Option Addr) (l : List Int) : Prop := l = [] ∨ ∃ b off, ao = some ⟨b, off, none⟩ ∧ At w b off l

theorem At.get {w : World} {b off : Nat} {l : List Int} (h : At w b off l) {j : Nat} (hj : j < l.length) : w.cell? ⟨b, off + j, none⟩ = some (.int .u64 (l.getD j 0)) := h j hj
theorem At.lt {w : World} {b off : Nat} {l : List Int} (h : At w b off l) (hl : l ≠ []) : b < w.heap.size := by
  have := h 0 (List.length_pos_iff.2 hl)
  exact World.block_lt_of_cell? (a := ⟨b, off + 0, none⟩) _ this
theorem At.take {w : World} {b off : Nat} {l : List Int} (h : At w b off l) (k : Nat) : At w b off (l.take k) := by
  intro j hj
  rw [List.length_take] at hj
  rw [getD_take (by omega)]
  exact h j (by omega)
theorem At.drop {w : World} {b off : Nat} {l : List Int} (h : At w b off l) (k : Nat) : At w b (off + k) (l.drop k) := by
  intro j hj
  rw [List.length_drop] at hj
  rw [getD_drop, Nat.add_assoc]
  exact h _ (by omega)
theorem At.below {w w' : World} {b off : Nat} {l : List Int} (h : At w b off l) (hb : Below w.heap.size w w') : At w' b off l := by
  intro j hj
  have hl : l ≠ [] := by intro e; subst e; simp at hj
  rw [hb.cell (p := ⟨b, off + j, none⟩) (h.lt hl)]
  exact h j hj
theorem At.belowB {B : Nat} {w w' : World} {b off : Nat} {l : List Int} (h : At w b off l) (hb : Below B w w') (hlt : b < B) : At w' b off l := by
  intro j hj
  rw [hb.cell (p := ⟨b, off + j, none⟩) hlt]
  exact h j hj

theorem Rd.nil (w : World) (ao : Option Addr) : Rd w ao [] := Or.inl rfl
theorem Rd.at' {w : World} {b off : Nat} {l : List Int} (h : Rd w (some ⟨b, off, none⟩) l) : At w b off l := by
  rcases h with rfl | ⟨b', off', e, h⟩
  · intro j hj; simp at hj
  · cases e; exact h
theorem Rd.take {w : World} {ao : Option Addr} {l : List Int} (h : Rd w ao l) (k : Nat) : Rd w ao (l.take k) := by
  rcases h with rfl | ⟨b, off, e, h⟩
  · simp [Rd]
  · exact Or.inr ⟨b, off, e, h.take k⟩
theorem Rd.below {w w' : World} {ao : Option Addr} {l : List Int} (h : Rd w ao l) (hb : Below w.heap.size w w') : Rd w' ao l := by
  rcases h with rfl | ⟨b, off, e, h⟩
  · exact Rd.nil _ _
  · exact Or.inr ⟨b, off, e, h.below hb⟩
theorem Rd.of_at {w : World} {b off : Nat} {l : List Int} (h : At w b off l) : Rd w (some ⟨b, off, none⟩) l := Or.inr ⟨b, off, rfl, h⟩
/-- Where there is a word there is an address. -/
theorem Rd.cases {w : World} {ao : Option Addr} {l : List Int} (h : Rd w ao l) (hl : l ≠ []) : ∃ b off, ao = some ⟨b, off, none⟩ ∧ At w b off l := h.resolve_left hl

/-- A row of the call's own, from block base on: a slice value whose words are l. -/
def Ow (base : Nat) (w : World) (v : Value) (l : List Int) : Prop := w.ownsRow base 56 1 v l.length (vals l)

theorem Ow.form {base : Nat} {w : World} {v : Value} {l : List Int} (h : Ow base w v l) : ∃ ao cap, v = .slice ao l.length cap ∧ l.length ≤ cap ∧ cap ≤ 9223372036854775807 ∧ Rd w ao l := by
  obtain ⟨h1, h2⟩ := h
  rcases h2 with ⟨rfl, h0⟩ | ⟨g, cap, cur, rfl, hg, hh, hn, hm, hc, ht⟩
  · obtain rfl : l = [] := List.eq_nil_of_length_eq_zero h0
    exact ⟨none, 0, rfl, Nat.le_refl _, by omega, Rd.nil _ _⟩
  · refine ⟨_, cap, rfl, hn, by simpa [maxLen] using hm, Rd.of_at ?_⟩
    intro j hj
    rw [cell_of_row w g _ cur _ _ hh]
    have : (cur.toList.take (l.length * 1))[j]? = (vals l)[j]? := by rw [ht]
    rw [vals_get l j hj, List.getElem?_take, if_pos (by omega)] at this
    simpa using this

theorem Ow.form' {base : Nat} {w : World} {v : Value} {l : List Int} (h : Ow base w v l) : ∃ ao cap, v = .slice ao l.length cap ∧ l.length ≤ cap ∧ cap ≤ 9223372036854775807 ∧ Rd w ao l ∧ ∀ g o, ao = some ⟨g, o, none⟩ → base ≤ g := by
  obtain ⟨ao, cap, rfl, h1, h2, h3⟩ := h.form
  refine ⟨ao, cap, rfl, h1, h2, h3, fun g o e => ?_⟩
  rcases h.2 with ⟨hv, _⟩ | ⟨g', cap', cur, hv, hg, _⟩
  · simp only [Value.slice.injEq] at hv
    rw [hv.1] at e; cases e
  · simp only [Value.slice.injEq] at hv
    rw [hv.1] at e; cases e; exact hg

/-- Words in a row that may be written: the block, and where in it they lie. -/
def Arr (w : World) (b off : Nat) (l : List Int) : Prop := ∃ (cur : Array Value) (e : TypeId), w.heap[b]? = some (.cells cur e (0, 0)) ∧ ∀ j, j < l.length → cur[off + j]? = some (.int .u64 (l.getD j 0))

theorem Arr.at' {w : World} {b off : Nat} {l : List Int} (h : Arr w b off l) : At w b off l := by
  obtain ⟨cur, e, hh, h⟩ := h
  intro j hj
  rw [cell_of_row w b _ cur e _ hh]
  exact h j hj
theorem Arr.frozen {w : World} {b off : Nat} {l : List Int} (h : Arr w b off l) (j : Nat) : w.frozen? ⟨b, j, none⟩ = false := by
  obtain ⟨cur, e, hh, h⟩ := h
  exact frozen_of_row w b j cur e hh
theorem Arr.lt {w : World} {b off : Nat} {l : List Int} (h : Arr w b off l) : b < w.heap.size := by
  obtain ⟨cur, e, hh, h⟩ := h
  exact (Array.getElem?_eq_some_iff.1 hh).1
theorem Arr.sub {w : World} {b off : Nat} {l : List Int} (h : Arr w b off l) (k n : Nat) : Arr w b (off + k) ((l.drop k).take n) := by
  obtain ⟨cur, e, hh, h⟩ := h
  refine ⟨cur, e, hh, fun j hj => ?_⟩
  rw [List.length_take, List.length_drop] at hj
  rw [getD_take (by omega), getD_drop, Nat.add_assoc]
  exact h _ (by omega)
theorem Arr.drop {w : World} {b off : Nat} {l : List Int} (h : Arr w b off l) (k : Nat) : Arr w b (off + k) (l.drop k) := by
  have := h.sub k (l.drop k).length
  rwa [List.take_length] at this
theorem Arr.take {w : World} {b off : Nat} {l : List Int} (h : Arr w b off l) (k : Nat) : Arr w b off (l.take k) := h.sub 0 k

/-- Nothing of what was there has turned but words of block b from place lo to before place hi; there may be new blocks. -/
structure Only (b lo hi : Nat) (w w' : World) : Prop where
  os : w'.os = w.os
  tape : w'.tape = w.tape
  output : w'.output = w.output
  size : w.heap.size ≤ w'.heap.size
  block : ∀ k, k < w.heap.size → k ≠ b → w'.heap[k]? = w.heap[k]?
  row : ∀ cur e, w.heap[b]? = some (.cells cur e (0, 0)) → ∃ cur', w'.heap[b]? = some (.cells cur' e (0, 0)) ∧ cur'.size = cur.size ∧ ∀ j, j < lo ∨ hi ≤ j → cur'[j]? = cur[j]?

theorem Only.refl (b lo hi : Nat) (w : World) : Only b lo hi w w := ⟨rfl, rfl, rfl, Nat.le_refl _, fun _ _ _ => rfl, fun cur _ h => ⟨cur, h, rfl, fun _ _ => rfl⟩⟩
theorem Only.trans {b lo hi : Nat} {u v w : World} (h : Only b lo hi u v) (k : Only b lo hi v w) : Only b lo hi u w := by
  refine ⟨k.os.trans h.os, k.tape.trans h.tape, k.output.trans h.output, Nat.le_trans h.size k.size, fun i hi hb => (k.block i (Nat.lt_of_lt_of_le hi h.size) hb).trans (h.block i hi hb), fun cur e hc => ?_⟩
  obtain ⟨c1, h1, s1, g1⟩ := h.row cur e hc
  obtain ⟨c2, h2, s2, g2⟩ := k.row c1 e h1
  exact ⟨c2, h2, s2.trans s1, fun j hj => (g2 j hj).trans (g1 j hj)⟩
theorem Only.mono {b lo hi lo' hi' : Nat} {u v : World} (h : Only b lo hi u v) (h1 : lo' ≤ lo) (h2 : hi ≤ hi') : Only b lo' hi' u v :=
  ⟨h.os, h.tape, h.output, h.size, h.block, fun cur e hc => by
    obtain ⟨c, a, s, g⟩ := h.row cur e hc
    exact ⟨c, a, s, fun j hj => g j (by omega)⟩⟩
theorem Only.of_below {b lo hi : Nat} {u v : World} (h : Below u.heap.size u v) : Only b lo hi u v :=
  ⟨h.os, h.tape, h.output, h.size, fun k hk _ => h.block k hk, fun cur _ hc => ⟨cur, (h.block b (Array.getElem?_eq_some_iff.1 hc).1).trans hc, rfl, fun _ _ => rfl⟩⟩
/-- A function that writes into a block of the call's own alone turns nothing that was there. -/
theorem Only.below {b lo hi B : Nat} {u v : World} (h : Only b lo hi u v) (hb : B ≤ b) (hB : B ≤ u.heap.size) : Below B u v :=
  ⟨h.os, h.tape, h.output, h.size, fun k hk => h.block k (by omega) (by omega)⟩

theorem Only.arr {b lo hi : Nat} {u v : World} (h : Only b lo hi u v) {off : Nat} {l : List Int} (ha : Arr u b off l) (hd : off + l.length ≤ lo ∨ hi ≤ off) : Arr v b off l := by
  obtain ⟨cur, e, hc, hl⟩ := ha
  obtain ⟨c, a, _, g⟩ := h.row cur e hc
  exact ⟨c, e, a, fun j hj => (g _ (by omega)).trans (hl j hj)⟩
theorem Only.at' {b lo hi : Nat} {u v : World} (h : Only b lo hi u v) {b' off : Nat} {l : List Int} (ha : At u b' off l) (hd : b' ≠ b) : At v b' off l := by
  intro j hj
  have hlt := World.block_lt_of_cell? (a := ⟨b', off + j, none⟩) _ (ha j hj)
  rw [World.cell?_of_block (w := u) (h.block b' hlt hd)]
  exact ha j hj
theorem Only.arr' {b lo hi : Nat} {u v : World} (h : Only b lo hi u v) {b' off : Nat} {l : List Int} (ha : Arr u b' off l) (hd : b' ≠ b) : Arr v b' off l := by
  have hlt := ha.lt
  obtain ⟨cur, e, hc, hl⟩ := ha
  exact ⟨cur, e, (h.block b' hlt hd).trans hc, hl⟩

/-- A word is stored. -/
theorem Arr.store {w : World} {b off : Nat} {l : List Int} (h : Arr w b off l) (k : Nat) (x : Int) : Arr (w.setCell ⟨b, off + k, none⟩ (.int .u64 x)) b off (l.set k x) := by
  obtain ⟨cur, e, hc, hl⟩ := h
  refine ⟨_, e, heap_setCell_same w b (off + k) cur e _ hc, fun j hj => ?_⟩
  rw [List.length_set] at hj
  by_cases hjk : k = j
  · subst hjk
    have hlt : off + k < cur.size := (Array.getElem?_eq_some_iff.1 (hl k hj)).1
    rw [getD_set_same hj]
    simp [hlt]
  · rw [getD_set_other l hjk, Array.getElem?_setIfInBounds, if_neg (by omega)]
    exact hl j hj
theorem Only.store {w : World} {b lo hi : Nat} (k : Nat) (v : Value) (h1 : lo ≤ k) (h2 : k < hi) : Only b lo hi w (w.setCell ⟨b, k, none⟩ v) := by
  refine ⟨rfl, rfl, rfl, by simp [World.setCell], fun j _ hj => heap_setCell_other w ⟨b, k, none⟩ j v hj, fun cur e hc => ?_⟩
  refine ⟨_, heap_setCell_same w b k cur e v hc, by simp, fun j hj => ?_⟩
  rw [Array.getElem?_setIfInBounds, if_neg (by omega)]

/-- A row of the call's own as words that may be written. -/
theorem Ow.arr {base : Nat} {w : World} {g cap n : Nat} {l : List Int} (h : Ow base w (.slice (some ⟨g, 0, none⟩) n cap) l) : Arr w g 0 l ∧ base ≤ g ∧ n = l.length := by
  obtain ⟨h1, h2⟩ := h
  rcases h2 with ⟨h, _⟩ | ⟨g', cap', cur, hv, hg, hh, hn, hm, hc, ht⟩
  · simp at h
  · simp only [Value.slice.injEq, Option.some.injEq, Addr.mk.injEq, and_true] at hv
    obtain ⟨rfl, rfl, rfl⟩ := hv
    refine ⟨⟨cur, _, hh, fun j hj => ?_⟩, hg, rfl⟩
    have : (cur.toList.take (l.length * 1))[j]? = (vals l)[j]? := by rw [ht]
    rw [vals_get l j hj, List.getElem?_take, if_pos (by omega)] at this
    simpa using this

theorem Ow.nil (base : Nat) (w : World) : Ow base w (.slice none 0 0) [] := World.ownsRow_nil _ _ _ _

/-- The row behind a function that has written into it. -/
theorem Ow.only {base : Nat} {w w' : World} {g cap n : Nat} {l l' : List Int} {lo hi : Nat} (h : Ow base w (.slice (some ⟨g, 0, none⟩) n cap) l) (ho : Only g lo hi w w') (ha : Arr w' g 0 l') (hl : l'.length = l.length) :
    Ow base w' (.slice (some ⟨g, 0, none⟩) n cap) l' := by
  obtain ⟨h1, h2⟩ := h
  rcases h2 with ⟨h, _⟩ | ⟨g', cap', cur, hv, hg, hh, hn, hm, hc, ht⟩
  · simp at h
  · simp only [Value.slice.injEq, Option.some.injEq, Addr.mk.injEq, and_true] at hv
    obtain ⟨rfl, rfl, rfl⟩ := hv
    obtain ⟨c, a, s, _⟩ := ho.row cur _ hh
    obtain ⟨c2, e2, a2, hl2⟩ := ha
    rw [a] at a2
    simp only [Option.some.injEq, Obj.cells.injEq] at a2
    obtain ⟨rfl, rfl, _⟩ := a2
    refine ⟨by simp [length_vals], Or.inr ⟨g, cap, c, by rw [hl], hg, a, by omega, hm, by rw [s]; exact hc, ?_⟩⟩
    apply List.ext_getElem?
    intro j
    by_cases hj : j < l'.length
    · rw [vals_get l' j hj, List.getElem?_take, if_pos (by omega)]
      have := hl2 j hj
      simpa using this
    · rw [List.getElem?_eq_none (by simp; omega), List.getElem?_eq_none (by simp [length_vals]; omega)]

/-- The head of a row. -/
theorem Ow.take {base : Nat} {w : World} {ao : Option Addr} {cap n : Nat} {l : List Int} (h : Ow base w (.slice ao n cap) l) (k : Nat) (hk : k ≤ n) : Ow base w (.slice ao k cap) (l.take k) := by
  obtain ⟨h1, h2⟩ := h
  rcases h2 with ⟨hv, h0⟩ | ⟨g', cap', cur, hv, hg, hh, hn, hm, hc, ht⟩
  · simp only [Value.slice.injEq] at hv
    obtain ⟨rfl, rfl, rfl⟩ := hv
    obtain rfl : k = 0 := by omega
    exact Ow.nil _ _
  · simp only [Value.slice.injEq] at hv
    obtain ⟨rfl, rfl, rfl⟩ := hv
    have hlen : (l.take k).length = k := by rw [List.length_take]; omega
    refine ⟨by simp [length_vals], Or.inr ⟨g', cap, cur, by rw [hlen], hg, hh, by omega, hm, hc, ?_⟩⟩
    rw [hlen, Nat.mul_one, ← vals_take, ← ht, List.take_take, Nat.min_eq_left (by omega)]

theorem Ow.below {base : Nat} {w w' : World} {v : Value} {l : List Int} (h : Ow base w v l) (hb : Below w.heap.size w w') : Ow base w' v l := by
  obtain ⟨h1, h2⟩ := h
  refine ⟨h1, ?_⟩
  rcases h2 with h2 | ⟨g', cap', cur, hv, hg, hh, r⟩
  · exact Or.inl h2
  · exact Or.inr ⟨g', cap', cur, hv, hg, (hb.block g' (Array.getElem?_eq_some_iff.1 hh).1).trans hh, r⟩
theorem Ow.only' {base : Nat} {w w' : World} {v : Value} {l : List Int} {b lo hi : Nat} (h : Ow base w v l) (ho : Only b lo hi w w') (hne : v.ownBlock ≠ some b) : Ow base w' v l := by
  obtain ⟨h1, h2⟩ := h
  refine ⟨h1, ?_⟩
  rcases h2 with h2 | ⟨g', cap', cur, rfl, hg, hh, r⟩
  · exact Or.inl h2
  · exact Or.inr ⟨g', cap', cur, rfl, hg, (ho.block g' (Array.getElem?_eq_some_iff.1 hh).1 (by simpa [Value.ownBlock] using hne)).trans hh, r⟩
theorem Ow.mono {base base' : Nat} {w : World} {v : Value} {l : List Int} (h : Ow base w v l) (hb : base' ≤ base) : Ow base' w v l := by
  obtain ⟨h1, h2⟩ := h
  refine ⟨h1, ?_⟩
  rcases h2 with h2 | ⟨g', cap', cur, hv, hg, r⟩
  · exact Or.inl h2
  · exact Or.inr ⟨g', cap', cur, hv, by omega, r⟩

end Go.Proofs.YtfanhllcoaondaaDoor

namespace Go.Proofs.YtfanhllcoaondaaDoor
open Go.RowKit

/-- More words than this are never made. -/
def MaxW : Nat := 17592186044416

theorem goInt_eq (n : Int) : goInt n = .int .i64 n := rfl

/-- make([]uint64, n), n a variable. -/
theorem wpList_make_words {P : Program} (w : World) {ops : Array Oper} {rest : List Oper} {o : Oper} {a : Act} {Q : Exit → Act → World → Prop}
    (hg : o.guard = none) (l c : Operand) (t : TypeId) (hop : o.op = Op.makeSlice t l c)
    (h1 : P.underlying t = some (.slice 56)) (hi : (P.info? 56).map (fun i => (i.zero, i.size, i.bytes)) = some (some (.int .u64 0), 1, 8))
    (L C : Int) (n : Nat) (hl : a.eval l = .int .i64 L) (hc : a.eval c = .int .i64 C) (hL : L = (n : Int)) (hC : C = (n : Int)) (b : n ≤ MaxW)
    (hK : ∀ w', Ow w.heap.size w' (.slice (some ⟨w.heap.size, 0, none⟩) n n) (List.replicate n 0) → Below w.heap.size w w' → w.heap.size < w'.heap.size → wpList P ops Q rest (a.put o.dst (.slice (some ⟨w.heap.size, 0, none⟩) n n)) w') :
    wpList P ops Q (o :: rest) a w := by
  obtain ⟨i, h2, h3, h4, h5⟩ := info_parts hi
  refine wpList_make_full w hg l c t hop w.heap.size 56 i (.int .u64 0) 1 h1 h2 h3 h4 .i64 .i64 L C n hl hc hL hC (by unfold MaxW at b; rw [h5]; omega) (by unfold MaxW at b; unfold maxLen; omega) (Nat.le_refl _) fun w' hown hgr => ?_
  have e : (madeCells (Value.int .u64 0).cells (n * 1)).toList = vals (List.replicate n 0) := by
    rw [Nat.mul_one, show (Value.int .u64 0).cells = #[.int .u64 0] from rfl, toList_madeCells_one, vals, List.map_replicate]
  rw [e] at hown
  have hown' : Ow w.heap.size w' (.slice (some ⟨w.heap.size, 0, none⟩) n n) (List.replicate n 0) := by
    unfold Ow; rw [List.length_replicate]; exact hown
  refine hK w' hown' ?_ ?_
  · exact (Below.refl _ _).grown hgr (Nat.le_refl _) (fun k h => by cases h)
  · rcases hown.2 with ⟨h, _⟩ | ⟨g, cap, cur, hv, hb, hh, _⟩
    · simp at h
    · simp only [Value.slice.injEq, Option.some.injEq, Addr.mk.injEq, and_true] at hv
      obtain ⟨rfl, _⟩ := hv
      exact (Array.getElem?_eq_some_iff.1 hh).1

theorem addr_add_none (b o j : Nat) : (⟨b, o, none⟩ : Addr).add j = ⟨b, o + j, none⟩ := Addr.add_lit b o j

/-- copy(dst, src) between slices of words. -/
theorem wpList_copy_words {P : Program} {w : World} {ops : Array Oper} {rest : List Oper} {o : Oper} {a : Act} {Q : Exit → Act → World → Prop} (hgd : o.guard = none) (d s : Operand) (dT sT : TypeId)
    (ho : o.op = .call { callee := .builtin .copy, args := #[d, s], argTypes := #[dT, sT] }) (hu : P.underlying dT = some (.slice 56)) (hi : (P.info? 56).map (fun i => (i.zero, i.size, i.bytes)) = some (some (.int .u64 0), 1, 8))
    (g off dLen dCap : Nat) (sp : Option Addr) (sLen sCap : Nat) (hd : a.eval d = .slice (some ⟨g, off, none⟩) dLen dCap) (hs : a.eval s = .slice sp sLen sCap)
    (ld ls : List Int) (hld : ld.length = dLen) (hls : ls.length = sLen) (ha : Arr w g off ld) (hr : Rd w sp ls)
    (h : ∀ w', Arr w' g off (ls.take dLen ++ ld.drop sLen) → Only g off (off + dLen) w w' → wpList P ops Q rest (a.put o.dst (goInt (Nat.min sLen dLen))) w') : wpList P ops Q (o :: rest) a w := by
  have hsz : (P.info? 56).map (·.size) = some 1 := by
    obtain ⟨i, h2, h3, h4, h5⟩ := info_parts hi
    rw [h2]; simp [h4]
  by_cases h0 : Nat.min sLen dLen = 0
  · refine wpList_copy_nothing hgd d s dT sT ho 56 hu hsz (some ⟨g, off, none⟩) sp dLen dCap sLen sCap hd hs h0 ?_
    have := h w
    rw [h0] at this
    refine this ?_ (Only.refl _ _ _ _)
    rcases (show sLen = 0 ∨ dLen = 0 from by have : min sLen dLen = 0 := h0; omega) with e | e
    · obtain rfl : ls = [] := List.eq_nil_of_length_eq_zero (by omega)
      rw [e]; simpa using ha
    · obtain rfl : ld = [] := List.eq_nil_of_length_eq_zero (by omega)
      rw [e]; simpa using ha
  · have hls0 : ls ≠ [] := by intro e; subst e; simp at hls; subst hls; exact h0 (Nat.zero_min _)
    obtain ⟨b, o', rfl, hat⟩ := hr.cases hls0
    have ha' := ha
    obtain ⟨cur, e, hh, hl⟩ := ha
    have hlen : (vals (ls.take dLen)).length = Nat.min sLen dLen := by
      rw [length_vals, List.length_take, hls]; exact Nat.min_comm _ _
    have hmin : Nat.min sLen dLen = min sLen dLen := rfl
    have hfit : off + (vals (ls.take dLen)).length ≤ cur.size := by
      rw [hlen]
      have := hl (ld.length - 1) (by omega)
      have := (Array.getElem?_eq_some_iff.1 this).1
      omega
    refine wpList_copy_own hgd d s dT sT ho 56 hu hsz g off dLen dCap ⟨b, o', none⟩ sLen sCap hd hs cur e hh (vals (ls.take dLen)) hlen ?_ hfit (oneCell_vals _) ?_
    · intro j v hv
      have hj : j < (ls.take dLen).length := by have := (List.getElem?_eq_some_iff.1 hv).1; simpa [length_vals] using this
      rw [vals_get _ j hj] at hv
      cases hv
      rw [addr_add_none]
      exact hat.take dLen j hj
    · rw [hlen]
      refine h _ ?_ ?_
      · refine ⟨_, e, setRow_heap w g cur _ e _ hh, fun j hj => ?_⟩
        rw [List.length_append, List.length_take, List.length_drop] at hj
        rw [List.getElem?_toArray]
        rw [List.getElem?_append_right (by rw [List.length_take, Array.length_toList]; omega), List.length_take, Array.length_toList, Nat.min_eq_left (by omega), Nat.add_sub_cancel_left]
        by_cases hjm : j < Nat.min sLen dLen
        · rw [List.getElem?_append_left (by rw [hlen]; exact hjm), vals_get _ j (by rw [List.length_take]; omega)]
          congr 2
          rw [List.getD_eq_getElem?_getD, List.getD_eq_getElem?_getD, List.getElem?_append_left (by rw [List.length_take]; omega)]
        · rw [List.getElem?_append_right (by rw [hlen]; omega), List.getElem?_drop, hlen]
          have := hl j (by omega)
          rw [show off + Nat.min sLen dLen + (j - Nat.min sLen dLen) = off + j by omega, Array.getElem?_toList, this]
          congr 2
          rw [List.getD_eq_getElem?_getD, List.getD_eq_getElem?_getD, List.getElem?_append_right (by rw [List.length_take]; omega), List.getElem?_drop, List.length_take]
          congr 2
          omega
      · refine ⟨rfl, rfl, rfl, by simp, fun k _ hk => setRow_other w g k _ hk, fun c2 e2 hc2 => ?_⟩
        rw [hh] at hc2
        simp only [Option.some.injEq, Obj.cells.injEq, and_true] at hc2
        obtain ⟨rfl, rfl⟩ := hc2
        refine ⟨_, setRow_heap w g cur _ e _ hh, ?_, fun j hj => ?_⟩
        · simp only [List.size_toArray, List.length_append, List.length_take, List.length_drop, Array.length_toList]
          omega
        · rw [List.getElem?_toArray]
          rcases hj with hj | hj
          · by_cases hjc : j < cur.size
            · rw [List.getElem?_append_left (by rw [List.length_take, Array.length_toList]; omega), List.getElem?_take, if_pos hj, Array.getElem?_toList]
            · rw [List.getElem?_append_left (by rw [List.length_take, Array.length_toList]; omega), List.getElem?_take, if_pos hj, Array.getElem?_toList]
          · rw [List.getElem?_append_right (by rw [List.length_take, Array.length_toList]; omega), List.length_take, Array.length_toList, Nat.min_eq_left (by omega),
              List.getElem?_append_right (by rw [hlen]; omega), List.getElem?_drop, Array.getElem?_toList]
            congr 1
            rw [hlen]
            omega

/-- Draws turn no block. -/
theorem bdn {B : Nat} {a w : World} (h : Below B a w) (n : Nat) : Below B a (w.drewN n) := h.trans ⟨rfl, rfl, rfl, Nat.le_refl _, fun _ _ => rfl⟩

theorem Ow.alloc {base : Nat} {w : World} {v : Value} {l : List Int} (h : Ow base w v l) (o : Obj) : Ow base (w.alloc o) v l := World.ownsRow.alloc h o
theorem Ow.drew {base : Nat} {w : World} {v : Value} {l : List Int} (h : Ow base w v l) : Ow base w.drew v l := h
theorem Ow.block {base : Nat} {w : World} {v : Value} {l : List Int} (h : Ow base w v l) : ∀ k, v.ownBlock = some k → base ≤ k := by
  intro k hk
  rcases h.2 with ⟨rfl, _⟩ | ⟨g, cap, cur, rfl, hg, _⟩
  · simp [Value.ownBlock] at hk
  · simp only [Value.ownBlock, Option.some.injEq] at hk
    omega

/-- append(out, words ..), out of the call's own. -/
theorem wpList_append_words {P : Program} (w : World) {ops : Array Oper} {rest : List Oper} {o : Oper} {a : Act} {Q : Exit → Act → World → Prop} (hgd : o.guard = none) (s x : Operand) (t : TypeId)
    (ho : o.op = .call { callee := .builtin .append, args := #[s, x], argTypes := #[t, t] }) (ht : P.underlying t = some (.slice 56)) (hi : (P.info? 56).map (fun i => (i.zero, i.size, i.bytes)) = some (some (.int .u64 0), 1, 8))
    (base : Nat) (v : Value) (l : List Int) (hs : a.eval s = v) (hown : Ow base w v l)
    (ad : Addr) (m c : Nat) (lm : List Int) (hx : a.eval x = .slice (some ad) m c) (hm : lm.length = m) (hnews : ∀ j, j < lm.length → w.cell? (ad.add j) = some (.int .u64 (lm.getD j 0)))
    (hM : l.length + m ≤ MaxW) (hbase : base ≤ w.heap.size)
    (hK : ∀ v' w', Ow base w' v' (l ++ lm) → Below base w w' → wpList P ops Q rest (a.put o.dst v') w') : wpList P ops Q (o :: rest) a w := by
  obtain ⟨i, h2, h3, h4, h5⟩ := info_parts hi
  unfold MaxW at hM
  refine wpList_append_own w hgd s x t ho base 56 i (.int .u64 0) 1 8 ht h2 h3 h4 h5 rfl (by decide) v l.length (vals l) hs hown ad m c (vals lm) hx (by rw [length_vals, hm, Nat.mul_one]) ?_ (oneCell_vals _) (by unfold maxLen; omega) (by omega) hbase fun v' w' hown' hgr _ => ?_
  · intro j u hu
    have hj : j < lm.length := by have := (List.getElem?_eq_some_iff.1 hu).1; simpa [length_vals] using this
    rw [vals_get lm j hj] at hu
    cases hu
    exact hnews j hj
  · refine hK v' w' ?_ ((Below.refl _ _).grown hgr hbase hown.block)
    unfold Ow
    rw [List.length_append, hm, ← vals_append]
    exact hown'

/-- New words in a new block. -/
theorem news2 (w : World) (a b : Int) (t : TypeId) : ∀ j, j < [a, b].length → (w.alloc (.cells #[.int .u64 a, .int .u64 b] t)).cell? ((⟨w.heap.size, 0, none⟩ : Addr).add j) = some (.int .u64 ([a, b].getD j 0)) := by
  intro j hj
  rw [addr_add_none, Nat.zero_add, World.cell?_alloc_new]
  match j, hj with
  | 0, _ => rfl
  | 1, _ => rfl
theorem news1 (w : World) (a : Int) (t : TypeId) : ∀ j, j < [a].length → (w.alloc (.cells #[.int .u64 a] t)).cell? ((⟨w.heap.size, 0, none⟩ : Addr).add j) = some (.int .u64 ([a].getD j 0)) := by
  intro j hj
  rw [addr_add_none, Nat.zero_add, World.cell?_alloc_new]
  match j, hj with
  | 0, _ => rfl

/-- The same as one step of a region that draws its order. -/
theorem step_append_words {P : Program} (w : World) {ops : Array Oper} {o : Oper} {a : Act} {K : Act → World → Prop} {Q : Exit → Act → World → Prop} {E : Prop} (hgd : o.guard = none) (s x : Operand) (t : TypeId)
    (ho : o.op = .call { callee := .builtin .append, args := #[s, x], argTypes := #[t, t] }) (ht : P.underlying t = some (.slice 56)) (hi : (P.info? 56).map (fun i => (i.zero, i.size, i.bytes)) = some (some (.int .u64 0), 1, 8))
    (base : Nat) (v : Value) (l : List Int) (hs : a.eval s = v) (hown : Ow base w v l)
    (ad : Addr) (m c : Nat) (lm : List Int) (hx : a.eval x = .slice (some ad) m c) (hm : lm.length = m) (hnews : ∀ j, j < lm.length → w.cell? (ad.add j) = some (.int .u64 (lm.getD j 0)))
    (hM : l.length + m ≤ MaxW) (hbase : base ≤ w.heap.size)
    (hK : ∀ v' w', Ow base w' v' (l ++ lm) → Below base w w' → K (a.put o.dst v') w') : if Region.wanted o (yielded ops a.tmps) = true then Oper.wp P o a w K Q else E := by
  have hw : Region.wanted o (yielded ops a.tmps) = true := by simp [Region.wanted, hgd]
  rw [if_pos hw]
  obtain ⟨i, h2, h3, h4, h5⟩ := info_parts hi
  unfold MaxW at hM
  refine wp_append_own w s x t ho base 56 i (.int .u64 0) 1 8 ht h2 h3 h4 h5 rfl (by decide) v l.length (vals l) hs hown ad m c (vals lm) hx (by rw [length_vals, hm, Nat.mul_one]) ?_ (oneCell_vals _) (by unfold maxLen; omega) (by omega) hbase fun v' w' hown' hgr _ => ?_
  · intro j u hu
    have hj : j < lm.length := by have := (List.getElem?_eq_some_iff.1 hu).1; simpa [length_vals] using this
    rw [vals_get lm j hj] at hu
    cases hu
    exact hnews j hj
  · refine hK v' w' ?_ ((Below.refl _ _).grown hgr hbase hown.block)
    unfold Ow
    rw [List.length_append, hm, ← vals_append]
    exact hown'

/-- A slice value, and the words that it reads as. -/
def RdV (w : World) (v : Value) (l : List Int) : Prop := ∃ ao cap, v = .slice ao l.length cap ∧ l.length ≤ cap ∧ cap ≤ 9223372036854775807 ∧ Rd w ao l ∧ Lim B64 l
theorem RdV.below {w w' : World} {v : Value} {l : List Int} (h : RdV w v l) (hb : Below w.heap.size w w') : RdV w' v l := by
  obtain ⟨ao, cap, rfl, h1, h2, h3, h4⟩ := h
  exact ⟨ao, cap, rfl, h1, h2, h3.below hb, h4⟩
theorem Ow.rdv {base : Nat} {w : World} {v : Value} {l : List Int} (h : Ow base w v l) (hl : Lim B64 l) : RdV w v l := by
  obtain ⟨ao, cap, rfl, h1, h2, h3⟩ := h.form
  exact ⟨ao, cap, rfl, h1, h2, h3, hl⟩
theorem RdV.lim {w : World} {v : Value} {l : List Int} (h : RdV w v l) : Lim B64 l := by
  obtain ⟨ao, cap, rfl, h1, h2, h3, h4⟩ := h
  exact h4

/-- A slice of slices: the values in its cells. -/
def RdRow (w : World) (ao : Option Addr) (vs : List Value) : Prop := vs = [] ∨ ∃ b off, ao = some ⟨b, off, none⟩ ∧ ∀ j v, vs[j]? = some v → w.cell? ⟨b, off + j, none⟩ = some v
theorem RdRow.below {w w' : World} {ao : Option Addr} {vs : List Value} (h : RdRow w ao vs) (hb : Below w.heap.size w w') : RdRow w' ao vs := by
  rcases h with rfl | ⟨b, off, rfl, h⟩
  · exact Or.inl rfl
  · refine Or.inr ⟨b, off, rfl, fun j v hv => ?_⟩
    have hc := h j v hv
    rw [hb.cell (p := ⟨b, off + j, none⟩) (World.block_lt_of_cell? _ _ hc)]
    exact hc

/-- A function has returned a slice of its own, of words l; nothing that was there has turned. -/
def RetOw (w : World) (l : List Int) (e : Ending) (w' : World) : Prop := ∃ v, e = .returned v ∧ Ow w.heap.size w' v l ∧ Below w.heap.size w w'
/-- The same, the slice known by its number alone: no zeros at its end. -/
def RetNum (w : World) (N : Int) (e : Ending) (w' : World) : Prop := ∃ v l, e = .returned v ∧ Ow w.heap.size w' v l ∧ Can B64 l ∧ vb B64 l = N ∧ Below w.heap.size w w'

end Go.Proofs.YtfanhllcoaondaaDoor

namespace Go.Proofs.YtfanhllcoaondaaDoor
open Go.ChangeShapes Go.WideShapes Go.ChangeAt Go.RowKit

theorem own : ownKnob Tryd.prog.godebug = none := by kernel_rfl
theorem laidOut : laidOutB Tryd.prog = true := by kernel_rfl

/-- The cells of a laid table. -/
def flat0 : DataW Unit → List Value
  | .lit (.int k n) => [.int k n]
  | _ => []
def flat1 : DataW Unit → List Value
  | .lit (.int k n) => [.int k n]
  | .agg l => l.flatMap flat0
  | _ => []
def flat2 : DataW Unit → List Value
  | .agg l => l.flatMap flat1
  | _ => []
def layIn (g : Nat) (d : DataW Unit) (h : Array Obj) : Array Obj :=
  h.modify g fun
    | .cells _ t frozen => .cells (flat2 d).toArray t frozen
    | o => o

/-- A world for the witness: the settled one, the tables holding what is listed. -/
noncomputable def laidWorld (os : Os) : World :=
  { World.holding Tryd.prog os ⟨#[], #[], []⟩ with heap := layIn 4 Rows.laid_unicode_utf8_first (layIn 5 Rows.laid_unicode_utf8_acceptRanges (layIn 1 Rows.laid_math_bits_deBruijn64tab (World.holding Tryd.prog os ⟨#[], #[], []⟩).heap)) }

/-- A readable row of words, as the walks want it. -/
theorem rdv_of {W : World} {a : Option Addr} {l c : Nat} {zs : List Int} (hlc : l ≤ c) (hc : c ≤ maxLen) (hz : zs.length = c) (hwf : ∀ n ∈ zs, (Lit.int .u64 n).wf = true) (h0 : a = none → c = 0)
    (hcell : ∀ a', a = some a' → ∀ i, i < c → W.cell? (a'.add i) = some (.int .u64 (zs.getD i 0))) : RdV W (.slice a l c) (zs.take l) := by
  have hlen : (zs.take l).length = l := by rw [List.length_take]; omega
  refine ⟨a, c, by rw [hlen], by omega, by simpa [maxLen] using hc, ?_, ?_⟩
  · by_cases hl : l = 0
    · left
      subst hl
      rfl
    · cases a with
      | none =>
        have := h0 rfl
        omega
      | some a' =>
        obtain ⟨b, off, spot⟩ := a'
        have hcell' := hcell _ rfl
        have hspot : spot = none := by simpa [Addr.add] using World.cell?_spot (hcell' 0 (by omega))
        subst hspot
        refine Or.inr ⟨b, off, rfl, fun j hj => ?_⟩
        have hj' : j < l := by omega
        have hc' := hcell' j (by omega)
        rw [add_plain] at hc'
        rw [hc']
        simp [List.getD, hj']
  · intro n hn
    have := hwf n (List.mem_of_mem_take hn)
    simp [Lit.wf, IntKind.min, IntKind.max, IntKind.signed, IntKind.bits] at this
    unfold B64
    omega

set_option maxRecDepth 100000 in
/-- An argument that is a row of words. -/
theorem open_words {H : Type} {enc : TypeId × Value → H} {base : Nat} {W : World} {t e : TypeId} {v : Value} {d : DataW H} {ps : List MemPlace} (ht : Tryd.prog.underlying t = some (.slice e)) (he : Tryd.prog.underlying e = some (.int .u64)) (hce : Tryd.prog.cellsOf e = 1)
    (hval : Value.okWide Tryd.prog W .any base t v) (hd : DataW.Trod enc Tryd.prog W 0 (fun _ => true) true t v d ps) : ∃ l, RdV W v l := by
  obtain ⟨a0, len, cap, rfl⟩ := okWide_slice ht hval
  obtain ⟨fuel, hf⟩ := hd
  rcases open_ints ht he hce hf with ⟨hcs, hx⟩ | ⟨a, len', cap', zs, hcs, _, hl, hm, hz, hx, hcell, hwz⟩
  · simp [Value.cells] at hcs
    obtain ⟨rfl, rfl, rfl⟩ := hcs
    exact ⟨[], none, 0, rfl, Nat.le_refl _, by omega, Or.inl rfl, fun _ h => by cases h⟩
  · simp [Value.cells] at hcs
    obtain ⟨rfl, rfl, rfl⟩ := hcs
    simp only [if_true] at hz
    exact ⟨_, rdv_of hl hm hz hwz (fun h => by cases h) (fun a' h i hi => by cases h; exact hcell i (by omega))⟩

/-- What a law's proof ends with: true is returned and nothing old has changed, so every argument reads as it did. -/
theorem post_true {H : Type} {enc : TypeId × Value → H} {f : Func} {s : ChangeSpec} {W W' : World} {args : Array Value} {ds gs : List (DataW H)} {before : List MemPlace} {tb : TypeId}
    (hW : DataW.Whole enc Tryd.prog f.params.toList s.vars false W args.toList ds gs before) (hv : s.vars = [])
    (hb : Below W.heap.size W W') (hr : f.resultTypes = #[tb]) (htb : Tryd.prog.underlying tb = some .bool)
    (hp : ∀ t ∈ f.params.toList, Tryd.prog.readableRec t = true ∧ t < Tryd.prog.types.size)
    (h1 : (s.fn H (ds ++ gs)).results = [.lit (.bool true)]) (h2 : (s.fn H (ds ++ gs)).args = ds) (h3 : (s.fn H (ds ++ gs)).vars = []) :
    s.post enc Tryd.prog f false true false false W args (.bool true) W' := by
  have hlt := hW.lt
  have hW' := hW
  obtain ⟨p, q, hA, hV, rfl, _, _⟩ := hW
  rw [hv] at hV
  obtain ⟨rfl, rfl⟩ := trodVars_none hV
  have carry : ∀ (ts : List TypeId) (vs : List Value) (ds : List (DataW H)) (p : List MemPlace), (∀ t ∈ ts, Tryd.prog.readableRec t = true ∧ t < Tryd.prog.types.size) → (∀ x ∈ p, x.block < W.heap.size) → DataW.TrodAll enc Tryd.prog W 0 (fun _ => true) true ts vs ds p →
      DataW.TrodAll enc Tryd.prog W' 0 (fun b => decide (b < W.heap.size)) true ts vs ds p := by
    intro ts
    induction ts with
    | nil =>
      intro vs ds p _ _ h
      obtain ⟨rfl, rfl, rfl⟩ := trodAll_nil h
      exact trodAll_mk0
    | cons t ts ih =>
      intro vs ds p hp hl h
      obtain ⟨v, vs, d, ds', a, b, rfl, rfl, rfl, h1, h2⟩ := trodAll_cons h
      exact trodAll_cons_mk (Below.trod laidOut (hp t (by simp)).1 (hp t (by simp)).2 h1 hb (fun x hx => hl x (by simp [hx]))) (ih _ _ _ (fun t ht => hp t (by simp [ht])) (fun x hx => hl x (by simp [hx])) h2)
  refine ⟨ds, [], p ++ [], [], p, [], hW', ?_, ?_, ?_, hb.frame _, fun h => by cases h⟩
  · rw [h1, hr]
    exact trodAll_cons_mk (shut_bool htb true) trodAll_mk0
  · rw [h2]
    exact carry _ _ _ _ hp (fun x hx => hlt x (by simp [hx])) hA
  · rw [h3, hv]
    rfl
end Go.Proofs.YtfanhllcoaondaaDoor

namespace Go.Proofs.YtfanhllcoaondaaDoor
open Go.RowKit


/-- a[:n] of a slice whose address is not known. -/
theorem addr_add_zero (a : Addr) : a.add 0 = a := by cases a with | mk b o s => cases s <;> simp [Addr.add]
theorem map_add_zero (ao : Option Addr) : ao.map (fun x => x.add 0) = ao := by cases ao <;> simp [addr_add_zero]

set_option maxHeartbeats 400000 in
theorem trim_any (ao : Option Addr) (n cap : Nat) (l : List Int) (w : World) (hn : n = l.length) (hl : n ≤ cap) (hcap : cap ≤ 9223372036854775807) (h : Rd w ao l) :
    Calls Tryd.prog 83 #[.slice ao n cap] w fun e w' => e = .returned (.slice ao (tlen l) cap) ∧ w = w' := by
  subst hn
  by_cases h0 : l = []
  · subst h0
    go_enter Tryd.func83, Tryd.ntmps83
    go_wp2
    refine wp_loop_rounds 1 ?_
    rw [rounds_succ]
    go_wp2
    go_ret
    exact ⟨rfl, rfl⟩
  · obtain ⟨b, off, rfl, hc⟩ := h.cases h0
    go_enter Tryd.func83, Tryd.ntmps83
    go_wp2
    go_loop [3] (fun n => ∃ k : Nat, k ≤ l.length ∧ n = .int .i64 k ∧ (∀ j, k ≤ j → j < l.length → l.getD j 0 = 0)) (fun n => (intOf n).toNat)
    case atStart => exact ⟨l.length, Nat.le_refl _, rfl, fun j h1 h2 => by omega⟩
    case round =>
      obtain ⟨k, hk, rfl, hz⟩ := hrel
      have hcell : 0 < k → w.cell? ⟨b, off + (k - 1), none⟩ = some (.int .u64 (l.getD (k-1) 0)) := fun _ => hc _ (by omega)
      clear hc
      have HZ := Lib.hid hz
      clear hz
      go_wp2
      · have hp : 0 < k := by assumption
        have he : (l[k - 1]?.getD 0 == 0) = true := by assumption
        go_round
        case rel =>
          refine ⟨k - 1, by omega, by go_num, ?_⟩
          intro j h1 h2
          by_cases hj : j = k - 1
          · subst hj; rw [List.getD_eq_getElem?_getD]; simpa using he
          · exact HZ.out j (by omega) h2
        case measure => simp [intOf]; omega
      · have hp : 0 < k := by assumption
        have he : (l[k - 1]?.getD 0 == 0) = false := by assumption
        go_ret
        exact ⟨by rw [tlen_eq hk HZ.out (Or.inr (by rw [List.getD_eq_getElem?_getD]; simpa using he))]; rfl, rfl⟩
      · have hp : ¬ 0 < k := by assumption
        go_ret
        exact ⟨by rw [tlen_eq hk HZ.out (Or.inl (by omega))]; rfl, rfl⟩


/-- The model's own entry for math/bits.Sub64. -/
def sub64Entry : Array Value → Sem Value := fun args => do
  let (x, y, b) ← Extern.MathBitsCarry.three "Sub64" args
  pure (Extern.MathBitsCarry.pair ((x + Extern.MathBitsCarry.m64 - y - b) % Extern.MathBitsCarry.m64) (if x < y + b then 1 else 0))

theorem add64_run (x y c : Int) (hx : 0 ≤ x ∧ x < B64) (hy : 0 ≤ y ∧ y < B64) (hc : 0 ≤ c ∧ c ≤ 1) (w : World) :
    (callFunc 106 #[.int .u64 x, .int .u64 y, .int .u64 c]).run Tryd.prog w = .ok (.value (.tuple #[.int .u64 (lo64 (x + y + c)), .int .u64 (hi64 (x + y + c))])) w := by
  rw [run_callFunc_extern Tryd.func106 (by kernel_rfl) (by kernel_rfl) (by kernel_rfl) (e := add64Entry) (by kernel_rfl), run_add64 x y c hx.1 hy.1 hc.1 hc.2]
  rfl

theorem sub64_run (x y c : Int) (hx : 0 ≤ x ∧ x < B64) (hy : 0 ≤ y ∧ y < B64) (hc : 0 ≤ c ∧ c ≤ 1) (w : World) :
    (callFunc 116 #[.int .u64 x, .int .u64 y, .int .u64 c]).run Tryd.prog w = .ok (.value (.tuple #[.int .u64 (lo64 (x - y - c)), .int .u64 (bo64 (x - y - c))])) w := by
  rw [run_callFunc_extern Tryd.func116 (by kernel_rfl) (by kernel_rfl) (by kernel_rfl) (e := sub64Entry) (by kernel_rfl)]
  obtain ⟨x, rfl⟩ := Int.eq_ofNat_of_zero_le hx.1
  obtain ⟨y, rfl⟩ := Int.eq_ofNat_of_zero_le hy.1
  obtain ⟨c, rfl⟩ := Int.eq_ofNat_of_zero_le hc.1
  have e1 : lo64 ((x : Int) - y - c) = (((x + 18446744073709551616 - y - c) % 18446744073709551616 : Nat) : Int) := by unfold lo64; unfold B64 at hx hy; omega
  have e2 : bo64 ((x : Int) - y - c) = ((if x < y + c then 1 else 0 : Nat) : Int) := by unfold bo64; unfold B64 at hx hy; split <;> omega
  have : c = 0 ∨ c = 1 := by omega
  rw [e1, e2]
  rcases this with rfl | rfl <;> rfl

/-- What is left where a function has written the number N into the n words at b, off. -/
def InPl (b off n : Nat) (N : Int) (w w' : World) : Prop := ∃ l : List Int, l.length = n ∧ Lim B64 l ∧ Arr w' b off l ∧ vb B64 l = N ∧ Only b off (off + n) w w'

set_option maxHeartbeats 1000000 in
theorem addTo_any (b off n cap : Nat) (lo : List Int) (ax : Option Addr) (nx cx : Nat) (lx : List Int) (w : World) (hn : n = lo.length) (hnx : nx = lx.length)
    (hc1 : n ≤ cap) (hc2 : cap ≤ 9223372036854775807) (_hc3 : nx ≤ cx) (_hc4 : cx ≤ 9223372036854775807) (ha : Arr w b off lo) (hx : Rd w ax lx) (hne : lx ≠ [] → ∀ b' off', ax = some ⟨b', off', none⟩ → b' ≠ b)
    (hll : Lim B64 lo) (hlx : Lim B64 lx) (hfit : vb B64 lo + vb B64 lx < B64 ^ n) (hlen : nx ≤ n) :
    Calls Tryd.prog 89 #[.slice (some ⟨b, off, none⟩) n cap, .slice ax nx cx] w fun e w' => e = .returned (.tuple #[]) ∧ InPl b off n (vb B64 lo + vb B64 lx) w w' := by
  have HF := Lib.hid hfit
  have HN := Lib.hid hn
  have HX := Lib.hid hnx
  clear hfit hn hnx
  go_enter Tryd.func89, Tryd.ntmps89
  go_wp2
  go_loopw [4, 10] (fun c i wr => ∃ (k : Nat) (c' : Int) (l : List Int), k ≤ nx ∧ i = .int .i64 k ∧ c = .int .u64 c' ∧ 0 ≤ c' ∧ c' ≤ 1 ∧ Hid (l.length = n) ∧ Lim B64 l ∧ Arr wr b off l ∧ Only b off (off + n) w wr ∧ Hid (vb B64 l + B64 ^ k * c' = vb B64 lo + vb B64 (lx.take k)))
    (fun _ i _ => nx - (intOf i).toNat)
  case atStart => exact ⟨0, 0, lo, Nat.zero_le _, rfl, rfl, Int.le_refl _, by decide, HN.out.symm, hll, ha, Only.refl _ _ _ _, by simp [Hid]⟩
  case round =>
    obtain ⟨k, c, l, hk, rfl, rfl, hc0, hc5, HL, hlim, harr, honly, HV⟩ := hrel
    by_cases hlt : k < nx
    · have hlx0 : lx ≠ [] := by intro e; subst e; have := HX.out; simp at this; omega
      obtain ⟨b', off', rfl, hat⟩ := hx.cases hlx0
      have hne' := hne hlx0 b' off' rfl
      obtain ⟨x, hxe⟩ : ∃ x, x = lx.getD k 0 := ⟨_, rfl⟩
      obtain ⟨y, hye⟩ : ∃ y, y = l.getD k 0 := ⟨_, rfl⟩
      have hcx : wr.cell? ⟨b', off' + k, none⟩ = some (.int .u64 x) := by rw [hxe]; exact honly.at' hat hne' k (by rw [← HX.out]; exact hlt)
      have hcy : wr.cell? ⟨b, off + k, none⟩ = some (.int .u64 y) := by rw [hye]; exact harr.at' k (by rw [HL.out]; omega)
      have hfr := harr.frozen (off + k)
      have bx : 0 ≤ x ∧ x < B64 := by rw [hxe]; exact hlx.getD B64_pos k
      have by' : 0 ≤ y ∧ y < B64 := by rw [hye]; exact hlim.getD B64_pos k
      have cb := hi64_carry by' bx ⟨hc0, hc5⟩
      have HXE := Lib.hid hxe
      have HYE := Lib.hid hye
      clear hxe hye
      go_wp2_with (simp only [add64_run y x c by' bx ⟨hc0, hc5⟩])
      go_roundw
      case rel =>
        refine ⟨k + 1, _, l.set k (lo64 (y + x + c)), by omega, by go_num, rfl, cb.1, cb.2, ?_, hlim.set k (lo64_lim _).1 (lo64_lim _).2, harr.store k _, honly.trans (Only.store _ _ (by omega) (by omega)), ?_⟩
        · show _ = _
          rw [List.length_set]; exact HL.out
        · have hlk : k < l.length := by rw [HL.out]; omega
          have := add_step (x := x) hlk HV.out
          rw [← HYE.out] at this
          show _ = _
          rw [this, vb_take_succ _ (by rw [← HX.out]; exact hlt), ← HXE.out, Int.add_assoc]
      case measure => simp [intOf]; omega
    · have hkn : k = nx := by omega
      have hV2 : vb B64 l + B64 ^ nx * c = vb B64 lo + vb B64 lx := by
        have := HV.out
        rw [hkn, List.take_of_length_le (by rw [← HX.out]; omega)] at this
        exact this
      have HV2 := Lib.hid hV2
      clear hV2 HV hkn
      go_wp2
      go_loopw [4, 7] (fun c i wr2 => ∃ (k : Nat) (c' : Int) (l : List Int), k ≤ n ∧ i = .int .i64 k ∧ c = .int .u64 c' ∧ 0 ≤ c' ∧ c' ≤ 1 ∧ Hid (l.length = n) ∧ Lim B64 l ∧ Arr wr2 b off l ∧ Only b off (off + n) w wr2 ∧ Hid (vb B64 l + B64 ^ k * c' = vb B64 lo + vb B64 lx))
        (fun _ i _ => n - (intOf i).toNat)
      case atStart => exact ⟨nx, c, l, hlen, rfl, rfl, hc0, hc5, HL, hlim, harr, honly, HV2⟩
      case round =>
        clear HL hlim harr honly HV2 hc0 hc5 hlt hk
        obtain ⟨k, c, l, hk, rfl, rfl, hc0, hc5, HL, hlim, harr, honly, HV⟩ := hrel
        by_cases hlt : 0 < c
        · have hkn : k < n := by
            have := carry_room hlim hlt HV.out (by rw [HL.out]; exact HF.out)
            rwa [HL.out] at this
          obtain ⟨y, hye⟩ : ∃ y, y = l.getD k 0 := ⟨_, rfl⟩
          have hcy : wr.cell? ⟨b, off + k, none⟩ = some (.int .u64 y) := by rw [hye]; exact harr.at' k (by rw [HL.out]; omega)
          have hfr := harr.frozen (off + k)
          have by' : 0 ≤ y ∧ y < B64 := by rw [hye]; exact hlim.getD B64_pos k
          have bx : (0 : Int) ≤ 0 ∧ (0 : Int) < B64 := by decide
          have cb := hi64_carry by' bx ⟨hc0, hc5⟩
          rw [Int.add_zero] at cb
          have HYE := Lib.hid hye
          clear hye
          go_wp2_with (simp only [add64_run y 0 c by' bx ⟨hc0, hc5⟩])
          go_roundw
          case rel =>
            refine ⟨k + 1, _, l.set k (lo64 (y + c)), by omega, by go_num, rfl, cb.1, cb.2, ?_, hlim.set k (lo64_lim _).1 (lo64_lim _).2, harr.store k _, honly.trans (Only.store _ _ (by omega) (by omega)), ?_⟩
            · show _ = _
              rw [List.length_set]; exact HL.out
            · have hlk : k < l.length := by rw [HL.out]; omega
              have := add_step (x := 0) hlk HV.out
              rw [← HYE.out, Int.add_zero, Int.mul_zero, Int.add_zero] at this
              exact this
          case measure => simp [intOf]; omega
        · have hc : c = 0 := by omega
          go_wp2
          go_end0
          refine ⟨rfl, l, HL.out, hlim, harr, ?_, honly⟩
          have := HV.out
          rw [hc, Int.mul_zero, Int.add_zero] at this
          exact this
set_option maxHeartbeats 1000000 in
theorem subFrom_any (b off n cap : Nat) (lo : List Int) (ax : Option Addr) (nx cx : Nat) (lx : List Int) (w : World) (hn : n = lo.length) (hnx : nx = lx.length)
    (hc1 : n ≤ cap) (hc2 : cap ≤ 9223372036854775807) (_hc3 : nx ≤ cx) (_hc4 : cx ≤ 9223372036854775807) (ha : Arr w b off lo) (hx : Rd w ax lx) (hne : lx ≠ [] → ∀ b' off', ax = some ⟨b', off', none⟩ → b' ≠ b)
    (hll : Lim B64 lo) (hlx : Lim B64 lx) (hfit : vb B64 lx ≤ vb B64 lo) (hlen : nx ≤ n) :
    Calls Tryd.prog 107 #[.slice (some ⟨b, off, none⟩) n cap, .slice ax nx cx] w fun e w' => e = .returned (.tuple #[]) ∧ InPl b off n (vb B64 lo - vb B64 lx) w w' := by
  have HF := Lib.hid hfit
  have HN := Lib.hid hn
  have HX := Lib.hid hnx
  clear hfit hn hnx
  go_enter Tryd.func107, Tryd.ntmps107
  go_wp2
  go_loopw [4, 10] (fun c i wr => ∃ (k : Nat) (c' : Int) (l : List Int), k ≤ nx ∧ i = .int .i64 k ∧ c = .int .u64 c' ∧ 0 ≤ c' ∧ c' ≤ 1 ∧ Hid (l.length = n) ∧ Lim B64 l ∧ Arr wr b off l ∧ Only b off (off + n) w wr ∧ Hid (vb B64 l - B64 ^ k * c' = vb B64 lo - vb B64 (lx.take k)))
    (fun _ i _ => nx - (intOf i).toNat)
  case atStart => exact ⟨0, 0, lo, Nat.zero_le _, rfl, rfl, Int.le_refl _, by decide, HN.out.symm, hll, ha, Only.refl _ _ _ _, by simp [Hid]⟩
  case round =>
    obtain ⟨k, c, l, hk, rfl, rfl, hc0, hc5, HL, hlim, harr, honly, HV⟩ := hrel
    by_cases hlt : k < nx
    · have hlx0 : lx ≠ [] := by intro e; subst e; have := HX.out; simp at this; omega
      obtain ⟨b', off', rfl, hat⟩ := hx.cases hlx0
      have hne' := hne hlx0 b' off' rfl
      obtain ⟨x, hxe⟩ : ∃ x, x = lx.getD k 0 := ⟨_, rfl⟩
      obtain ⟨y, hye⟩ : ∃ y, y = l.getD k 0 := ⟨_, rfl⟩
      have hcx : wr.cell? ⟨b', off' + k, none⟩ = some (.int .u64 x) := by rw [hxe]; exact honly.at' hat hne' k (by rw [← HX.out]; exact hlt)
      have hcy : wr.cell? ⟨b, off + k, none⟩ = some (.int .u64 y) := by rw [hye]; exact harr.at' k (by rw [HL.out]; omega)
      have hfr := harr.frozen (off + k)
      have bx : 0 ≤ x ∧ x < B64 := by rw [hxe]; exact hlx.getD B64_pos k
      have by' : 0 ≤ y ∧ y < B64 := by rw [hye]; exact hlim.getD B64_pos k
      have cb := bo64_carry by' bx ⟨hc0, hc5⟩
      have HXE := Lib.hid hxe
      have HYE := Lib.hid hye
      clear hxe hye
      go_wp2_with (simp only [sub64_run y x c by' bx ⟨hc0, hc5⟩])
      go_roundw
      case rel =>
        refine ⟨k + 1, _, l.set k (lo64 (y - x - c)), by omega, by go_num, rfl, cb.1, cb.2, ?_, hlim.set k (lo64_lim _).1 (lo64_lim _).2, harr.store k _, honly.trans (Only.store _ _ (by omega) (by omega)), ?_⟩
        · show _ = _
          rw [List.length_set]; exact HL.out
        · have hlk : k < l.length := by rw [HL.out]; omega
          have := sub_step (x := x) hlk HV.out
          rw [← HYE.out] at this
          show _ = _
          rw [this, vb_take_succ _ (by rw [← HX.out]; exact hlt), ← HXE.out]; omega
      case measure => simp [intOf]; omega
    · have hkn : k = nx := by omega
      have hV2 : vb B64 l - B64 ^ nx * c = vb B64 lo - vb B64 lx := by
        have := HV.out
        rw [hkn, List.take_of_length_le (by rw [← HX.out]; omega)] at this
        exact this
      have HV2 := Lib.hid hV2
      clear hV2 HV hkn
      go_wp2
      go_loopw [4, 7] (fun c i wr2 => ∃ (k : Nat) (c' : Int) (l : List Int), k ≤ n ∧ i = .int .i64 k ∧ c = .int .u64 c' ∧ 0 ≤ c' ∧ c' ≤ 1 ∧ Hid (l.length = n) ∧ Lim B64 l ∧ Arr wr2 b off l ∧ Only b off (off + n) w wr2 ∧ Hid (vb B64 l - B64 ^ k * c' = vb B64 lo - vb B64 lx))
        (fun _ i _ => n - (intOf i).toNat)
      case atStart => exact ⟨nx, c, l, hlen, rfl, rfl, hc0, hc5, HL, hlim, harr, honly, HV2⟩
      case round =>
        clear HL hlim harr honly HV2 hc0 hc5 hlt hk
        obtain ⟨k, c, l, hk, rfl, rfl, hc0, hc5, HL, hlim, harr, honly, HV⟩ := hrel
        by_cases hlt : 0 < c
        · have hkn : k < n := by
            have := borrow_room hlim hlt HV.out (by have := HF.out; omega)
            rwa [HL.out] at this
          obtain ⟨y, hye⟩ : ∃ y, y = l.getD k 0 := ⟨_, rfl⟩
          have hcy : wr.cell? ⟨b, off + k, none⟩ = some (.int .u64 y) := by rw [hye]; exact harr.at' k (by rw [HL.out]; omega)
          have hfr := harr.frozen (off + k)
          have by' : 0 ≤ y ∧ y < B64 := by rw [hye]; exact hlim.getD B64_pos k
          have bx : (0 : Int) ≤ 0 ∧ (0 : Int) < B64 := by decide
          have cb := bo64_carry by' bx ⟨hc0, hc5⟩
          rw [Int.sub_zero] at cb
          have HYE := Lib.hid hye
          clear hye
          go_wp2_with (simp only [sub64_run y 0 c by' bx ⟨hc0, hc5⟩])
          go_roundw
          case rel =>
            refine ⟨k + 1, _, l.set k (lo64 (y - c)), by omega, by go_num, rfl, cb.1, cb.2, ?_, hlim.set k (lo64_lim _).1 (lo64_lim _).2, harr.store k _, honly.trans (Only.store _ _ (by omega) (by omega)), ?_⟩
            · show _ = _
              rw [List.length_set]; exact HL.out
            · have hlk : k < l.length := by rw [HL.out]; omega
              have := sub_step (x := 0) hlk HV.out
              rw [← HYE.out, Int.sub_zero, Int.mul_zero, Int.sub_zero] at this
              exact this
          case measure => simp [intOf]; omega
        · have hc : c = 0 := by omega
          go_wp2
          go_end0
          refine ⟨rfl, l, HL.out, hlim, harr, ?_, honly⟩
          have := HV.out
          rw [hc, Int.mul_zero, Int.sub_zero] at this
          exact this

end Go.Proofs.YtfanhllcoaondaaDoor

namespace Go.Proofs.YtfanhllcoaondaaDoor
open Go.RowKit

theorem info_u64 : (Tryd.prog.info? 56).map (fun i => (i.zero, i.size, i.bytes)) = some (some (.int .u64 0), 1, 8) := by kernel_rfl

set_option maxRecDepth 100000 in
set_option maxHeartbeats 1000000 in
theorem of_any (ao : Option Addr) (n cap : Nat) (l : List Int) (w : World) (hn : n = l.length) (hl : n ≤ cap) (hcap : cap ≤ 9223372036854775807) (h : Rd w ao l) (hb : n ≤ MaxW) :
    Calls Tryd.prog 52 #[.slice ao n cap] w fun e w' => RetOw w (tr l) e w' := by
  have hk := tlen_le l
  have hk2 : tlen l ≤ n := by omega
  have HN := Lib.hid hn
  clear hn hk
  have hr : Rd w ao (tr l) := h.take _
  have hlen := Lib.hid (tr_length l)
  by_cases h0 : tlen l = 0
  · have h0' : (((tlen l : Nat) : Int) == 0) = true := by simp [h0]
    have H0 := Lib.hid h0
    clear h0
    go_enter Tryd.func52, Tryd.ntmps52
    go_wp2_with (go_at_call 83; refine (trim_any ao n cap l w HN.out hl hcap h).mono ?_; rintro e w' ⟨rfl, rfl⟩)
    go_ret
    refine ⟨_, rfl, ?_, Below.refl _ _⟩
    have : tr l = [] := List.eq_nil_of_length_eq_zero (by rw [hlen.out]; exact H0.out)
    rw [this]
    exact Ow.nil _ _
  · have h0' : (((tlen l : Nat) : Int) == 0) = false := by simp; omega
    go_enter Tryd.func52, Tryd.ntmps52
    go_wp2_with (first
      | (go_at_call 83; refine (trim_any ao n cap l w HN.out hl hcap h).mono ?_; rintro e w' ⟨rfl, rfl⟩)
      | (at_make; refine wpList_make_words w rfl (.tmp 11) (.tmp 11) 26 rfl Tryd.underlying26 info_u64 _ _ (tlen l) rfl rfl rfl rfl (by omega) ?_; intro w1 hw1 hb1 hs1)
      | (with_reducible refine wpList_copy_words rfl (.tmp 13) (.tmp 14) 26 26 rfl Tryd.underlying26 info_u64 w.heap.size 0 (tlen l) (tlen l) ao (tlen l) cap rfl rfl (List.replicate (tlen l) 0) (tr l) List.length_replicate hlen.out (by assumption : Ow _ _ _ _).arr.1 (hr.below (by assumption)) ?_; intro w2 ha2 ho2))
    go_ret
    have ho := (by assumption : Ow w.heap.size _ _ (List.replicate (tlen l) 0))
    have e : List.take (tlen l) (tr l) ++ List.drop (tlen l) (List.replicate (tlen l) 0) = tr l := by
      rw [List.take_of_length_le (by rw [hlen.out]; omega), List.drop_of_length_le (by rw [List.length_replicate]; omega), List.append_nil]
    have ha := (by assumption : Arr _ w.heap.size 0 (List.take (tlen l) (tr l) ++ _))
    rw [e] at ha
    have hO := (by assumption : Only w.heap.size 0 (0 + tlen l) _ _)
    exact ⟨_, rfl, ho.only hO ha (by rw [hlen.out, List.length_replicate]), (by assumption : Below w.heap.size w _).trans (hO.below (Nat.le_refl _) (by have := (by assumption : Below w.heap.size w _).size; omega))⟩
/-- A function has returned v and turned nothing that was there. -/
def RetV (w : World) (v : Value) (e : Ending) (w' : World) : Prop := e = .returned v ∧ Below w.heap.size w w'

set_option maxRecDepth 100000 in
set_option maxHeartbeats 1000000 in
/-- nat.Cmp of two numbers of the same count of words, behind trim. -/
theorem cmp_any (ax : Option Addr) (nx cx : Nat) (lx : List Int) (ay : Option Addr) (ny cy : Nat) (ly : List Int) (w : World) (hnx : nx = lx.length) (hny : ny = ly.length) (h1 : nx ≤ cx) (h2 : cx ≤ 9223372036854775807) (h3 : ny ≤ cy) (h4 : cy ≤ 9223372036854775807)
    (hx : Rd w ax lx) (hy : Rd w ay ly) (hlx : Lim B64 lx) (hly : Lim B64 ly) :
    Calls Tryd.prog 58 #[.slice ax nx cx, .slice ay ny cy] w fun e w' => RetV w (.int .i64 (cmpI (vb B64 lx) (vb B64 ly))) e w' := by
  have kx := tlen_le lx
  have ky := tlen_le ly
  have kx2 : tlen lx ≤ cx := by omega
  have ky2 : tlen ly ≤ cy := by omega
  have HX := Lib.hid hnx
  have HY := Lib.hid hny
  clear hnx hny kx ky
  have lenx := Lib.hid (tr_length lx)
  have leny := Lib.hid (tr_length ly)
  have canx : Can B64 (tr lx) := can_tr hlx
  have cany : Can B64 (tr ly) := can_tr hly
  have rx : Rd w ax (tr lx) := hx.take _
  have ry : Rd w ay (tr ly) := hy.take _
  rw [← vb_tr B64 lx, ← vb_tr B64 ly]
  rcases Nat.lt_trichotomy (tlen lx) (tlen ly) with hlt | heq | hgt
  · have hv : cmpI (vb B64 (tr lx)) (vb B64 (tr ly)) = -1 := cmpI_lt (can_lt_of_length B64_pos canx.lim cany (by rw [lenx.out, leny.out]; exact hlt))
    rw [hv]
    clear hv
    go_enter Tryd.func58, Tryd.ntmps58
    go_wp2_with (first | (go_at_call_of 83 (Value.slice ax nx cx); refine (trim_any ax nx cx lx _ HX.out h1 h2 hx).mono ?_; rintro e w' ⟨rfl, rfl⟩) | (go_at_call_of 83 (Value.slice ay ny cy); refine (trim_any ay ny cy ly _ HY.out h3 h4 hy).mono ?_; rintro e w' ⟨rfl, rfl⟩))
    go_ret
    exact ⟨rfl, Below.refl _ _⟩
  · obtain ⟨n, hn⟩ : ∃ n, n = tlen lx := ⟨_, rfl⟩
    rw [← hn] at lenx kx2 heq
    rw [← heq] at leny ky2
    have hn2 : tlen ly = n := heq.symm
    have HN := Lib.hid hn
    have HN2 := Lib.hid hn2
    clear hn hn2 heq
    obtain ⟨tx, htx⟩ : ∃ t, t = tr lx := ⟨_, rfl⟩
    obtain ⟨ty, hty⟩ : ∃ t, t = tr ly := ⟨_, rfl⟩
    rw [← htx] at lenx canx rx
    rw [← hty] at leny cany ry
    rw [← htx, ← hty]
    clear htx hty
    go_enter Tryd.func58, Tryd.ntmps58
    go_wp2_with (first | (go_at_call_of 83 (Value.slice ax nx cx); refine (trim_any ax nx cx lx _ HX.out h1 h2 hx).mono ?_; rintro e w' ⟨rfl, rfl⟩; rw [← HN.out]) | (go_at_call_of 83 (Value.slice ay ny cy); refine (trim_any ay ny cy ly _ HY.out h3 h4 hy).mono ?_; rintro e w' ⟨rfl, rfl⟩; rw [HN2.out]))
    go_loopw [5] (fun i wr => ∃ k : Nat, k ≤ n ∧ i = .int .i64 ((k : Int) - 1) ∧ Below w.heap.size w wr ∧ Hid (∀ j, k ≤ j → j < n → tx.getD j 0 = ty.getD j 0)) (fun i _ => ((intOf i) + 1).toNat)
    case atStart => exact ⟨n, Nat.le_refl _, rfl, Below.refl _ _, fun j a b => by omega⟩
    case round =>
      obtain ⟨k, hk, rfl, hb, HE⟩ := hrel
      by_cases hk0 : k = 0
      · subst hk0
        have hv : cmpI (vb B64 tx) (vb B64 ty) = 0 := by
          refine cmpI_eq ?_
          have : tx = ty := by
            apply List.ext_getElem?
            intro j
            by_cases hj : j < n
            · have := HE.out j (Nat.zero_le _) hj
              rw [List.getElem?_eq_getElem (by rw [lenx.out]; exact hj), List.getElem?_eq_getElem (by rw [leny.out]; exact hj)]
              rw [List.getD_eq_getElem?_getD, List.getD_eq_getElem?_getD, List.getElem?_eq_getElem (by rw [lenx.out]; exact hj), List.getElem?_eq_getElem (by rw [leny.out]; exact hj)] at this
              simpa using this
            · rw [List.getElem?_eq_none (by rw [lenx.out]; omega), List.getElem?_eq_none (by rw [leny.out]; omega)]
          rw [this]
        have HV := Lib.hid hv
        clear hv
        go_wp2
        go_ret
        exact ⟨by rw [HV.out]; rfl, hb⟩
      · obtain ⟨m, rfl⟩ : ∃ m, k = m + 1 := ⟨k - 1, by omega⟩
        have hm : m < n := by omega
        obtain ⟨x, hxe⟩ : ∃ x, x = tx.getD m 0 := ⟨_, rfl⟩
        obtain ⟨y, hye⟩ : ∃ y, y = ty.getD m 0 := ⟨_, rfl⟩
        have nex : tx ≠ [] := by intro e; subst e; have := lenx.out; simp at this; omega
        have ney : ty ≠ [] := by intro e; subst e; have := leny.out; simp at this; omega
        obtain ⟨bx, ox, rfl, atx⟩ := rx.cases nex
        obtain ⟨bY, oY, rfl, aty⟩ := ry.cases ney
        have hcx : wr.cell? ⟨bx, ox + m, none⟩ = some (.int .u64 x) := by rw [hxe]; exact atx.below hb m (by rw [lenx.out]; exact hm)
        have hcy : wr.cell? ⟨bY, oY + m, none⟩ = some (.int .u64 y) := by rw [hye]; exact aty.below hb m (by rw [leny.out]; exact hm)
        have e0 : (((m + 1 : Nat) : Int) - 1) = (m : Int) := by omega
        rw [e0]
        have XE := Lib.hid hxe
        have YE := Lib.hid hye
        clear hxe hye e0
        have HE' : ∀ j, m < j → j < tx.length → tx.getD j 0 = ty.getD j 0 := fun j a b => HE.out j (by omega) (by rw [← lenx.out]; exact b)
        have hmx : m < tx.length := by rw [lenx.out]; exact hm
        have hl2 : tx.length = ty.length := by rw [lenx.out, leny.out]
        rcases Int.lt_trichotomy x y with hlt | heq | hgt
        · have hv : cmpI (vb B64 tx) (vb B64 ty) = -1 := cmpI_lt (lt_of_digit B64_pos canx.lim cany.lim hl2 hmx HE' (by rw [← XE.out, ← YE.out]; exact hlt))
          have HV := Lib.hid hv
          clear hv HE' hmx hl2
          have hd : decide (x < y) = true := by simpa using hlt
          go_wp2
          go_quiet (fail)
          go_wp2
          go_ret
          exact ⟨by rw [HV.out]; rfl, bdn hb _⟩
        · subst heq
          clear HE' hmx hl2
          have hd : decide (x < x) = false := by simp
          go_wp2
          go_quiet (fail)
          go_wp2
          go_quiet (fail)
          go_wp2
          go_roundw
          case rel =>
            refine ⟨m, by omega, by go_num, bdn hb _, ?_⟩
            intro j h1 h2
            by_cases hj : j = m
            · subst hj; rw [← XE.out, ← YE.out]
            · exact HE.out j (by omega) h2
          case measure => simp [intOf]
        · have hv : cmpI (vb B64 tx) (vb B64 ty) = 1 := cmpI_gt (lt_of_digit B64_pos cany.lim canx.lim hl2.symm (by rw [← hl2]; exact hmx) (fun j a b => (HE' j a (by rw [hl2]; exact b)).symm) (by rw [← XE.out, ← YE.out]; exact hgt))
          have HV := Lib.hid hv
          clear hv HE' hmx hl2
          have hd : decide (x < y) = false := by simp; omega
          have hd2 : decide (y < x) = true := by simpa using hgt
          go_wp2
          go_quiet (fail)
          go_wp2
          go_quiet (fail)
          go_wp2
          go_ret
          exact ⟨by rw [HV.out]; rfl, bdn (bdn hb _) _⟩
  · have hv : cmpI (vb B64 (tr lx)) (vb B64 (tr ly)) = 1 := cmpI_gt (can_lt_of_length B64_pos cany.lim canx (by rw [lenx.out, leny.out]; exact hgt))
    rw [hv]
    clear hv
    go_enter Tryd.func58, Tryd.ntmps58
    go_wp2_with (first | (go_at_call_of 83 (Value.slice ax nx cx); refine (trim_any ax nx cx lx _ HX.out h1 h2 hx).mono ?_; rintro e w' ⟨rfl, rfl⟩) | (go_at_call_of 83 (Value.slice ay ny cy); refine (trim_any ay ny cy ly _ HY.out h3 h4 hy).mono ?_; rintro e w' ⟨rfl, rfl⟩))
    go_ret
    exact ⟨rfl, Below.refl _ _⟩
theorem RetV.elim {w : World} {v : Value} {e : Ending} {w' : World} (h : RetV w v e w') : e = .returned v ∧ Below w.heap.size w w' := h

set_option maxRecDepth 100000 in
/-- Nothing is taken from whatever it is. -/
theorem subFrom_zero (v : Value) (ax : Option Addr) (cx : Nat) (w : World) :
    Calls Tryd.prog 107 #[v, .slice ax 0 cx] w fun e w' => e = .returned (.tuple #[]) ∧ w = w' := by
  go_enter Tryd.func107, Tryd.ntmps107
  go_wp2
  refine wp_loop_rounds 1 ?_
  rw [rounds_succ]
  go_wp2
  refine wp_loop_rounds 1 ?_
  rw [rounds_succ]
  go_wp2
  go_end0
  exact ⟨rfl, rfl⟩
set_option maxRecDepth 100000 in
/-- Nothing is added to whatever it is. -/
theorem addTo_zero (v : Value) (ax : Option Addr) (cx : Nat) (w : World) :
    Calls Tryd.prog 89 #[v, .slice ax 0 cx] w fun e w' => e = .returned (.tuple #[]) ∧ w = w' := by
  go_enter Tryd.func89, Tryd.ntmps89
  go_wp2
  refine wp_loop_rounds 1 ?_
  rw [rounds_succ]
  go_wp2
  refine wp_loop_rounds 1 ?_
  rw [rounds_succ]
  go_wp2
  go_end0
  exact ⟨rfl, rfl⟩

/-- What nat.Sub leaves where the second number is not greater. -/
def RetSub (w : World) (N : Int) (e : Ending) (w' : World) : Prop := ∃ v l, e = .returned (.tuple #[v, .bool true]) ∧ Ow w.heap.size w' v l ∧ Can B64 l ∧ vb B64 l = N ∧ Below w.heap.size w w'
def RetNo (w : World) (e : Ending) (w' : World) : Prop := e = .returned (.tuple #[.slice none 0 0, .bool false]) ∧ Below w.heap.size w w'

set_option maxRecDepth 100000 in
set_option maxHeartbeats 1000000 in
theorem sub_no (ax : Option Addr) (nx cx : Nat) (lx : List Int) (ay : Option Addr) (ny cy : Nat) (ly : List Int) (w : World) (hnx : nx = lx.length) (hny : ny = ly.length) (h1 : nx ≤ cx) (h2 : cx ≤ 9223372036854775807) (h3 : ny ≤ cy) (h4 : cy ≤ 9223372036854775807)
    (hx : Rd w ax lx) (hy : Rd w ay ly) (hlx : Lim B64 lx) (hly : Lim B64 ly) (hlt : vb B64 lx < vb B64 ly) :
    Calls Tryd.prog 93 #[.slice ax nx cx, .slice ay ny cy] w fun e w' => RetNo w e w' := by
  have hc := cmp_any ax nx cx lx ay ny cy ly w hnx hny h1 h2 h3 h4 hx hy hlx hly
  rw [cmpI_lt hlt] at hc
  clear hlt hnx hny
  have HC := Lib.hid hc
  clear hc
  go_enter Tryd.func93, Tryd.ntmps93
  go_wp2_with fail
  refine HC.out.mono ?_
  rintro e w1 ⟨rfl, hb⟩
  go_wp2_with fail
  go_ret2
  exact ⟨rfl, hb⟩

theorem Ow.cases {base : Nat} {w : World} {v : Value} {l : List Int} (h : Ow base w v l) : (v = .slice none 0 0 ∧ l = []) ∨ ∃ g cap, v = .slice (some ⟨g, 0, none⟩) l.length cap ∧ base ≤ g ∧ l.length ≤ cap ∧ cap ≤ 9223372036854775807 ∧ Arr w g 0 l := by
  have h' := h
  obtain ⟨h1, h2⟩ := h
  rcases h2 with ⟨rfl, h0⟩ | ⟨g, cap, cur, rfl, hg, hh, hn, hm, hc, ht⟩
  · exact Or.inl ⟨rfl, List.eq_nil_of_length_eq_zero h0⟩
  · exact Or.inr ⟨g, cap, rfl, hg, hn, by simpa [maxLen] using hm, h'.arr.1⟩

theorem can_len_le {l m : List Int} (hl : Can B64 l) (hm : Can B64 m) (h : vb B64 l ≤ vb B64 m) : l.length ≤ m.length := by
  rcases Nat.lt_or_ge m.length l.length with h1 | h1
  · have := can_lt_of_length B64_pos hm.lim hl h1; omega
  · exact h1

set_option maxRecDepth 100000 in
set_option maxHeartbeats 1000000 in
theorem sub_yes (ax : Option Addr) (nx cx : Nat) (lx : List Int) (ay : Option Addr) (ny cy : Nat) (ly : List Int) (w : World) (hnx : nx = lx.length) (hny : ny = ly.length) (h1 : nx ≤ cx) (h2 : cx ≤ 9223372036854775807) (h3 : ny ≤ cy) (h4 : cy ≤ 9223372036854775807)
    (hx : Rd w ax lx) (hy : Rd w ay ly) (hlx : Lim B64 lx) (hly : Lim B64 ly) (hlt : vb B64 ly ≤ vb B64 lx) (hM : nx ≤ MaxW) :
    Calls Tryd.prog 93 #[.slice ax nx cx, .slice ay ny cy] w fun e w' => RetSub w (vb B64 lx - vb B64 ly) e w' := by
  have hc := cmp_any ax nx cx lx ay ny cy ly w hnx hny h1 h2 h3 h4 hx hy hlx hly
  have HC := Lib.hid hc
  have HX := Lib.hid hnx
  have HY := Lib.hid hny
  have hd : (decide (cmpI (vb B64 lx) (vb B64 ly) < 0)) = false := by
    rcases Int.lt_or_eq_of_le hlt with h | h
    · rw [cmpI_gt h]; rfl
    · rw [cmpI_eq h.symm]; rfl
  have kx := tlen_le lx
  have ky := tlen_le ly
  have kle : tlen ly ≤ tlen lx := by
    rw [← tr_length, ← tr_length]
    exact can_len_le (can_tr hly) (can_tr hlx) (by rw [vb_tr, vb_tr]; exact hlt)
  have kyc : tlen ly ≤ cy := by omega
  have ky3 := Lib.hid ky
  clear hc hnx hny kx ky
  go_enter Tryd.func93, Tryd.ntmps93
  go_wp2_with fail
  refine HC.out.mono ?_
  rintro e w1 ⟨rfl, hb1⟩
  go_wp2_with fail
  refine (of_any ax nx cx lx w1 HX.out h1 h2 (hx.below hb1) hM).mono ?_
  rintro e w2 ⟨v, rfl, hO, hb2⟩
  have hy2 := (hy.below hb1).below hb2
  have hbb : Below w.heap.size w w2 := hb1.trans (hb2.mono hb1.size)
  rcases hO.cases with ⟨rfl, h0⟩ | ⟨g, cap, rfl, hg, hc1, hc2, harr⟩
  · have hz : tlen lx = 0 := by rw [← tr_length, h0]; rfl
    have hz2 : tlen ly = 0 := by omega
    have hN : vb B64 lx - vb B64 ly = 0 := by
      rw [← vb_tr B64 lx, ← vb_tr B64 ly, h0, show tr ly = [] from List.eq_nil_of_length_eq_zero (by rw [tr_length]; exact hz2)]; rfl
    have HZ2 := Lib.hid hz2
    have HNN := Lib.hid hN
    clear hz hz2 h0 hN hd
    go_wp2_with fail
    refine (trim_any ay ny cy ly w2 HY.out h3 h4 hy2).mono ?_
    rintro e w' ⟨rfl, rfl⟩
    rw [HZ2.out]
    go_wp2_with fail
    refine (subFrom_zero _ ay cy w2).mono ?_
    rintro e w' ⟨rfl, rfl⟩
    go_wp2_with fail
    refine (trim_any none 0 0 [] w2 rfl (Nat.le_refl _) (by omega) (Rd.nil _ _)).mono ?_
    rintro e w' ⟨rfl, rfl⟩
    go_wp2_with fail
    go_ret2
    exact ⟨_, [], rfl, Ow.nil _ _, Can.nil _, HNN.out.symm, hbb⟩
  · have hne : tr ly ≠ [] → ∀ b' off', ay = some ⟨b', off', none⟩ → b' ≠ g := by
      intro hn b' off' e
      subst e
      have hl : ly ≠ [] := by intro e; subst e; exact hn rfl
      have := (hy.below hb1).at'.lt hl
      omega
    have hlen : (tr lx).length = tlen lx := tr_length lx
    rw [hlen] at hc1
    have hsub := subFrom_any g 0 (tlen lx) cap (tr lx) ay (tlen ly) cy (tr ly) w2 hlen.symm (tr_length ly).symm hc1 hc2 kyc h4 harr (hy2.take _) hne (hlx.take _) (hly.take _) (by rw [vb_tr, vb_tr]; exact hlt) kle
    rw [vb_tr, vb_tr] at hsub
    have HS := Lib.hid hsub
    have HL := Lib.hid hlen
    clear hsub hlen hd
    rw [HL.out] at hO
    rw [HL.out]
    go_wp2_with fail
    refine (trim_any ay ny cy ly w2 HY.out h3 h4 hy2).mono ?_
    rintro e w' ⟨rfl, rfl⟩
    go_wp2_with fail
    refine HS.out.mono ?_
    rintro e w3 ⟨rfl, l, hl, hlim, harr3, hval, honly⟩
    have hO3 : Ow w1.heap.size w3 (.slice (some ⟨g, 0, none⟩) (tlen lx) cap) l := hO.only honly harr3 (by rw [hl, HL.out])
    have hb3 : Below w.heap.size w w3 := hbb.trans (honly.below (by have := hb1.size; omega) hbb.size)
    have HLL := Lib.hid hl
    have HVV := Lib.hid hval
    clear hl hval
    go_wp2_with fail
    refine (trim_any _ (tlen lx) cap l w3 HLL.out.symm hc1 hc2 (Rd.of_at harr3.at')).mono ?_
    rintro e w' ⟨rfl, rfl⟩
    go_wp2_with fail
    go_ret2
    exact ⟨_, tr l, rfl, (hO3.take (tlen l) (by rw [← HLL.out]; exact tlen_le l)).mono hb1.size, can_tr hlim, by rw [vb_tr]; exact HVV.out, hb3⟩
end Go.Proofs.YtfanhllcoaondaaDoor
