/-
  Math: Plain arithmetic of lists of digits: the number that a list of digits of some base denotes, lists without zeros at their end, and how sums, differences and comparisons of such lists go. No program is spoken of here. Plain arithmetic of the division of two words by one: a quotient's digit that is guessed from the top digit of the divisor, and mended. Decimal digits of a number, as bytes; no program is spoken of here. Arithmetic of one step of the long division: what the guess of three words by two tells of the whole. No program is spoken of here. Decimal texts: the number of a list of digits, and when a list of bytes is one. No program is spoken of here.
-/


namespace Go.Proofs.Ytkkjkohmekbdbaa

/-- The number of a list of digits, the lowest first. -/
def vb (b : Int) : List Int → Int
  | [] => 0
  | x :: l => x + b * vb b l

/-- Every digit is one. -/
def Lim (b : Int) (l : List Int) : Prop := ∀ x ∈ l, 0 ≤ x ∧ x < b

/-- How many digits are left when the zeros at the end are taken off. -/
def tlen : List Int → Nat
  | [] => 0
  | x :: l => if tlen l = 0 then (if x = 0 then 0 else 1) else tlen l + 1

def tr (l : List Int) : List Int := l.take (tlen l)

/-- Digits, and no zero at the end. -/
def Can (b : Int) (l : List Int) : Prop := Lim b l ∧ tlen l = l.length

@[simp] theorem vb_nil (b : Int) : vb b [] = 0 := rfl
theorem vb_cons (b x : Int) (l : List Int) : vb b (x :: l) = x + b * vb b l := rfl

theorem Lim.nil (b : Int) : Lim b [] := fun _ h => by cases h
theorem Lim.cons {b x : Int} {l : List Int} (h0 : 0 ≤ x) (h1 : x < b) (h : Lim b l) : Lim b (x :: l) := by
  intro y hy
  rcases List.mem_cons.1 hy with rfl | hy
  · exact ⟨h0, h1⟩
  · exact h y hy
theorem Lim.tail {b x : Int} {l : List Int} (h : Lim b (x :: l)) : Lim b l := fun y hy => h y (List.mem_cons_of_mem _ hy)
theorem Lim.head {b x : Int} {l : List Int} (h : Lim b (x :: l)) : 0 ≤ x ∧ x < b := h x (List.mem_cons_self ..)
theorem Lim.app {b : Int} {l m : List Int} (h : Lim b l) (k : Lim b m) : Lim b (l ++ m) := by
  intro x hx
  rcases List.mem_append.1 hx with hx | hx
  · exact h x hx
  · exact k x hx
theorem Lim.take {b : Int} {l : List Int} (h : Lim b l) (k : Nat) : Lim b (l.take k) := fun x hx => h x (List.mem_of_mem_take hx)
theorem Lim.drop {b : Int} {l : List Int} (h : Lim b l) (k : Nat) : Lim b (l.drop k) := fun x hx => h x (List.mem_of_mem_drop hx)
theorem Lim.getD {b : Int} {l : List Int} (hb : 0 < b) (h : Lim b l) (k : Nat) : 0 ≤ l.getD k 0 ∧ l.getD k 0 < b := by
  by_cases hk : k < l.length
  · rw [List.getD_eq_getElem?_getD, List.getElem?_eq_getElem hk]
    exact h _ (List.getElem_mem hk)
  · rw [List.getD_eq_getElem?_getD, List.getElem?_eq_none (by omega)]
    exact ⟨Int.le_refl _, hb⟩
theorem Lim.set {b : Int} {l : List Int} (h : Lim b l) (k : Nat) {x : Int} (h0 : 0 ≤ x) (h1 : x < b) : Lim b (l.set k x) := by
  intro y hy
  rcases List.mem_or_eq_of_mem_set hy with hy | rfl
  · exact h y hy
  · exact ⟨h0, h1⟩
theorem Lim.replicate {b : Int} (hb : 0 < b) (n : Nat) : Lim b (List.replicate n 0) := by
  intro y hy
  rw [(List.mem_replicate.1 hy).2]
  exact ⟨Int.le_refl _, hb⟩

theorem pow_pos' {b : Int} (hb : 0 < b) (n : Nat) : 0 < b ^ n := Int.pow_pos hb

theorem vb_nonneg {b : Int} (hb : 0 < b) {l : List Int} (h : Lim b l) : 0 ≤ vb b l := by
  induction l with
  | nil => exact Int.le_refl _
  | cons x l ih =>
    rw [vb_cons]
    have := h.head
    have := Int.mul_nonneg (Int.le_of_lt hb) (ih h.tail)
    omega

theorem vb_lt {b : Int} (hb : 0 < b) {l : List Int} (h : Lim b l) : vb b l < b ^ l.length := by
  induction l with
  | nil => show (0:Int) < b ^ 0; rw [Int.pow_zero]; decide
  | cons x l ih =>
    rw [vb_cons, List.length_cons, Int.pow_succ]
    have h1 := h.head
    have h2 := ih h.tail
    have h3 : b * (vb b l + 1) ≤ b * b ^ l.length := Int.mul_le_mul_of_nonneg_left (by omega) (Int.le_of_lt hb)
    rw [Int.mul_add] at h3
    rw [Int.mul_comm (b ^ l.length) b]
    omega

theorem vb_append (b : Int) (l m : List Int) : vb b (l ++ m) = vb b l + b ^ l.length * vb b m := by
  induction l with
  | nil => simp
  | cons x l ih =>
    rw [List.cons_append, vb_cons, vb_cons, ih, List.length_cons, Int.pow_succ, Int.mul_add, Int.mul_comm (b ^ l.length) b, Int.mul_assoc]
    omega

theorem vb_replicate (b : Int) (n : Nat) : vb b (List.replicate n 0) = 0 := by
  induction n with
  | zero => rfl
  | succ n ih => rw [List.replicate_succ, vb_cons, ih]; simp

/-- A digit more at the end. -/
theorem vb_snoc (b x : Int) (l : List Int) : vb b (l ++ [x]) = vb b l + b ^ l.length * x := by
  rw [vb_append, vb_cons, vb_nil, Int.mul_zero, Int.add_zero]

/-- The first k digits and the others. -/
theorem vb_split (b : Int) (l : List Int) (k : Nat) (hk : k ≤ l.length) : vb b l = vb b (l.take k) + b ^ k * vb b (l.drop k) := by
  have h := vb_append b (l.take k) (l.drop k)
  rw [List.take_append_drop, List.length_take, Nat.min_eq_left hk] at h
  exact h

theorem take_succ_getD {l : List Int} {k : Nat} (hk : k < l.length) : l.take (k + 1) = l.take k ++ [l.getD k 0] := by
  rw [List.take_succ_eq_append_getElem hk]
  congr 2
  rw [List.getD_eq_getElem?_getD, List.getElem?_eq_getElem hk]; rfl

theorem vb_take_succ (b : Int) {l : List Int} {k : Nat} (hk : k < l.length) : vb b (l.take (k + 1)) = vb b (l.take k) + b ^ k * l.getD k 0 := by
  rw [take_succ_getD hk, vb_snoc, List.length_take, Nat.min_eq_left (by omega)]

theorem drop_getD_cons {l : List Int} {k : Nat} (hk : k < l.length) : l.drop k = l.getD k 0 :: l.drop (k + 1) := by
  rw [List.drop_eq_getElem_cons hk]
  congr 1
  rw [List.getD_eq_getElem?_getD, List.getElem?_eq_getElem hk]; rfl

theorem vb_drop (b : Int) {l : List Int} {k : Nat} (hk : k < l.length) : vb b (l.drop k) = l.getD k 0 + b * vb b (l.drop (k + 1)) := by
  rw [drop_getD_cons hk, vb_cons]

/-- One digit set: the number turns by the difference at its place. -/
theorem vb_set (b : Int) (l : List Int) (k : Nat) (x : Int) (hk : k < l.length) : vb b (l.set k x) = vb b l + b ^ k * (x - l.getD k 0) := by
  induction l generalizing k with
  | nil => simp at hk
  | cons y l ih =>
    cases k with
    | zero => simp [vb_cons]; omega
    | succ k =>
      rw [List.set_cons_succ, vb_cons, ih k (by simpa using hk), vb_cons, List.getD_cons_succ, Int.pow_succ, Int.mul_add, Int.mul_comm (b ^ k) b, Int.mul_assoc]
      omega

theorem getD_set_same {l : List Int} {k : Nat} (hk : k < l.length) (x : Int) : (l.set k x).getD k 0 = x := by
  simp [List.getD_eq_getElem?_getD, hk]
theorem getD_set_other (l : List Int) {k j : Nat} (h : k ≠ j) (x : Int) : (l.set k x).getD j 0 = l.getD j 0 := by
  simp [List.getD_eq_getElem?_getD, h]

theorem getD_take {l : List Int} {k j : Nat} (h : j < k) : (l.take k).getD j 0 = l.getD j 0 := by
  simp [List.getD_eq_getElem?_getD, h]
theorem getD_drop (l : List Int) (k j : Nat) : (l.drop k).getD j 0 = l.getD (k + j) 0 := by
  simp [List.getD_eq_getElem?_getD]

/-! ### Zeros at the end -/

theorem tlen_le (l : List Int) : tlen l ≤ l.length := by
  induction l with
  | nil => exact Nat.le_refl _
  | cons x l ih =>
    simp only [tlen, List.length_cons]
    split
    · split <;> omega
    · omega

theorem tlen_zero_above {l : List Int} : ∀ j, tlen l ≤ j → l.getD j 0 = 0 := by
  induction l with
  | nil => intro j _; simp
  | cons x l ih =>
    intro j hj
    simp only [tlen] at hj
    cases j with
    | zero =>
      by_cases h0 : tlen l = 0
      · by_cases hx : x = 0
        · simp [hx]
        · simp [h0, hx] at hj
      · simp [h0] at hj
    | succ j =>
      rw [List.getD_cons_succ]
      apply ih
      by_cases h0 : tlen l = 0
      · omega
      · simp only [h0, if_false] at hj; omega

theorem tlen_top {l : List Int} (h : tlen l ≠ 0) : l.getD (tlen l - 1) 0 ≠ 0 := by
  induction l with
  | nil => exact absurd rfl h
  | cons x l ih =>
    simp only [tlen] at h ⊢
    by_cases h0 : tlen l = 0
    · by_cases hx : x = 0
      · simp [h0, hx] at h
      · simp [h0, hx]
    · simp only [h0, if_false] at h ⊢
      have := ih h0
      rw [show tlen l + 1 - 1 = (tlen l - 1) + 1 by omega, List.getD_cons_succ]
      exact this

/-- What the count is. -/
theorem tlen_eq {l : List Int} {k : Nat} (_hk : k ≤ l.length) (h0 : ∀ j, k ≤ j → j < l.length → l.getD j 0 = 0) (h1 : k = 0 ∨ l.getD (k - 1) 0 ≠ 0) : tlen l = k := by
  have hle := tlen_le l
  rcases Nat.lt_trichotomy (tlen l) k with h | h | h
  · rcases h1 with h1 | h1
    · omega
    · exact absurd (tlen_zero_above (l := l) (k - 1) (by omega)) h1
  · exact h
  · exact absurd (h0 (tlen l - 1) (by omega) (by omega)) (tlen_top (by omega))

theorem tr_length (l : List Int) : (tr l).length = tlen l := by
  rw [tr, List.length_take, Nat.min_eq_left (tlen_le l)]

theorem vb_zeros (b : Int) {l : List Int} (h : ∀ x ∈ l, x = 0) : vb b l = 0 := by
  induction l with
  | nil => rfl
  | cons x l ih =>
    rw [vb_cons, ih (fun y hy => h y (List.mem_cons_of_mem _ hy)), h x (List.mem_cons_self ..)]; simp

theorem mem_getD {l : List Int} {x : Int} (h : x ∈ l) : ∃ j, j < l.length ∧ l.getD j 0 = x := by
  obtain ⟨j, hj, rfl⟩ := List.getElem_of_mem h
  exact ⟨j, hj, by rw [List.getD_eq_getElem?_getD, List.getElem?_eq_getElem hj]; rfl⟩

theorem vb_tr (b : Int) (l : List Int) : vb b (tr l) = vb b l := by
  rw [vb_split b l (tlen l) (tlen_le l), vb_zeros b (l := l.drop (tlen l)), Int.mul_zero, Int.add_zero, tr]
  intro x hx
  obtain ⟨j, _, rfl⟩ := mem_getD hx
  rw [getD_drop]
  exact tlen_zero_above _ (by omega)

theorem tlen_tr (l : List Int) : tlen (tr l) = tlen l := by
  refine tlen_eq ?_ ?_ ?_
  · rw [tr_length]; exact Nat.le_refl _
  · intro j h1 h2; rw [tr_length] at h2; omega
  · by_cases h : tlen l = 0
    · exact Or.inl h
    · exact Or.inr (by rw [tr, getD_take (by omega)]; exact tlen_top h)

theorem can_tr {b : Int} {l : List Int} (h : Lim b l) : Can b (tr l) := ⟨h.take _, by rw [tlen_tr, tr_length]⟩
theorem Can.lim {b : Int} {l : List Int} (h : Can b l) : Lim b l := h.1
theorem Can.nil (b : Int) : Can b [] := ⟨Lim.nil b, rfl⟩
theorem Can.tr {b : Int} {l : List Int} (h : Can b l) : tr l = l := by rw [Proofs.Ytkkjkohmekbdbaa.tr, h.2, List.take_length]
theorem Can.top {b : Int} {l : List Int} (h : Can b l) (hl : l ≠ []) : l.getD (l.length - 1) 0 ≠ 0 := by
  have : l.length ≠ 0 := by simpa using hl
  rw [← h.2] at this ⊢
  exact tlen_top this

/-- A number with n digits of which the top one is not 0 is at least b^(n-1). -/
theorem Can.ge {b : Int} (hb : 0 < b) {l : List Int} (h : Can b l) (hl : l ≠ []) : b ^ (l.length - 1) ≤ vb b l := by
  have hn : 0 < l.length := List.length_pos_iff.2 hl
  have ht := h.top hl
  have hd := h.lim.getD hb (l.length - 1)
  have e := vb_take_succ b (l := l) (k := l.length - 1) (by omega)
  rw [show l.length - 1 + 1 = l.length by omega, List.take_length] at e
  have h0 := vb_nonneg hb (h.lim.take (l.length - 1))
  have hp := pow_pos' hb (l.length - 1)
  have : b ^ (l.length - 1) * 1 ≤ b ^ (l.length - 1) * l.getD (l.length - 1) 0 := Int.mul_le_mul_of_nonneg_left (by omega) (Int.le_of_lt hp)
  omega

theorem pow_le_pow {b : Int} (hb : 0 < b) {m n : Nat} (h : m ≤ n) : b ^ m ≤ b ^ n := by
  obtain ⟨k, rfl⟩ := Nat.le.dest h
  rw [Int.pow_add]
  have h1 : (1 : Int) ≤ b ^ k := pow_pos' hb k
  have h2 := pow_pos' hb m
  have := Int.mul_le_mul_of_nonneg_left h1 (Int.le_of_lt h2)
  omega

/-- The longer of two numbers without zeros at their ends is the greater one. -/
theorem can_lt_of_length {b : Int} (hb : 0 < b) {l m : List Int} (hl : Lim b l) (hm : Can b m) (h : l.length < m.length) : vb b l < vb b m := by
  have h1 := vb_lt hb hl
  have h2 := hm.ge hb (by intro e; subst e; simp at h)
  have h3 := pow_le_pow hb (show l.length ≤ m.length - 1 by omega)
  omega

/-- Two lists of digits of one length that are one number are one list. -/
theorem eq_of_vb {b : Int} (hb : 0 < b) : ∀ {l m : List Int}, Lim b l → Lim b m → l.length = m.length → vb b l = vb b m → l = m := by
  intro l
  induction l with
  | nil => intro m _ _ h _; exact (List.eq_nil_of_length_eq_zero h.symm).symm
  | cons x l ih =>
    intro m hl hm h e
    cases m with
    | nil => simp at h
    | cons y m =>
      rw [vb_cons, vb_cons] at e
      have hx := hl.head
      have hy := hm.head
      have h1 : x % b = x := Int.emod_eq_of_lt hx.1 hx.2
      have h2 : y % b = y := Int.emod_eq_of_lt hy.1 hy.2
      have h3 : (x + b * vb b l) % b = x % b := Int.add_mul_emod_self_left ..
      have h4 : (y + b * vb b m) % b = y % b := Int.add_mul_emod_self_left ..
      have hxy : x = y := by rw [e, h4, h1, h2] at h3; exact h3.symm
      subst hxy
      have : b * vb b l = b * vb b m := by omega
      have hv := Int.eq_of_mul_eq_mul_left (by omega : b ≠ 0) this
      rw [ih hl.tail hm.tail (by simpa using h) hv]

theorem can_eq {b : Int} (hb : 0 < b) {l m : List Int} (hl : Can b l) (hm : Can b m) (e : vb b l = vb b m) : l = m := by
  refine eq_of_vb hb hl.lim hm.lim ?_ e
  rcases Nat.lt_trichotomy l.length m.length with h | h | h
  · have := can_lt_of_length hb hl.lim hm h; omega
  · exact h
  · have := can_lt_of_length hb hm.lim hl h; omega

theorem Can.eq_nil {b : Int} (hb : 0 < b) {l : List Int} (hl : Can b l) (e : vb b l = 0) : l = [] := can_eq hb hl (Can.nil b) e

/-- The digits above k are alike, the digit at k is less: the number is less. -/
theorem lt_of_digit {b : Int} (hb : 0 < b) {l m : List Int} (hl : Lim b l) (hm : Lim b m) (h : l.length = m.length) {k : Nat} (hk : k < l.length)
    (heq : ∀ j, k < j → j < l.length → l.getD j 0 = m.getD j 0) (hlt : l.getD k 0 < m.getD k 0) : vb b l < vb b m := by
  have e1 := vb_split b l k (by omega)
  have e2 := vb_split b m k (by omega)
  have d1 := vb_drop b (l := l) hk
  have d2 := vb_drop b (l := m) (k := k) (by omega)
  have hdr : l.drop (k + 1) = m.drop (k + 1) := by
    apply List.ext_getElem?
    intro j
    by_cases hj : k + 1 + j < l.length
    · have := heq (k + 1 + j) (by omega) hj
      rw [List.getElem?_drop, List.getElem?_drop, List.getElem?_eq_getElem hj, List.getElem?_eq_getElem (by omega)]
      simpa [List.getD_eq_getElem?_getD, List.getElem?_eq_getElem hj, List.getElem?_eq_getElem (show k + 1 + j < m.length by omega)] using this
    · rw [List.getElem?_eq_none (by simp; omega), List.getElem?_eq_none (by simp; omega)]
  rw [hdr] at d1
  have h1 := vb_lt hb (hl.take k)
  rw [List.length_take, Nat.min_eq_left (by omega)] at h1
  have h0 := vb_nonneg hb (hm.take k)
  have hp := pow_pos' hb k
  rw [d1] at e1
  rw [d2] at e2
  have hmul : b ^ k * (l.getD k 0 + b * vb b (m.drop (k + 1)) + 1) ≤ b ^ k * (m.getD k 0 + b * vb b (m.drop (k + 1))) := Int.mul_le_mul_of_nonneg_left (by omega) (Int.le_of_lt hp)
  rw [Int.mul_add (b ^ k) _ 1, Int.mul_one] at hmul
  omega

/-! ### Words of 64 bits -/

/-- The low word and what is above it. -/
def lo64 (x : Int) : Int := x % 18446744073709551616
def hi64 (x : Int) : Int := x / 18446744073709551616
/-- The borrow of a difference. -/
def bo64 (x : Int) : Int := -(x / 18446744073709551616)
def B64 : Int := 18446744073709551616
def B32 : Int := 4294967296

theorem B64_pos : 0 < B64 := by decide
theorem B32_pos : 0 < B32 := by decide
theorem lohi (x : Int) : lo64 x + B64 * hi64 x = x := by unfold lo64 hi64 B64; omega
theorem lobo (x : Int) : lo64 x - B64 * bo64 x = x := by unfold lo64 bo64 B64; omega
theorem lo64_lim (x : Int) : 0 ≤ lo64 x ∧ lo64 x < B64 := by unfold lo64 B64; omega
theorem hi64_carry {x y c : Int} (hx : 0 ≤ x ∧ x < B64) (hy : 0 ≤ y ∧ y < B64) (hc : 0 ≤ c ∧ c ≤ 1) : 0 ≤ hi64 (x + y + c) ∧ hi64 (x + y + c) ≤ 1 := by unfold hi64; unfold B64 at hx hy; omega
theorem bo64_carry {x y c : Int} (hx : 0 ≤ x ∧ x < B64) (hy : 0 ≤ y ∧ y < B64) (hc : 0 ≤ c ∧ c ≤ 1) : 0 ≤ bo64 (x - y - c) ∧ bo64 (x - y - c) ≤ 1 := by unfold bo64; unfold B64 at hx hy; omega

/-- One word added, the carry handed on. -/
theorem add_step {l : List Int} {k : Nat} {x c T : Int} (hk : k < l.length) (h : vb B64 l + B64 ^ k * c = T) :
    vb B64 (l.set k (lo64 (l.getD k 0 + x + c))) + B64 ^ (k + 1) * hi64 (l.getD k 0 + x + c) = T + B64 ^ k * x := by
  rw [vb_set _ _ _ _ hk, Int.pow_succ, Int.mul_assoc, Int.add_assoc, ← Int.mul_add]
  have e : lo64 (l.getD k 0 + x + c) - l.getD k 0 + B64 * hi64 (l.getD k 0 + x + c) = c + x := by
    have := lohi (l.getD k 0 + x + c)
    omega
  rw [e, Int.mul_add]
  omega
/-- One word taken away, the borrow handed on. -/
theorem sub_step {l : List Int} {k : Nat} {x c T : Int} (hk : k < l.length) (h : vb B64 l - B64 ^ k * c = T) :
    vb B64 (l.set k (lo64 (l.getD k 0 - x - c))) - B64 ^ (k + 1) * bo64 (l.getD k 0 - x - c) = T - B64 ^ k * x := by
  rw [vb_set _ _ _ _ hk, Int.pow_succ, Int.mul_assoc]
  have e : lo64 (l.getD k 0 - x - c) - l.getD k 0 - B64 * bo64 (l.getD k 0 - x - c) = - c - x := by
    have := lobo (l.getD k 0 - x - c)
    omega
  have e2 : B64 ^ k * (lo64 (l.getD k 0 - x - c) - l.getD k 0) - B64 ^ k * (B64 * bo64 (l.getD k 0 - x - c)) = B64 ^ k * (- c - x) := by rw [← Int.mul_sub, e]
  have e3 : B64 ^ k * (- c - x) = - (B64 ^ k * c) - B64 ^ k * x := by rw [Int.mul_sub, Int.mul_neg]
  omega
/-- A carry that is still there has a place. -/
theorem carry_room {l : List Int} {k : Nat} {c T : Int} (hl : Lim B64 l) (hc : 0 < c) (h : vb B64 l + B64 ^ k * c = T) (hT : T < B64 ^ l.length) : k < l.length := by
  rcases Nat.lt_or_ge k l.length with h1 | h1
  · exact h1
  · have h2 := pow_le_pow B64_pos h1
    have h3 := vb_nonneg B64_pos hl
    have h4 : B64 ^ k * 1 ≤ B64 ^ k * c := Int.mul_le_mul_of_nonneg_left (by omega) (Int.le_of_lt (pow_pos' B64_pos k))
    omega
theorem borrow_room {l : List Int} {k : Nat} {c T : Int} (hl : Lim B64 l) (hc : 0 < c) (h : vb B64 l - B64 ^ k * c = T) (hT : 0 ≤ T) : k < l.length := by
  rcases Nat.lt_or_ge k l.length with h1 | h1
  · exact h1
  · have h2 := pow_le_pow B64_pos h1
    have h3 := vb_lt B64_pos hl
    have h4 : B64 ^ k * 1 ≤ B64 ^ k * c := Int.mul_le_mul_of_nonneg_left (by omega) (Int.le_of_lt (pow_pos' B64_pos k))
    omega

/-- Which of two numbers is the greater one. -/
def cmpI (a b : Int) : Int := if a < b then -1 else if a = b then 0 else 1
theorem cmpI_lt {a b : Int} (h : a < b) : cmpI a b = -1 := if_pos h
theorem cmpI_gt {a b : Int} (h : b < a) : cmpI a b = 1 := by rw [cmpI, if_neg (by omega), if_neg (by omega)]
theorem cmpI_eq {a b : Int} (h : a = b) : cmpI a b = 0 := by rw [cmpI, if_neg (by omega), if_pos h]

/-! ### Digits of 32 bits and words of 64 -/

/-- Each word as two digits. -/
def dig : List Int → List Int
  | [] => []
  | x :: l => x % 4294967296 :: x / 4294967296 :: dig l
theorem dig_length (l : List Int) : (dig l).length = 2 * l.length := by
  induction l with
  | nil => rfl
  | cons x l ih => simp only [dig, List.length_cons, ih]; omega
theorem dig_append (l m : List Int) : dig (l ++ m) = dig l ++ dig m := by
  induction l with
  | nil => rfl
  | cons x l ih => simp [dig, ih]
theorem dig_take {l : List Int} {k : Nat} (hk : k < l.length) : dig (l.take (k + 1)) = dig (l.take k) ++ [l.getD k 0 % 4294967296, l.getD k 0 / 4294967296] := by
  rw [take_succ_getD hk, dig_append]; rfl
theorem dig_lim {l : List Int} (h : Lim B64 l) : Lim B32 (dig l) := by
  induction l with
  | nil => exact Lim.nil _
  | cons x l ih =>
    have hx := h.head
    unfold B64 at hx
    exact Lim.cons (by omega) (by unfold B32; omega) (Lim.cons (by omega) (by unfold B32; omega) (ih h.tail))
theorem vb_dig (l : List Int) : vb B32 (dig l) = vb B64 l := by
  induction l with
  | nil => rfl
  | cons x l ih =>
    simp only [dig, vb_cons, ih]
    unfold B32 B64
    omega

/-- Each two digits as a word. -/
def prs : List Int → List Int
  | [] => []
  | [x] => [x]
  | x :: y :: l => (x + y * 4294967296) :: prs l
theorem prs_spec : ∀ (l : List Int), (prs l).length = (l.length + 1) / 2 ∧ ∀ j, (prs l).getD j 0 = l.getD (2 * j) 0 + l.getD (2 * j + 1) 0 * 4294967296
  | [] => ⟨rfl, fun j => by simp [prs]⟩
  | [x] => ⟨by simp [prs], fun j => by cases j <;> simp [prs]⟩
  | x :: y :: l => by
    obtain ⟨h1, h2⟩ := prs_spec l
    refine ⟨by simp only [prs, List.length_cons, h1]; omega, fun j => ?_⟩
    cases j with
    | zero => simp [prs]
    | succ j =>
      rw [show 2 * (j + 1) = (2 * j + 1) + 1 by omega]
      simp only [prs, List.getD_cons_succ]
      exact h2 j
theorem prs_lim : ∀ {l : List Int}, Lim B32 l → Lim B64 (prs l)
  | [], _ => Lim.nil _
  | [x], h => Lim.cons h.head.1 (by have := h.head; unfold B32 at this; unfold B64; omega) (Lim.nil _)
  | x :: y :: l, h => by
    have h1 := h.head
    have h2 := h.tail.head
    unfold B32 at h1 h2
    exact Lim.cons (by omega) (by unfold B64; omega) (prs_lim h.tail.tail)
theorem vb_prs : ∀ (l : List Int), vb B64 (prs l) = vb B32 l
  | [] => rfl
  | [x] => by simp [prs, vb_cons]
  | x :: y :: l => by
    simp only [prs, vb_cons, vb_prs l]
    unfold B32 B64
    omega
theorem prs_can {l : List Int} (h : Can B32 l) : Can B64 (prs l) := by
  obtain ⟨h1, h2⟩ := prs_spec l
  refine ⟨prs_lim h.lim, ?_⟩
  by_cases hl : l = []
  · subst hl; rfl
  · have hn : 0 < l.length := List.length_pos_iff.2 hl
    have ht := h.top hl
    refine tlen_eq (Nat.le_refl _) (fun j a b => by omega) (Or.inr ?_)
    rw [h1, h2]
    have d0 := h.lim.getD B32_pos (2 * ((l.length + 1) / 2 - 1))
    have d1 := h.lim.getD B32_pos (2 * ((l.length + 1) / 2 - 1) + 1)
    rcases (show l.length - 1 = 2 * ((l.length + 1) / 2 - 1) ∨ l.length - 1 = 2 * ((l.length + 1) / 2 - 1) + 1 by omega) with e | e
    · rw [e] at ht; omega
    · rw [e] at ht; omega

section
variable {u u1 v1 v0 Y q r Q : Int}

theorem kn_le (hY : Y = v1 * 4294967296 + v0) (hv1 : 2147483648 ≤ v1) (h1 : 0 ≤ v0) (hu : 0 ≤ u) (huY : u < Y) (hu1 : 0 ≤ u1) (hu2 : u1 < 4294967296) :
    0 ≤ (u * 4294967296 + u1) / Y ∧ (u * 4294967296 + u1) / Y < 4294967296 ∧ (u * 4294967296 + u1) / Y ≤ u / v1 := by
  have hYp : 0 < Y := by omega
  refine ⟨Int.ediv_nonneg (by omega) (by omega), Int.ediv_lt_of_lt_mul hYp (by omega), ?_⟩
  have hvp : 0 < v1 := by omega
  have e1 := Int.mul_ediv_add_emod u v1
  have e2 := Int.emod_lt_of_pos u hvp
  have e3 := Int.emod_nonneg u (by omega : v1 ≠ 0)
  have hq : 0 ≤ u / v1 := Int.ediv_nonneg hu (by omega)
  have h3 : (u * 4294967296 + u1) / Y < u / v1 + 1 := by
    refine Int.ediv_lt_of_lt_mul hYp ?_
    have h4 : 0 ≤ (u / v1 + 1) * v0 := Int.mul_nonneg (by omega) h1
    have h5 : (u / v1 + 1) * Y = (v1 * (u / v1) + v1) * 4294967296 + (u / v1 + 1) * v0 := by
      rw [hY, Int.mul_add, ← Int.mul_assoc, Int.add_mul (u / v1) 1 v1, Int.one_mul, Int.mul_comm (u / v1) v1]
    omega
  omega

theorem kn_top (hY : Y = v1 * 4294967296 + v0) (hv1 : 2147483648 ≤ v1) (h1 : v0 < 4294967296) (hu : 0 ≤ u) (huY : u < Y) : 0 ≤ u / v1 ∧ u / v1 ≤ 4294967297 := by
  refine ⟨Int.ediv_nonneg hu (by omega), ?_⟩
  have : u / v1 < 4294967298 := Int.ediv_lt_of_lt_mul (by omega) (by omega)
  omega

theorem kn_rest (hv1 : 0 < v1) (hu : 0 ≤ u) : 0 ≤ u / v1 * v1 ∧ u / v1 * v1 ≤ u ∧ 0 ≤ u - u / v1 * v1 ∧ u - u / v1 * v1 < v1 := by
  have e1 := Int.mul_ediv_add_emod u v1
  have e2 := Int.emod_lt_of_pos u hv1
  have e3 := Int.emod_nonneg u (by omega : v1 ≠ 0)
  rw [Int.mul_comm (u / v1) v1]
  have : 0 ≤ v1 * (u / v1) := Int.mul_nonneg (by omega) (Int.ediv_nonneg hu (by omega))
  omega

theorem kn_mul (hY : Y = v1 * 4294967296 + v0) (hI : q * v1 + r = u) : q * Y = (u - r) * 4294967296 + q * v0 := by
  rw [hY, Int.mul_add, ← Int.mul_assoc, ← hI]
  omega

theorem kn_gt (hY : Y = v1 * 4294967296 + v0) (hYp : 0 < Y) (huY : u < Y) (hu2 : u1 < 4294967296) (hQ : (u * 4294967296 + u1) / Y = Q) (hI : q * v1 + r = u)
    (h : 4294967296 ≤ q ∨ 4294967296 * r + u1 < q * v0) : Q + 1 ≤ q := by
  rcases h with h | h
  · have : Q < 4294967296 := by rw [← hQ]; exact Int.ediv_lt_of_lt_mul hYp (by omega)
    omega
  · have hm := kn_mul hY hI
    have : Q < q := by rw [← hQ]; exact Int.ediv_lt_of_lt_mul hYp (by omega)
    omega

theorem kn_done (hY : Y = v1 * 4294967296 + v0) (hYp : 0 < Y) (hQ : (u * 4294967296 + u1) / Y = Q) (hI : q * v1 + r = u) (hQq : Q ≤ q)
    (h : q * v0 ≤ 4294967296 * r + u1) : q = Q := by
  have hm := kn_mul hY hI
  have : q ≤ Q := by rw [← hQ]; exact Int.le_ediv_of_mul_le hYp (by omega)
  omega

theorem kn_break (hY : Y = v1 * 4294967296 + v0) (hYp : 0 < Y) (h0 : 0 ≤ v0) (h1 : v0 < 4294967296) (hu1 : 0 ≤ u1) (hQ : (u * 4294967296 + u1) / Y = Q) (hI : q * v1 + r = u) (hQq : Q + 1 ≤ q) (hq : q ≤ 4294967297)
    (h : 4294967296 ≤ r + v1) : q = Q + 1 := by
  have hI' : (q - 1) * v1 + (r + v1) = u := by rw [Int.sub_mul, Int.one_mul]; omega
  have hm := kn_mul hY hI'
  have hle : (q - 1) * v0 ≤ 4294967296 * v0 := Int.mul_le_mul_of_nonneg_right (by omega) h0
  have : q - 1 ≤ Q := by rw [← hQ]; exact Int.le_ediv_of_mul_le hYp (by omega)
  omega

theorem kn_step (hI : q * v1 + r = u) : (q - 1) * v1 + (r + v1) = u := by rw [Int.sub_mul, Int.one_mul]; omega

theorem kn_prod (hq0 : 0 ≤ q) (hq : q < 4294967296) (h0 : 0 ≤ v0) (h1 : v0 < 4294967296) : 0 ≤ q * v0 ∧ q * v0 ≤ 18446744073709551615 := by
  refine ⟨Int.mul_nonneg hq0 h0, ?_⟩
  have := Int.mul_le_mul (by omega : q ≤ 4294967295) (by omega : v0 ≤ 4294967295) h0 (by decide)
  omega

/-- What is left behind a digit. -/
theorem kn_left (hYp : 0 < Y) (hQ : (u * 4294967296 + u1) / Y = Q) : u * 4294967296 + u1 - Q * Y = (u * 4294967296 + u1) % Y ∧ 0 ≤ u * 4294967296 + u1 - Q * Y ∧ u * 4294967296 + u1 - Q * Y < Y := by
  have e1 := Int.mul_ediv_add_emod (u * 4294967296 + u1) Y
  have e2 := Int.emod_lt_of_pos (u * 4294967296 + u1) hYp
  have e3 := Int.emod_nonneg (u * 4294967296 + u1) (by omega : Y ≠ 0)
  rw [hQ, Int.mul_comm Y Q] at e1
  omega
end

/-- The last n decimal digits of x, as bytes, the highest first. -/
def dg : Nat → Int → List Int
  | 0, _ => []
  | n + 1, x => dg n (x / 10) ++ [48 + x % 10]

theorem dg_length (n : Nat) (x : Int) : (dg n x).length = n := by
  induction n generalizing x with
  | zero => rfl
  | succ n ih => simp [dg, ih]

theorem ediv_pow10 (x : Int) (j : Nat) : x / 10 / 10 ^ j = x / 10 ^ (j + 1) := by
  rw [Int.pow_succ, Int.mul_comm, Int.ediv_ediv_of_nonneg (by decide)]
theorem ediv_pow10' (x : Int) (j : Nat) : x / 10 ^ j / 10 = x / 10 ^ (j + 1) := by
  rw [Int.pow_succ, Int.ediv_ediv_of_nonneg (Int.le_of_lt (Int.pow_pos (by decide)))]

theorem dg_cons (j : Nat) (x : Int) : dg (j + 1) x = (48 + x / 10 ^ j % 10) :: dg j x := by
  induction j generalizing x with
  | zero => simp [dg]
  | succ j ih =>
    rw [dg, ih (x / 10), ediv_pow10, List.cons_append]
    rfl

theorem dg_add (a b : Nat) (x : Int) : dg (a + b) x = dg a (x / 10 ^ b) ++ dg b x := by
  induction b generalizing x with
  | zero => simp [dg]
  | succ b ih =>
    rw [← Nat.add_assoc, dg, ih (x / 10), ediv_pow10, List.append_assoc]
    rfl

theorem dg_mod (k m : Nat) (x : Int) (h : k ≤ m) : dg k (x % 10 ^ m) = dg k x := by
  induction k generalizing x m with
  | zero => rfl
  | succ k ih =>
    obtain ⟨m, rfl⟩ : ∃ m', m = m' + 1 := ⟨m - 1, by omega⟩
    rw [dg, dg]
    have hp : (0 : Int) < 10 ^ m := Int.pow_pos (by decide)
    have e1 : x % 10 ^ (m + 1) % 10 = x % 10 := Int.emod_emod_of_dvd x (by rw [Int.pow_succ]; exact Int.dvd_mul_left ..)
    have e2 : x % 10 ^ (m + 1) / 10 = x / 10 % 10 ^ m := by
      have a := Int.mul_ediv_add_emod x (10 ^ (m + 1))
      have b : x / 10 = 10 ^ m * (x / 10 ^ (m + 1)) + x % 10 ^ (m + 1) / 10 := by
        have : x = x % 10 ^ (m + 1) + 10 * (10 ^ m * (x / 10 ^ (m + 1))) := by
          rw [Int.pow_succ, Int.mul_comm (10 ^ m) 10, Int.mul_assoc] at a
          rw [Int.pow_succ, Int.mul_comm (10 ^ m) 10]
          omega
        have c := congrArg (fun z : Int => z / 10) this
        have c : x / 10 = (x % 10 ^ (m + 1) + 10 * (10 ^ m * (x / 10 ^ (m + 1)))) / 10 := c
        rw [Int.add_mul_ediv_left _ _ (by decide)] at c
        omega
      have h0 : 0 ≤ x % 10 ^ (m + 1) / 10 := Int.ediv_nonneg (Int.emod_nonneg _ (Int.ne_of_gt (Int.pow_pos (by decide)))) (by decide)
      have h1 : x % 10 ^ (m + 1) / 10 < 10 ^ m := by
        refine Int.ediv_lt_of_lt_mul (by decide) ?_
        have := Int.emod_lt_of_pos x (Int.pow_pos (by decide) : (0 : Int) < 10 ^ (m + 1))
        rw [Int.pow_succ] at this
        rw [Int.pow_succ]
        exact this
      rw [b, Int.add_comm, Int.add_mul_emod_self_left, Int.emod_eq_of_lt h0 h1]
    rw [e1, e2, ih m (x / 10) (by omega)]

theorem dg_lim (n : Nat) (x : Int) : ∀ d ∈ dg n x, 48 ≤ d ∧ d ≤ 57 := by
  induction n generalizing x with
  | zero => intro d h; cases h
  | succ n ih =>
    intro d h
    rcases List.mem_append.1 h with h | h
    · exact ih _ d h
    · rw [List.mem_singleton] at h; omega

/-- The guess is the quotient, or one more: W times the top words, and what lies below them. -/
theorem red_guess {a b G U V W x y : Int} (hW : 1 ≤ W) (hx0 : 0 ≤ x) (hx1 : x < W) (hy0 : 0 ≤ y) (hy1 : y < W) (ha : a = x + W * U) (hb : b = y + W * V) (hV : 18446744073709551616 ≤ V)
    (hlt : a < 18446744073709551616 * b) (g0 : 0 ≤ G) (g1 : G ≤ 18446744073709551615) (hle : G * V ≤ U) (hmore : G = 18446744073709551615 ∨ U < (G + 1) * V) :
    a < (G + 1) * b ∧ G * b < a + b := by
  constructor
  · rcases hmore with h | h
    · rw [h]; exact hlt
    · have h1 : W * (U + 1) ≤ W * ((G + 1) * V) := Int.mul_le_mul_of_nonneg_left (by omega) (by omega)
      have h2 : (G + 1) * b = (G + 1) * y + W * ((G + 1) * V) := by rw [hb, Int.mul_add, Int.mul_left_comm]
      have h3 : 0 ≤ (G + 1) * y := Int.mul_nonneg (by omega) hy0
      rw [Int.mul_add, Int.mul_one] at h1
      omega
  · have h1 : W * (G * V) ≤ W * U := Int.mul_le_mul_of_nonneg_left hle (by omega)
    have h2 : G * b = G * y + W * (G * V) := by rw [hb, Int.mul_add, Int.mul_left_comm]
    have h3 : G * y ≤ 18446744073709551615 * y := Int.mul_le_mul_of_nonneg_right g1 hy0
    have h4 : W * 18446744073709551616 ≤ W * V := Int.mul_le_mul_of_nonneg_left hV (by omega)
    omega

/-- The two top words of a number of n of them, and the rest. -/
theorem top_two {l : List Int} {n : Nat} (hl : l.length = n + 2) : vb B64 l = vb B64 (l.take n) + B64 ^ n * (l.getD (n + 1) 0 * 18446744073709551616 + l.getD n 0) := by
  have h1 := vb_split B64 l n (by omega)
  have h2 := vb_drop B64 (l := l) (k := n) (by omega)
  have h3 := vb_drop B64 (l := l) (k := n + 1) (by omega)
  have h4 : l.drop (n + 1 + 1) = [] := List.drop_of_length_le (by omega)
  rw [h4, vb_nil, Int.mul_zero, Int.add_zero] at h3
  rw [h3] at h2
  rw [h1, h2]
  congr 2
  unfold B64
  omega
/-- The three top words. -/
theorem top_three {l : List Int} {n : Nat} (hl : l.length = n + 3) : vb B64 l = vb B64 (l.take n) + B64 ^ n * ((l.getD (n + 2) 0 * 18446744073709551616 + l.getD (n + 1) 0) * 18446744073709551616 + l.getD n 0) := by
  have h1 := vb_split B64 l n (by omega)
  have h2 := vb_drop B64 (l := l) (k := n) (by omega)
  have h3 := vb_drop B64 (l := l) (k := n + 1) (by omega)
  have h5 := vb_drop B64 (l := l) (k := n + 1 + 1) (by omega)
  have h4 : l.drop (n + 1 + 1 + 1) = [] := List.drop_of_length_le (by omega)
  have e : l.getD (n + 1 + 1) 0 = l.getD (n + 2) 0 := rfl
  rw [e] at h5
  rw [h4, vb_nil, Int.mul_zero, Int.add_zero] at h5
  rw [h5] at h3
  rw [h3] at h2
  rw [h1, h2]
  congr 2
  unfold B64
  omega

/-- The dividend's top word is not above the divisor's. -/
theorem red_top {a b : Int} {W x y a2 a1 a0 b1 b0 : Int} (hW : 1 ≤ W) (hx0 : 0 ≤ x) (hy1 : y < W) (ha : a = x + W * ((a2 * 18446744073709551616 + a1) * 18446744073709551616 + a0)) (hb : b = y + W * (b1 * 18446744073709551616 + b0))
    (h1 : 0 ≤ a1) (h0 : 0 ≤ a0) (hb0 : b0 ≤ 18446744073709551615) (hlt : a < 18446744073709551616 * b) : a2 ≤ b1 := by
  rcases Int.lt_or_le b1 a2 with h | h
  · exfalso
    have h2 : W * ((b1 + 1) * 18446744073709551616 * 18446744073709551616) ≤ W * ((a2 * 18446744073709551616 + a1) * 18446744073709551616 + a0) := Int.mul_le_mul_of_nonneg_left (by omega) (by omega)
    have h3 : W * (b1 * 18446744073709551616 + b0) ≤ W * (b1 * 18446744073709551616 + 18446744073709551615) := Int.mul_le_mul_of_nonneg_left (by omega) (by omega)
    have e1 : W * ((b1 + 1) * 18446744073709551616 * 18446744073709551616) = (W * b1) * 340282366920938463463374607431768211456 + W * 340282366920938463463374607431768211456 := by
      rw [show (b1 + 1) * 18446744073709551616 * 18446744073709551616 = b1 * 340282366920938463463374607431768211456 + 340282366920938463463374607431768211456 by omega, Int.mul_add, ← Int.mul_assoc]
    have e2 : W * (b1 * 18446744073709551616 + 18446744073709551615) = (W * b1) * 18446744073709551616 + W * 18446744073709551615 := by
      rw [Int.mul_add, ← Int.mul_assoc]
    rw [e1] at h2
    rw [e2] at h3
    omega
  · exact h

/-- The rest, where the guess was right, and where it was one too great. -/
theorem red_right {a b G : Int} (h : a < (G + 1) * b) (hg : G * b ≤ a) : a / b = G ∧ a % b = a - G * b := by
  have hb : 0 < b := by rw [Int.add_mul, Int.one_mul] at h; omega
  have h1 : a = (a - G * b) + b * G := by rw [Int.mul_comm b G]; omega
  rw [Int.add_mul, Int.one_mul] at h
  constructor
  · rw [h1, Int.add_mul_ediv_left _ _ (by omega), Int.ediv_eq_zero_of_lt (by omega) (by omega)]; omega
  · have h2 := Int.add_mul_emod_self_left (a - G * b) b G
    rw [← h1] at h2
    rw [h2, Int.emod_eq_of_lt (by omega) (by omega)]
theorem red_over {a b G : Int} (h : G * b < a + b) (hg : a < G * b) : a / b = G - 1 ∧ a % b = a - G * b + b := by
  have e1 : (G - 1) * b = G * b - b := by rw [Int.sub_mul, Int.one_mul]
  have h2 := red_right (a := a) (b := b) (G := G - 1) (by rw [Int.sub_add_cancel]; exact hg) (by omega)
  exact ⟨h2.1, by rw [h2.2, e1]; omega⟩

def dokB (c : UInt8) : Bool := decide (48 ≤ (c.toNat : Int)) && decide ((c.toNat : Int) ≤ 57)
def allD (l : List UInt8) : Bool := l.all dokB
def dval (l : List UInt8) : Int := l.foldl (fun a c => 10 * a + ((c.toNat : Int) - 48)) 0

theorem dval_snoc (l : List UInt8) (c : UInt8) : dval (l ++ [c]) = 10 * dval l + ((c.toNat : Int) - 48) := by simp [dval]
theorem allD_app (l m : List UInt8) : allD (l ++ m) = (allD l && allD m) := by simp [allD]
theorem allD_snoc (l : List UInt8) (c : UInt8) : allD (l ++ [c]) = (allD l && dokB c) := by simp [allD]

theorem fold_from (m : List UInt8) : ∀ z : Int, m.foldl (fun a c => 10 * a + ((c.toNat : Int) - 48)) z = z * 10 ^ m.length + dval m := by
  induction m with
  | nil => intro z; simp [dval]
  | cons c m ih =>
    intro z
    have e0 : dval (c :: m) = (10 * 0 + ((c.toNat : Int) - 48)) * 10 ^ m.length + dval m := ih (10 * 0 + ((c.toNat : Int) - 48))
    rw [List.foldl_cons, ih, e0, List.length_cons, Int.pow_succ]
    generalize dval m = d
    have e : (10 * z + ((c.toNat : Int) - 48)) * 10 ^ m.length = z * (10 ^ m.length * 10) + (10 * 0 + ((c.toNat : Int) - 48)) * 10 ^ m.length := by
      rw [Int.add_mul, Int.mul_zero, Int.zero_add, Int.mul_comm (10 ^ m.length) 10, ← Int.mul_assoc z, Int.mul_comm z 10]
    rw [e]
    omega
theorem dval_app (l m : List UInt8) : dval (l ++ m) = dval l * 10 ^ m.length + dval m := by
  rw [dval, List.foldl_append, fold_from]
  rfl

theorem snoc_ind {P : List UInt8 → Prop} (h0 : P []) (h1 : ∀ l c, P l → P (l ++ [c])) (l : List UInt8) : P l := by
  rw [← List.reverse_reverse l]
  induction l.reverse with
  | nil => exact h0
  | cons c m ih => rw [List.reverse_cons]; exact h1 _ _ ih

theorem dval_lim (l : List UInt8) (h : allD l = true) : 0 ≤ dval l ∧ dval l < 10 ^ l.length := by
  induction l using snoc_ind with
  | h0 => exact ⟨Int.le_refl _, by decide⟩
  | h1 l c ih =>
    rw [allD_snoc, Bool.and_eq_true] at h
    obtain ⟨i1, i2⟩ := ih h.1
    have hc := h.2
    simp [dokB] at hc
    rw [dval_snoc, List.length_append, List.length_singleton, Int.pow_succ]
    omega

theorem str_take (s : ByteArray) (k : Nat) (h : k < s.size) : s.data.toList.take (k + 1) = s.data.toList.take k ++ [s[k]] := by
  rw [List.take_succ_eq_append_getElem (by simpa using h)]; rfl
theorem str_len (s : ByteArray) : s.data.toList.length = s.size := by simp

/-- A bad byte anywhere makes the whole no number. -/
theorem allD_bad (s : ByteArray) (k : Nat) (h : k < s.size) (hc : dokB s[k] = false) : allD s.data.toList = false := by
  rw [← List.take_append_drop (k + 1) s.data.toList, allD_app, str_take s k h, allD_snoc, hc]
  simp
theorem dokB_lo (c : UInt8) (h : (c.toNat : Int) < 48) : dokB c = false := by simp [dokB]; omega
theorem dokB_hi (c : UInt8) (h : 57 < (c.toNat : Int)) : dokB c = false := by simp [dokB]; omega
theorem dokB_yes (c : UInt8) (h : 48 ≤ (c.toNat : Int)) (h2 : (c.toNat : Int) ≤ 57) : dokB c = true := by simp [dokB]; omega

theorem room_of {b : Int} (hb : 0 < b) {l : List Int} {m : Nat} (hc : Can b l) (h : vb b l < b ^ m) : l.length ≤ m := by
  by_cases hl : l = []
  · subst hl; simp
  · have h1 := hc.ge hb hl
    rcases Nat.lt_or_ge m l.length with h2 | h2
    · have := pow_le_pow hb (show m ≤ l.length - 1 by omega)
      omega
    · exact h2
theorem ten_pow_b {b : Int} (hb : 10 ≤ b) (k : Nat) : (10 : Int) ^ k ≤ b ^ k := by
  induction k with
  | zero => rw [Int.pow_zero, Int.pow_zero]; exact Int.le_refl _
  | succ k ih =>
    rw [Int.pow_succ, Int.pow_succ]
    have h0 : (0 : Int) ≤ 10 ^ k := Int.le_of_lt (Int.pow_pos (by decide))
    have h1 : (10 : Int) ^ k * 10 ≤ 10 ^ k * b := Int.mul_le_mul_of_nonneg_left hb h0
    have h2 : (10 : Int) ^ k * b ≤ b ^ k * b := Int.mul_le_mul_of_nonneg_right ih (by omega)
    omega
/-- A number of n decimal digits takes at most n words. -/
theorem room_dec {l : List Int} {L : List UInt8} (hc : Can B64 l) (ha : allD L = true) (h : vb B64 l = dval L) : l.length ≤ L.length := by
  refine room_of B64_pos hc ?_
  rw [h]
  exact Int.lt_of_lt_of_le (dval_lim L ha).2 (ten_pow_b (by decide) _)

end Go.Proofs.Ytkkjkohmekbdbaa
