/-
  Plain arithmetic of lists of digits: the number that a list of digits of some base denotes, lists without zeros at their end, and how sums, differences and comparisons of such lists go. No program is spoken of here.
-/
namespace Go.Proofs.YtfhknnmffppfgaaDoor

/-- The number of a list of digits, the lowest first. -/
def vb (b : Int) : List Int → Int
  | [] => 0
  | x :: l => x + b * vb b l

/-- Every digit is one. -/
def Lim (b : Int) (l : List Int) : Prop := ∀ x ∈ l, 0 ≤ x ∧ x < b

/-- How many digits are left when the zeros at the end are taken off. -/
def tlen : List Int → Nat
  | [] => 0
  | x :: l => if tlen l = 0 then (if x = 0 then 0 else 1) else tlen l + 1

def tr (l : List Int) : List Int := l.take (tlen l)

/-- Digits, and no zero at the end. -/
def Can (b : Int) (l : List Int) : Prop := Lim b l ∧ tlen l = l.length

@[simp] theorem vb_nil (b : Int) : vb b [] = 0 := rfl
theorem vb_cons (b x : Int) (l : List Int) : vb b (x :: l) = x + b * vb b l := rfl

theorem Lim.nil (b : Int) : Lim b [] := fun _ h => by cases h
theorem Lim.cons {b x : Int} {l : List Int} (h0 : 0 ≤ x) (h1 : x < b) (h : Lim b l) : Lim b (x :: l) := by
  intro y hy
  rcases List.mem_cons.1 hy with rfl | hy
  · exact ⟨h0, h1⟩
  · exact h y hy
theorem Lim.tail {b x : Int} {l : List Int} (h : Lim b (x :: l)) : Lim b l := fun y hy => h y (List.mem_cons_of_mem _ hy)
theorem Lim.head {b x : Int} {l : List Int} (h : Lim b (x :: l)) : 0 ≤ x ∧ x < b := h x (List.mem_cons_self ..)
theorem Lim.app {b : Int} {l m : List Int} (h : Lim b l) (k : Lim b m) : Lim b (l ++ m) := by
  intro x hx
  rcases List.mem_append.1 hx with hx | hx
  · exact h x hx
  · exact k x hx
theorem Lim.take {b : Int} {l : List Int} (h : Lim b l) (k : Nat) : Lim b (l.take k) := fun x hx => h x (List.mem_of_mem_take hx)
theorem Lim.drop {b : Int} {l : List Int} (h : Lim b l) (k : Nat) : Lim b (l.drop k) := fun x hx => h x (List.mem_of_mem_drop hx)
theorem Lim.getD {b : Int} {l : List Int} (hb : 0 < b) (h : Lim b l) (k : Nat) : 0 ≤ l.getD k 0 ∧ l.getD k 0 < b := by
  by_cases hk : k < l.length
  · rw [List.getD_eq_getElem?_getD, List.getElem?_eq_getElem hk]
    exact h _ (List.getElem_mem hk)
  · rw [List.getD_eq_getElem?_getD, List.getElem?_eq_none (by omega)]
    exact ⟨Int.le_refl _, hb⟩
theorem Lim.set {b : Int} {l : List Int} (h : Lim b l) (k : Nat) {x : Int} (h0 : 0 ≤ x) (h1 : x < b) : Lim b (l.set k x) := by
  intro y hy
  rcases List.mem_or_eq_of_mem_set hy with hy | rfl
  · exact h y hy
  · exact ⟨h0, h1⟩
theorem Lim.replicate {b : Int} (hb : 0 < b) (n : Nat) : Lim b (List.replicate n 0) := by
  intro y hy
  rw [(List.mem_replicate.1 hy).2]
  exact ⟨Int.le_refl _, hb⟩

theorem pow_pos' {b : Int} (hb : 0 < b) (n : Nat) : 0 < b ^ n := Int.pow_pos hb

theorem vb_nonneg {b : Int} (hb : 0 < b) {l : List Int} (h : Lim b l) : 0 ≤ vb b l := by
  induction l with
  | nil => exact Int.le_refl _
  | cons x l ih =>
    rw [vb_cons]
    have := h.head
    have := Int.mul_nonneg (Int.le_of_lt hb) (ih h.tail)
    omega

theorem vb_lt {b : Int} (hb : 0 < b) {l : List Int} (h : Lim b l) : vb b l < b ^ l.length := by
  induction l with
  | nil => show (0:Int) < b ^ 0; rw [Int.pow_zero]; decide
  | cons x l ih =>
    rw [vb_cons, List.length_cons, Int.pow_succ]
    have h1 := h.head
    have h2 := ih h.tail
    have h3 : b * (vb b l + 1) ≤ b * b ^ l.length := Int.mul_le_mul_of_nonneg_left (by omega) (Int.le_of_lt hb)
    rw [Int.mul_add] at h3
    rw [Int.mul_comm (b ^ l.length) b]
    omega

theorem vb_append (b : Int) (l m : List Int) : vb b (l ++ m) = vb b l + b ^ l.length * vb b m := by
  induction l with
  | nil => simp
  | cons x l ih =>
    rw [List.cons_append, vb_cons, vb_cons, ih, List.length_cons, Int.pow_succ, Int.mul_add, Int.mul_comm (b ^ l.length) b, Int.mul_assoc]
    omega

theorem vb_replicate (b : Int) (n : Nat) : vb b (List.replicate n 0) = 0 := by
  induction n with
  | zero => rfl
  | succ n ih => rw [List.replicate_succ, vb_cons, ih]; simp

/-- A digit more at the end. -/
theorem vb_snoc (b x : Int) (l : List Int) : vb b (l ++ [x]) = vb b l + b ^ l.length * x := by
  rw [vb_append, vb_cons, vb_nil, Int.mul_zero, Int.add_zero]

/-- The first k digits and the others. -/
theorem vb_split (b : Int) (l : List Int) (k : Nat) (hk : k ≤ l.length) : vb b l = vb b (l.take k) + b ^ k * vb b (l.drop k) := by
  have h := vb_append b (l.take k) (l.drop k)
  rw [List.take_append_drop, List.length_take, Nat.min_eq_left hk] at h
  exact h

theorem take_succ_getD {l : List Int} {k : Nat} (hk : k < l.length) : l.take (k + 1) = l.take k ++ [l.getD k 0] := by
  rw [List.take_succ_eq_append_getElem hk]
  congr 2
  rw [List.getD_eq_getElem?_getD, List.getElem?_eq_getElem hk]; rfl

theorem vb_take_succ (b : Int) {l : List Int} {k : Nat} (hk : k < l.length) : vb b (l.take (k + 1)) = vb b (l.take k) + b ^ k * l.getD k 0 := by
  rw [take_succ_getD hk, vb_snoc, List.length_take, Nat.min_eq_left (by omega)]

theorem drop_getD_cons {l : List Int} {k : Nat} (hk : k < l.length) : l.drop k = l.getD k 0 :: l.drop (k + 1) := by
  rw [List.drop_eq_getElem_cons hk]
  congr 1
  rw [List.getD_eq_getElem?_getD, List.getElem?_eq_getElem hk]; rfl

theorem vb_drop (b : Int) {l : List Int} {k : Nat} (hk : k < l.length) : vb b (l.drop k) = l.getD k 0 + b * vb b (l.drop (k + 1)) := by
  rw [drop_getD_cons hk, vb_cons]

/-- One digit set: the number turns by the difference at its place. -/
theorem vb_set (b : Int) (l : List Int) (k : Nat) (x : Int) (hk : k < l.length) : vb b (l.set k x) = vb b l + b ^ k * (x - l.getD k 0) := by
  induction l generalizing k with
  | nil => simp at hk
  | cons y l ih =>
    cases k with
    | zero => simp [vb_cons]; omega
    | succ k =>
      rw [List.set_cons_succ, vb_cons, ih k (by simpa using hk), vb_cons, List.getD_cons_succ, Int.pow_succ, Int.mul_add, Int.mul_comm (b ^ k) b, Int.mul_assoc]
      omega

theorem getD_set_same {l : List Int} {k : Nat} (hk : k < l.length) (x : Int) : (l.set k x).getD k 0 = x := by
  simp [List.getD_eq_getElem?_getD, hk]
theorem getD_set_other (l : List Int) {k j : Nat} (h : k ≠ j) (x : Int) : (l.set k x).getD j 0 = l.getD j 0 := by
  simp [List.getD_eq_getElem?_getD, h]

theorem getD_take {l : List Int} {k j : Nat} (h : j < k) : (l.take k).getD j 0 = l.getD j 0 := by
  simp [List.getD_eq_getElem?_getD, h]
theorem getD_drop (l : List Int) (k j : Nat) : (l.drop k).getD j 0 = l.getD (k + j) 0 := by
  simp [List.getD_eq_getElem?_getD]

/-! ### Zeros at the end -/

theorem tlen_le (l : List Int) : tlen l ≤ l.length := by
  induction l with
  | nil => exact Nat.le_refl _
  | cons x l ih =>
    simp only [tlen, List.length_cons]
    split
    · split <;> omega
    · omega

theorem tlen_zero_above {l : List Int} : ∀ j, tlen l ≤ j → l.getD j 0 = 0 := by
  induction l with
  | nil => intro j _; simp
  | cons x l ih =>
    intro j hj
    simp only [tlen] at hj
    cases j with
    | zero =>
      by_cases h0 : tlen l = 0
      · by_cases hx : x = 0
        · simp [hx]
        · simp [h0, hx] at hj
      · simp [h0] at hj
    | succ j =>
      rw [List.getD_cons_succ]
      apply ih
      by_cases h0 : tlen l = 0
      · omega
      · simp only [h0, if_false] at hj; omega

theorem tlen_top {l : List Int} (h : tlen l ≠ 0) : l.getD (tlen l - 1) 0 ≠ 0 := by
  induction l with
  | nil => exact absurd rfl h
  | cons x l ih =>
    simp only [tlen] at h ⊢
    by_cases h0 : tlen l = 0
    · by_cases hx : x = 0
      · simp [h0, hx] at h
      · simp [h0, hx]
    · simp only [h0, if_false] at h ⊢
      have := ih h0
      rw [show tlen l + 1 - 1 = (tlen l - 1) + 1 by omega, List.getD_cons_succ]
      exact this

/-- What the count is. -/
theorem tlen_eq {l : List Int} {k : Nat} (_hk : k ≤ l.length) (h0 : ∀ j, k ≤ j → j < l.length → l.getD j 0 = 0) (h1 : k = 0 ∨ l.getD (k - 1) 0 ≠ 0) : tlen l = k := by
  have hle := tlen_le l
  rcases Nat.lt_trichotomy (tlen l) k with h | h | h
  · rcases h1 with h1 | h1
    · omega
    · exact absurd (tlen_zero_above (l := l) (k - 1) (by omega)) h1
  · exact h
  · exact absurd (h0 (tlen l - 1) (by omega) (by omega)) (tlen_top (by omega))

theorem tr_length (l : List Int) : (tr l).length = tlen l := by
  rw [tr, List.length_take, Nat.min_eq_left (tlen_le l)]

theorem vb_zeros (b : Int) {l : List Int} (h : ∀ x ∈ l, x = 0) : vb b l = 0 := by
  induction l with
  | nil => rfl
  | cons x l ih =>
    rw [vb_cons, ih (fun y hy => h y (List.mem_cons_of_mem _ hy)), h x (List.mem_cons_self ..)]; simp

theorem mem_getD {l : List Int} {x : Int} (h : x ∈ l) : ∃ j, j < l.length ∧ l.getD j 0 = x := by
  obtain ⟨j, hj, rfl⟩ := List.getElem_of_mem h
  exact ⟨j, hj, by rw [List.getD_eq_getElem?_getD, List.getElem?_eq_getElem hj]; rfl⟩

theorem vb_tr (b : Int) (l : List Int) : vb b (tr l) = vb b l := by
  rw [vb_split b l (tlen l) (tlen_le l), vb_zeros b (l := l.drop (tlen l)), Int.mul_zero, Int.add_zero, tr]
  intro x hx
  obtain ⟨j, _, rfl⟩ := mem_getD hx
  rw [getD_drop]
  exact tlen_zero_above _ (by omega)

theorem tlen_tr (l : List Int) : tlen (tr l) = tlen l := by
  refine tlen_eq ?_ ?_ ?_
  · rw [tr_length]; exact Nat.le_refl _
  · intro j h1 h2; rw [tr_length] at h2; omega
  · by_cases h : tlen l = 0
    · exact Or.inl h
    · exact Or.inr (by rw [tr, getD_take (by omega)]; exact tlen_top h)

theorem can_tr {b : Int} {l : List Int} (h : Lim b l) : Can b (tr l) := ⟨h.take _, by rw [tlen_tr, tr_length]⟩
theorem Can.lim {b : Int} {l : List Int} (h : Can b l) : Lim b l := h.1
theorem Can.nil (b : Int) : Can b [] := ⟨Lim.nil b, rfl⟩
theorem Can.tr {b : Int} {l : List Int} (h : Can b l) : tr l = l := by rw [Proofs.YtfhknnmffppfgaaDoor.tr, h.2, List.take_length]
theorem Can.top {b : Int} {l : List Int} (h : Can b l) (hl : l ≠ []) : l.getD (l.length - 1) 0 ≠ 0 := by
  have : l.length ≠ 0 := by simpa using hl
  rw [← h.2] at this ⊢
  exact tlen_top this

/-- A number with n digits of which the top one is not 0 is at least b^(n-1). -/
theorem Can.ge {b : Int} (hb : 0 < b) {l : List Int} (h : Can b l) (hl : l ≠ []) : b ^ (l.length - 1) ≤ vb b l := by
  have hn : 0 < l.length := List.length_pos_iff.2 hl
  have ht := h.top hl
  have hd := h.lim.getD hb (l.length - 1)
  have e := vb_take_succ b (l := l) (k := l.length - 1) (by omega)
  rw [show l.length - 1 + 1 = l.length by omega, List.take_length] at e
  have h0 := vb_nonneg hb (h.lim.take (l.length - 1))
  have hp := pow_pos' hb (l.length - 1)
  have : b ^ (l.length - 1) * 1 ≤ b ^ (l.length - 1) * l.getD (l.length - 1) 0 := Int.mul_le_mul_of_nonneg_left (by omega) (Int.le_of_lt hp)
  omega

theorem pow_le_pow {b : Int} (hb : 0 < b) {m n : Nat} (h : m ≤ n) : b ^ m ≤ b ^ n := by
  obtain ⟨k, rfl⟩ := Nat.le.dest h
  rw [Int.pow_add]
  have h1 : (1 : Int) ≤ b ^ k := pow_pos' hb k
  have h2 := pow_pos' hb m
  have := Int.mul_le_mul_of_nonneg_left h1 (Int.le_of_lt h2)
  omega

/-- The longer of two numbers without zeros at their ends is the greater one. -/
theorem can_lt_of_length {b : Int} (hb : 0 < b) {l m : List Int} (hl : Lim b l) (hm : Can b m) (h : l.length < m.length) : vb b l < vb b m := by
  have h1 := vb_lt hb hl
  have h2 := hm.ge hb (by intro e; subst e; simp at h)
  have h3 := pow_le_pow hb (show l.length ≤ m.length - 1 by omega)
  omega

/-- Two lists of digits of one length that are one number are one list. -/
theorem eq_of_vb {b : Int} (hb : 0 < b) : ∀ {l m : List Int}, Lim b l → Lim b m → l.length = m.length → vb b l = vb b m → l = m := by
  intro l
  induction l with
  | nil => intro m _ _ h _; exact (List.eq_nil_of_length_eq_zero h.symm).symm
  | cons x l ih =>
    intro m hl hm h e
    cases m with
    | nil => simp at h
    | cons y m =>
      rw [vb_cons, vb_cons] at e
      have hx := hl.head
      have hy := hm.head
      have h1 : x % b = x := Int.emod_eq_of_lt hx.1 hx.2
      have h2 : y % b = y := Int.emod_eq_of_lt hy.1 hy.2
      have h3 : (x + b * vb b l) % b = x % b := Int.add_mul_emod_self_left ..
      have h4 : (y + b * vb b m) % b = y % b := Int.add_mul_emod_self_left ..
      have hxy : x = y := by rw [e, h4, h1, h2] at h3; exact h3.symm
      subst hxy
      have : b * vb b l = b * vb b m := by omega
      have hv := Int.eq_of_mul_eq_mul_left (by omega : b ≠ 0) this
      rw [ih hl.tail hm.tail (by simpa using h) hv]

theorem can_eq {b : Int} (hb : 0 < b) {l m : List Int} (hl : Can b l) (hm : Can b m) (e : vb b l = vb b m) : l = m := by
  refine eq_of_vb hb hl.lim hm.lim ?_ e
  rcases Nat.lt_trichotomy l.length m.length with h | h | h
  · have := can_lt_of_length hb hl.lim hm h; omega
  · exact h
  · have := can_lt_of_length hb hm.lim hl h; omega

theorem Can.eq_nil {b : Int} (hb : 0 < b) {l : List Int} (hl : Can b l) (e : vb b l = 0) : l = [] := can_eq hb hl (Can.nil b) e

/-- The digits above k are alike, the digit at k is less: the number is less. -/
theorem lt_of_digit {b : Int} (hb : 0 < b) {l m : List Int} (hl : Lim b l) (hm : Lim b m) (h : l.length = m.length) {k : Nat} (hk : k < l.length)
    (heq : ∀ j, k < j → j < l.length → l.getD j 0 = m.getD j 0) (hlt : l.getD k 0 < m.getD k 0) : vb b l < vb b m := by
  have e1 := vb_split b l k (by omega)
  have e2 := vb_split b m k (by omega)
  have d1 := vb_drop b (l := l) hk
  have d2 := vb_drop b (l := m) (k := k) (by omega)
  have hdr : l.drop (k + 1) = m.drop (k + 1) := by
    apply List.ext_getElem?
    intro j
    by_cases hj : k + 1 + j < l.length
    · have := heq (k + 1 + j) (by omega) hj
      rw [List.getElem?_drop, List.getElem?_drop, List.getElem?_eq_getElem hj, List.getElem?_eq_getElem (by omega)]
      simpa [List.getD_eq_getElem?_getD, List.getElem?_eq_getElem hj, List.getElem?_eq_getElem (show k + 1 + j < m.length by omega)] using this
    · rw [List.getElem?_eq_none (by simp; omega), List.getElem?_eq_none (by simp; omega)]
  rw [hdr] at d1
  have h1 := vb_lt hb (hl.take k)
  rw [List.length_take, Nat.min_eq_left (by omega)] at h1
  have h0 := vb_nonneg hb (hm.take k)
  have hp := pow_pos' hb k
  rw [d1] at e1
  rw [d2] at e2
  have hmul : b ^ k * (l.getD k 0 + b * vb b (m.drop (k + 1)) + 1) ≤ b ^ k * (m.getD k 0 + b * vb b (m.drop (k + 1))) := Int.mul_le_mul_of_nonneg_left (by omega) (Int.le_of_lt hp)
  rw [Int.mul_add (b ^ k) _ 1, Int.mul_one] at hmul
  omega

/-! ### Words of 64 bits -/

/-- The low word and what is above it. -/
def lo64 (x : Int) : Int := x % 18446744073709551616
def hi64 (x : Int) : Int := x / 18446744073709551616
/-- The borrow of a difference. -/
def bo64 (x : Int) : Int := -(x / 18446744073709551616)
def B64 : Int := 18446744073709551616
def B32 : Int := 4294967296

theorem B64_pos : 0 < B64 := by decide
theorem B32_pos : 0 < B32 := by decide
theorem lohi (x : Int) : lo64 x + B64 * hi64 x = x := by unfold lo64 hi64 B64; omega
theorem lobo (x : Int) : lo64 x - B64 * bo64 x = x := by unfold lo64 bo64 B64; omega
theorem lo64_lim (x : Int) : 0 ≤ lo64 x ∧ lo64 x < B64 := by unfold lo64 B64; omega
theorem hi64_carry {x y c : Int} (hx : 0 ≤ x ∧ x < B64) (hy : 0 ≤ y ∧ y < B64) (hc : 0 ≤ c ∧ c ≤ 1) : 0 ≤ hi64 (x + y + c) ∧ hi64 (x + y + c) ≤ 1 := by unfold hi64; unfold B64 at hx hy; omega
theorem bo64_carry {x y c : Int} (hx : 0 ≤ x ∧ x < B64) (hy : 0 ≤ y ∧ y < B64) (hc : 0 ≤ c ∧ c ≤ 1) : 0 ≤ bo64 (x - y - c) ∧ bo64 (x - y - c) ≤ 1 := by unfold bo64; unfold B64 at hx hy; omega

/-- One word added, the carry handed on. -/
theorem add_step {l : List Int} {k : Nat} {x c T : Int} (hk : k < l.length) (h : vb B64 l + B64 ^ k * c = T) :
    vb B64 (l.set k (lo64 (l.getD k 0 + x + c))) + B64 ^ (k + 1) * hi64 (l.getD k 0 + x + c) = T + B64 ^ k * x := by
  rw [vb_set _ _ _ _ hk, Int.pow_succ, Int.mul_assoc, Int.add_assoc, ← Int.mul_add]
  have e : lo64 (l.getD k 0 + x + c) - l.getD k 0 + B64 * hi64 (l.getD k 0 + x + c) = c + x := by
    have := lohi (l.getD k 0 + x + c)
    omega
  rw [e, Int.mul_add]
  omega
/-- One word taken away, the borrow handed on. -/
theorem sub_step {l : List Int} {k : Nat} {x c T : Int} (hk : k < l.length) (h : vb B64 l - B64 ^ k * c = T) :
    vb B64 (l.set k (lo64 (l.getD k 0 - x - c))) - B64 ^ (k + 1) * bo64 (l.getD k 0 - x - c) = T - B64 ^ k * x := by
  rw [vb_set _ _ _ _ hk, Int.pow_succ, Int.mul_assoc]
  have e : lo64 (l.getD k 0 - x - c) - l.getD k 0 - B64 * bo64 (l.getD k 0 - x - c) = - c - x := by
    have := lobo (l.getD k 0 - x - c)
    omega
  have e2 : B64 ^ k * (lo64 (l.getD k 0 - x - c) - l.getD k 0) - B64 ^ k * (B64 * bo64 (l.getD k 0 - x - c)) = B64 ^ k * (- c - x) := by rw [← Int.mul_sub, e]
  have e3 : B64 ^ k * (- c - x) = - (B64 ^ k * c) - B64 ^ k * x := by rw [Int.mul_sub, Int.mul_neg]
  omega
/-- A carry that is still there has a place. -/
theorem carry_room {l : List Int} {k : Nat} {c T : Int} (hl : Lim B64 l) (hc : 0 < c) (h : vb B64 l + B64 ^ k * c = T) (hT : T < B64 ^ l.length) : k < l.length := by
  rcases Nat.lt_or_ge k l.length with h1 | h1
  · exact h1
  · have h2 := pow_le_pow B64_pos h1
    have h3 := vb_nonneg B64_pos hl
    have h4 : B64 ^ k * 1 ≤ B64 ^ k * c := Int.mul_le_mul_of_nonneg_left (by omega) (Int.le_of_lt (pow_pos' B64_pos k))
    omega
theorem borrow_room {l : List Int} {k : Nat} {c T : Int} (hl : Lim B64 l) (hc : 0 < c) (h : vb B64 l - B64 ^ k * c = T) (hT : 0 ≤ T) : k < l.length := by
  rcases Nat.lt_or_ge k l.length with h1 | h1
  · exact h1
  · have h2 := pow_le_pow B64_pos h1
    have h3 := vb_lt B64_pos hl
    have h4 : B64 ^ k * 1 ≤ B64 ^ k * c := Int.mul_le_mul_of_nonneg_left (by omega) (Int.le_of_lt (pow_pos' B64_pos k))
    omega

/-- Which of two numbers is the greater one. -/
def cmpI (a b : Int) : Int := if a < b then -1 else if a = b then 0 else 1
theorem cmpI_lt {a b : Int} (h : a < b) : cmpI a b = -1 := if_pos h
theorem cmpI_gt {a b : Int} (h : b < a) : cmpI a b = 1 := by rw [cmpI, if_neg (by omega), if_neg (by omega)]
theorem cmpI_eq {a b : Int} (h : a = b) : cmpI a b = 0 := by rw [cmpI, if_neg (by omega), if_pos h]

/-! ### Digits of 32 bits and words of 64 -/

/-- Each word as two digits. -/
def dig : List Int → List Int
  | [] => []
  | x :: l => x % 4294967296 :: x / 4294967296 :: dig l
theorem dig_length (l : List Int) : (dig l).length = 2 * l.length := by
  induction l with
  | nil => rfl
  | cons x l ih => simp only [dig, List.length_cons, ih]; omega
theorem dig_append (l m : List Int) : dig (l ++ m) = dig l ++ dig m := by
  induction l with
  | nil => rfl
  | cons x l ih => simp [dig, ih]
theorem dig_take {l : List Int} {k : Nat} (hk : k < l.length) : dig (l.take (k + 1)) = dig (l.take k) ++ [l.getD k 0 % 4294967296, l.getD k 0 / 4294967296] := by
  rw [take_succ_getD hk, dig_append]; rfl
theorem dig_lim {l : List Int} (h : Lim B64 l) : Lim B32 (dig l) := by
  induction l with
  | nil => exact Lim.nil _
  | cons x l ih =>
    have hx := h.head
    unfold B64 at hx
    exact Lim.cons (by omega) (by unfold B32; omega) (Lim.cons (by omega) (by unfold B32; omega) (ih h.tail))
theorem vb_dig (l : List Int) : vb B32 (dig l) = vb B64 l := by
  induction l with
  | nil => rfl
  | cons x l ih =>
    simp only [dig, vb_cons, ih]
    unfold B32 B64
    omega

/-- Each two digits as a word. -/
def prs : List Int → List Int
  | [] => []
  | [x] => [x]
  | x :: y :: l => (x + y * 4294967296) :: prs l
theorem prs_spec : ∀ (l : List Int), (prs l).length = (l.length + 1) / 2 ∧ ∀ j, (prs l).getD j 0 = l.getD (2 * j) 0 + l.getD (2 * j + 1) 0 * 4294967296
  | [] => ⟨rfl, fun j => by simp [prs]⟩
  | [x] => ⟨by simp [prs], fun j => by cases j <;> simp [prs]⟩
  | x :: y :: l => by
    obtain ⟨h1, h2⟩ := prs_spec l
    refine ⟨by simp only [prs, List.length_cons, h1]; omega, fun j => ?_⟩
    cases j with
    | zero => simp [prs]
    | succ j =>
      rw [show 2 * (j + 1) = (2 * j + 1) + 1 by omega]
      simp only [prs, List.getD_cons_succ]
      exact h2 j
theorem prs_lim : ∀ {l : List Int}, Lim B32 l → Lim B64 (prs l)
  | [], _ => Lim.nil _
  | [x], h => Lim.cons h.head.1 (by have := h.head; unfold B32 at this; unfold B64; omega) (Lim.nil _)
  | x :: y :: l, h => by
    have h1 := h.head
    have h2 := h.tail.head
    unfold B32 at h1 h2
    exact Lim.cons (by omega) (by unfold B64; omega) (prs_lim h.tail.tail)
theorem vb_prs : ∀ (l : List Int), vb B64 (prs l) = vb B32 l
  | [] => rfl
  | [x] => by simp [prs, vb_cons]
  | x :: y :: l => by
    simp only [prs, vb_cons, vb_prs l]
    unfold B32 B64
    omega
theorem prs_can {l : List Int} (h : Can B32 l) : Can B64 (prs l) := by
  obtain ⟨h1, h2⟩ := prs_spec l
  refine ⟨prs_lim h.lim, ?_⟩
  by_cases hl : l = []
  · subst hl; rfl
  · have hn : 0 < l.length := List.length_pos_iff.2 hl
    have ht := h.top hl
    refine tlen_eq (Nat.le_refl _) (fun j a b => by omega) (Or.inr ?_)
    rw [h1, h2]
    have d0 := h.lim.getD B32_pos (2 * ((l.length + 1) / 2 - 1))
    have d1 := h.lim.getD B32_pos (2 * ((l.length + 1) / 2 - 1) + 1)
    rcases (show l.length - 1 = 2 * ((l.length + 1) / 2 - 1) ∨ l.length - 1 = 2 * ((l.length + 1) / 2 - 1) + 1 by omega) with e | e
    · rw [e] at ht; omega
    · rw [e] at ht; omega

end Go.Proofs.YtfhknnmffppfgaaDoor
