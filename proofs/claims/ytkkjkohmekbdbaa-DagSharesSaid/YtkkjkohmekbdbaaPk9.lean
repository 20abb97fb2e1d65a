/-
  Div64: Contract of math/bits.Div64: the quotient and the rest of two words by one, the high word less than the divisor.
  DivLimb: Contract of nat.divideByLimb: a number in a row is divided by a word, in place; the rest is returned.
  Chunks: Contract of nat.writeChunks: the decimal digits of a number are written into a row of bytes, nineteen at a time, from the end.
  Shift: Contracts of nat.shiftUp and nat.shiftDown, and the arithmetic of words that are shifted. Contract of nat.shiftDown. Contracts of nat.Shl and nat.Shr.
  LowBits: Contract of nat.lowBits: the rest of a number divided by a power of two.
  RefShift: Contracts of the reference's Shl and Shr.
  SqrtLimb: Contract of nat.sqrtLimb: the root of a number of one word, and what is left.
-/
import Derived.Test.YtkkjkohmekbdbaaPk6
import Derived.Test.YtkkjkohmekbdbaaPk2
import Derived.Test.YtkkjkohmekbdbaaPk7
import Derived.Test.YtkkjkohmekbdbaaPk5
import Derived.Deep.QuietTactic
import Derived.Test.YtkkjkohmekbdbaaPk8

namespace Go.Proofs.Ytkkjkohmekbdbaa
open Go.RowKit

theorem two_pow_nat (s : Nat) : ((2 : Int) ^ s) = ((2 ^ s : Nat) : Int) := by simp

/-- The shift of a divisor: how far it may be moved up. -/
theorem lz_facts (y : Int) (h2 : 0 < y) (h3 : y ≤ 18446744073709551615) : ∃ s : Nat, s ≤ 63 ∧ (64 - (Lib.bitLen y.toNat : Int)) = (s : Int) ∧ 9223372036854775808 ≤ y * 2 ^ s ∧ y * 2 ^ s ≤ 18446744073709551615 ∧ (2 : Int) ^ s * 2 ^ (64 - s) = 18446744073709551616 ∧ 0 < (2 : Int) ^ s ∧ 0 < (2 : Int) ^ (64 - s) := by
  obtain ⟨n, rfl⟩ := Int.eq_ofNat_of_zero_le (Int.le_of_lt h2)
  have hx : n < 2 ^ 64 := by omega
  have hle := bitLen_le64 n hx
  obtain ⟨h5, h6⟩ := bitLen_spec 64 n hx hx
  obtain ⟨h7, h8⟩ := h6 (by omega)
  rw [Int.toNat_natCast]
  obtain ⟨k, hk⟩ : ∃ k, k = Lib.bitLen n := ⟨_, rfl⟩
  rw [← hk] at h5 h7 h8 hle ⊢
  have e64 : 2 ^ (64 - k) * 2 ^ k = 18446744073709551616 := by rw [← Nat.pow_add, show 64 - k + k = 64 by omega]
  have e63 : 2 ^ (64 - k) * 2 ^ (k - 1) = 9223372036854775808 := by rw [← Nat.pow_add, show 64 - k + (k - 1) = 63 by omega]
  have p1 : 0 < 2 ^ (64 - k) := Nat.two_pow_pos _
  have a1 : 2 ^ (64 - k) * 2 ^ (k - 1) ≤ 2 ^ (64 - k) * n := Nat.mul_le_mul_left _ h7
  have a2 : 2 ^ (64 - k) * (n + 1) ≤ 2 ^ (64 - k) * 2 ^ k := Nat.mul_le_mul_left _ h5
  rw [Nat.mul_add] at a2
  refine ⟨64 - k, by omega, by omega, ?_, ?_, ?_, ?_, ?_⟩
  · rw [two_pow_nat, ← Int.natCast_mul, Nat.mul_comm]; omega
  · rw [two_pow_nat, ← Int.natCast_mul, Nat.mul_comm]; omega
  · rw [show 64 - (64 - k) = k by omega, two_pow_nat, two_pow_nat, ← Int.natCast_mul]; omega
  · rw [two_pow_nat]; omega
  · rw [two_pow_nat]; have := Nat.two_pow_pos (64 - (64 - k)); omega

theorem wrap3 (a u1 b r : Int) (h : a + u1 - b = r) (h0 : 0 ≤ r) (h1 : r ≤ 18446744073709551615) : IntKind.u64.wrap (IntKind.u64.wrap (IntKind.u64.wrap a + u1) - IntKind.u64.wrap b) = r := by
  simp only [IntKind.wrap_u64]
  omega

end Go.Proofs.Ytkkjkohmekbdbaa

namespace Go.Proofs.Ytkkjkohmekbdbaa
open Go.RowKit

/-- One step of the division of a number by a word, from the top. -/
theorem dl_step {l m : List Int} {k : Nat} {r d q x : Int} (hk : k < l.length) (hlm : m.length = l.length) (h : vb B64 (m.drop (k + 1)) * d + r = vb B64 (l.drop (k + 1))) (hx : x = l.getD k 0) (_hd : 0 < d)
    (hq : q = (r * 18446744073709551616 + x) / d) : vb B64 ((m.set k q).drop k) * d + (r * 18446744073709551616 + x) % d = vb B64 (l.drop k) := by
  have hkm : k < (m.set k q).length := by rw [List.length_set, hlm]; exact hk
  rw [vb_drop B64 hk, vb_drop B64 hkm, getD_set_same (by rw [hlm]; exact hk), ← hx, ← h]
  have e : (m.set k q).drop (k + 1) = m.drop (k + 1) := by
    apply List.ext_getElem?
    intro j
    rw [List.getElem?_drop, List.getElem?_drop, List.getElem?_set, if_neg (by omega)]
  rw [e]
  have := Int.mul_ediv_add_emod (r * 18446744073709551616 + x) d
  rw [← hq, Int.mul_comm d q] at this
  have e2 : (q + B64 * vb B64 (m.drop (k + 1))) * d = q * d + B64 * (vb B64 (m.drop (k + 1)) * d) := by rw [Int.add_mul, Int.mul_assoc]
  rw [e2]
  unfold B64 at *
  omega

/-- What nat.divideByLimb leaves. -/
def RetDL (b off n : Nat) (N d : Int) (w : World) (e : Ending) (w' : World) : Prop := e = .returned (.int .u64 (N % d)) ∧ InPl b off n (N / d) w w'

end Go.Proofs.Ytkkjkohmekbdbaa

namespace Go.Proofs.Ytkkjkohmekbdbaa
open Go.RowKit

/-- What nat.divideByLimb leaves of a row of the call's own. -/
def RetDLO (B : Nat) (v : Value) (l : List Int) (d : Int) (w : World) (e : Ending) (w' : World) : Prop :=
  e = .returned (.int .u64 (vb B64 l % d)) ∧ ∃ l', Ow B w' v l' ∧ Lim B64 l' ∧ vb B64 l' = vb B64 l / d ∧ Below B w w'

def RetTrO (B : Nat) (l : List Int) (w : World) (e : Ending) (w' : World) : Prop := ∃ v', e = .returned v' ∧ Ow B w v' (tr l) ∧ w = w'
theorem drop_set_at {l : List Int} {p : Nat} {x : Int} (hp : p < l.length) : (l.set p x).drop p = x :: l.drop (p + 1) := by
  rw [drop_getD_cons (by rw [List.length_set]; exact hp), getD_set_same hp]
  congr 1
  apply List.ext_getElem?
  intro j
  rw [List.getElem?_drop, List.getElem?_drop, List.getElem?_set, if_neg (by omega)]

theorem pow_chunk (N : Int) (a : Nat) : N / 10 ^ (19 * a) / 10000000000000000000 = N / 10 ^ (19 * (a + 1)) := by
  have e : (10 : Int) ^ (19 * (a + 1)) = 10 ^ (19 * a) * 10000000000000000000 := by rw [Nat.mul_add, Int.pow_add]; rfl
  rw [e, Int.ediv_ediv_of_nonneg (Int.le_of_lt (Int.pow_pos (by decide)))]
theorem dg_chunk (x : Int) : dg 19 (x % 10000000000000000000) = dg 19 x := by
  have := dg_mod 19 19 x (Nat.le_refl _)
  exact this

/-- What writeChunks leaves. -/
def RetWC (B g off n : Nat) (N : Int) (w : World) (e : Ending) (w' : World) : Prop := e = .returned (.tuple #[]) ∧ ArrB w' g off (dg n N) ∧ OnlyB B g off (off + n) w w'

end Go.Proofs.Ytkkjkohmekbdbaa

namespace Go.Proofs.Ytkkjkohmekbdbaa
open Go.RowKit


theorem pow2_split {r : Nat} (hr : r ≤ 64) : (18446744073709551616 : Int) = 2 ^ (64 - r) * 2 ^ r := by
  rw [← Int.pow_add, show 64 - r + r = 64 by omega]; rfl
theorem pow2_pos (r : Nat) : (0 : Int) < 2 ^ r := Int.pow_pos (by decide)
theorem or_comm64 (a b : Int) (ha : 0 ≤ a) (ha2 : a < 18446744073709551616) (hb : 0 ≤ b) (hb2 : b < 18446744073709551616) : bits .or .u64 a b = bits .or .u64 b a := by
  obtain ⟨a, rfl⟩ := Int.eq_ofNat_of_zero_le ha
  obtain ⟨b, rfl⟩ := Int.eq_ofNat_of_zero_le hb
  rw [bits_or_u64_nat _ _ (by omega) (by omega), bits_or_u64_nat _ _ (by omega) (by omega), Nat.or_comm]

/-- A word that is shifted up is laid over a word below the shift. -/
theorem or_shl (c x : Int) (r : Nat) (hr : r ≤ 64) (hc : 0 ≤ c) (hcr : c < 2 ^ r) (_hx : 0 ≤ x) : bits .or .u64 c (IntKind.u64.wrap (x * 2 ^ r)) = c + (x * 2 ^ r) % 18446744073709551616 := by
  have hp := pow2_pos r
  have e : (x * 2 ^ r) % 18446744073709551616 = (x % 2 ^ (64 - r)) * 2 ^ r := by
    rw [pow2_split hr, Int.mul_comm x, Int.mul_comm (2 ^ (64 - r)), Int.mul_emod_mul_of_pos _ _ hp, Int.mul_comm]
  have h0 : 0 ≤ x % 2 ^ (64 - r) := Int.emod_nonneg _ (by have := pow2_pos (64 - r); omega)
  have h1 : x % 2 ^ (64 - r) < 2 ^ (64 - r) := Int.emod_lt_of_pos _ (pow2_pos _)
  have h2 : (x % 2 ^ (64 - r)) * 2 ^ r + 2 ^ r ≤ 18446744073709551616 := by
    have h3 : (x % 2 ^ (64 - r) + 1) * 2 ^ r ≤ 2 ^ (64 - r) * 2 ^ r := Int.mul_le_mul_of_nonneg_right (by omega) (Int.le_of_lt hp)
    rw [← pow2_split hr, Int.add_mul, Int.one_mul] at h3
    exact h3
  have h4 : 0 ≤ (x % 2 ^ (64 - r)) * 2 ^ r := Int.mul_nonneg h0 (Int.le_of_lt hp)
  have e2 : IntKind.u64.wrap (x * 2 ^ r) = (x % 2 ^ (64 - r)) * 2 ^ r := by rw [IntKind.wrap_u64, e]
  rw [e2, or_comm64 _ _ hc (by omega) h4 (by omega), or_parts _ _ r h0 hc hcr (by omega), e, Int.add_comm]

/-- What a shift down by the rest takes. -/
theorem shr_shl (x : Int) (r : Nat) (hr : r ≤ 64) : x / 2 ^ (64 - r) = (x * 2 ^ r) / 18446744073709551616 := by
  rw [pow2_split hr, Int.mul_ediv_mul_of_pos_left _ _ (pow2_pos r)]

theorem up_step {o m : List Int} {q i : Nat} {x c P : Int} (hi : i < m.length) (hx : x = m.getD i 0) (hp : q + i + 1 < o.length) (hc : o.getD (q + i) 0 = c) (hz : o.getD (q + i + 1) 0 = 0)
    (hv : vb B64 o = B64 ^ q * (P * vb B64 (m.take i))) :
    vb B64 ((o.set (q + i) (c + (x * P) % 18446744073709551616)).set (q + i + 1) (x * P / 18446744073709551616)) = B64 ^ q * (P * vb B64 (m.take (i + 1))) := by
  rw [vb_set _ _ _ _ (by rw [List.length_set]; exact hp), vb_set _ _ _ _ (by omega), getD_set_other _ (by omega), hc, hz, hv, vb_take_succ B64 hi, ← hx, Int.pow_succ, Int.mul_assoc, Int.add_assoc, ← Int.mul_add]
  have e : c + x * P % 18446744073709551616 - c + B64 * (x * P / 18446744073709551616 - 0) = x * P := by unfold B64; omega
  rw [e, Int.mul_add, Int.mul_add, Int.pow_add]
  have e2 : B64 ^ q * (P * (B64 ^ i * x)) = B64 ^ q * B64 ^ i * (x * P) := by
    rw [Int.mul_assoc, Int.mul_comm P, Int.mul_assoc]
  rw [e2]

theorem pow2_words (k : Nat) : (2 : Int) ^ k = B64 ^ (k / 64) * 2 ^ (k % 64) := by
  have e : B64 ^ (k / 64) = 2 ^ (64 * (k / 64)) := by
    rw [Int.pow_mul]; rfl
  rw [e, ← Int.pow_add]
  congr 1
  omega

theorem getD_rep (n j : Nat) : (List.replicate n (0 : Int)).getD j 0 = 0 := by
  rw [List.getD_eq_getElem?_getD, List.getElem?_replicate]
  split <;> rfl
theorem or_lt (c x : Int) : bits .or .u64 c (IntKind.u64.wrap x) < 18446744073709551616 := by
  show IntKind.u64.wrap _ < _
  rw [IntKind.wrap_u64]
  omega

theorem tlen_zero_vb {l : List Int} (h : tlen l = 0) : vb B64 l = 0 := by
  rw [← vb_tr, tr, h]; rfl

theorem down_first {o m : List Int} {x r : Int} (ho : 0 < o.length) (hm : 0 < m.length) (hx : x = m.getD 0 0) :
    vb B64 ((o.set 0 (x / r)).take (0 + 1)) = vb B64 (m.take (0 + 1)) / r := by
  rw [vb_take_succ B64 hm, vb_take_succ B64 (by rw [List.length_set]; exact ho), getD_set_same ho, ← hx]
  simp

theorem down_step {o m : List Int} {j : Nat} {x d : Int} {r : Nat} (hr : r ≤ 63) (ho : j + 1 < o.length) (hm : j + 1 < m.length) (hx : x = m.getD (j + 1) 0) (hd : d = o.getD j 0)
    (hv : vb B64 (o.take (j + 1)) = vb B64 (m.take (j + 1)) / 2 ^ r) :
    vb B64 (((o.set (j + 1) (x / 2 ^ r)).set j (d + (x * 2 ^ (64 - r)) % 18446744073709551616)).take (j + 1 + 1)) = vb B64 (m.take (j + 1 + 1)) / 2 ^ r := by
  have hp := pow2_pos r
  have e0 : (o.set (j + 1) (x / 2 ^ r)).take j = o.take j := List.take_set_of_le (by omega)
  have e1 : ((o.set (j + 1) (x / 2 ^ r)).set j (d + (x * 2 ^ (64 - r)) % 18446744073709551616)).take j = o.take j := by
    rw [List.take_set_of_le (Nat.le_refl _), e0]
  have l1 : ((o.set (j + 1) (x / 2 ^ r)).set j (d + (x * 2 ^ (64 - r)) % 18446744073709551616)).length = o.length := by rw [List.length_set, List.length_set]
  rw [vb_take_succ B64 (by omega), vb_take_succ B64 (by omega), e1, getD_set_same (by rw [List.length_set]; omega), getD_set_other _ (by omega), getD_set_same (by omega)]
  rw [vb_take_succ B64 (l := m) hm, ← hx]
  rw [vb_take_succ B64 (l := o) (by omega), ← hd] at hv
  have hs := shr_shl x (64 - r) (by omega)
  rw [show 64 - (64 - r) = r by omega] at hs
  have hb : d + (x * 2 ^ (64 - r)) % 18446744073709551616 + B64 * (x / 2 ^ r) = d + x * 2 ^ (64 - r) := by
    rw [hs]; unfold B64; omega
  have e2 : vb B64 (o.take j) + B64 ^ j * (d + (x * 2 ^ (64 - r)) % 18446744073709551616) + B64 ^ (j + 1) * (x / 2 ^ r) = vb B64 (o.take j) + B64 ^ j * d + B64 ^ j * (x * 2 ^ (64 - r)) := by
    rw [Int.pow_succ, Int.mul_assoc, Int.add_assoc, ← Int.mul_add, hb, Int.mul_add]
    omega
  rw [e2, hv]
  have e3 : B64 ^ (j + 1) * x = (B64 ^ j * (x * 2 ^ (64 - r))) * 2 ^ r := by
    have h64 : (B64 : Int) = 2 ^ (64 - r) * 2 ^ r := pow2_split (by omega)
    rw [Int.pow_succ, Int.mul_assoc, Int.mul_assoc, Int.mul_assoc, ← h64, Int.mul_comm B64 x]
  rw [e3, Int.add_mul_ediv_right _ _ (by omega)]

/-- The words above the q-th. -/
theorem vb_drop_div {m : List Int} (h : Lim B64 m) (q : Nat) (hq : q ≤ m.length) : vb B64 (m.drop q) = vb B64 m / B64 ^ q := by
  have h1 := vb_split B64 m q hq
  have h2 := vb_lt B64_pos (h.take q)
  rw [List.length_take, Nat.min_eq_left hq] at h2
  have h3 := vb_nonneg B64_pos (h.take q)
  rw [h1, Int.add_mul_ediv_left _ _ (by have := pow_pos' B64_pos q; omega), Int.ediv_eq_zero_of_lt h3 h2]
  omega

end Go.Proofs.Ytkkjkohmekbdbaa

namespace Go.Proofs.Ytkkjkohmekbdbaa
open Go.RowKit

theorem and_mask (x : Int) (r : Nat) (hr : r ≤ 63) (h0 : 0 ≤ x) (h1 : x < 18446744073709551616) : bits .and .u64 x (2 ^ r - 1) = x % 2 ^ r := by
  obtain ⟨n, rfl⟩ := Int.eq_ofNat_of_zero_le h0
  have h2 : (2:Nat) ^ r ≤ 2 ^ 63 := Nat.pow_le_pow_right (by decide) hr
  have h3 : 1 ≤ (2:Nat) ^ r := Nat.one_le_two_pow
  have e : (2:Int) ^ r - 1 = ((2 ^ r - 1 : Nat) : Int) := by
    rw [Int.natCast_sub h3, Int.natCast_pow]; rfl
  rw [e, bits_and_u64_nat _ _ (by omega) (by omega), Nat.and_two_pow_sub_one_eq_mod, Int.natCast_emod, Int.natCast_pow]
  rfl

/-- What the copy leaves, and its number. -/
theorem low_copy {l : List Int} {N : Nat} (hl : Lim B64 l) : ∃ l0 H, l0 = l.take N ++ (List.replicate N (0 : Int)).drop l.length ∧ l0.length = N ∧ Lim B64 l0 ∧ vb B64 l = vb B64 l0 + B64 ^ N * H := by
  refine ⟨_, vb B64 (l.drop N), rfl, ?_, (hl.take N).app ((Lim.replicate B64_pos N).drop _), ?_⟩
  · rw [List.length_append, List.length_take, List.length_drop, List.length_replicate]; omega
  · rw [vb_append, List.drop_replicate, vb_replicate, Int.mul_zero, Int.add_zero]
    rcases Nat.lt_or_ge l.length N with h | h
    · rw [List.take_of_length_le (by omega), List.drop_of_length_le (by omega)]; simp
    · exact vb_split B64 l N h

theorem low_val {l0 : List Int} {q r k : Nat} {x V H : Int} (hl : l0.length = q + 1) (hlim : Lim B64 l0) (hr : r ≤ 63) (hk : (2:Int) ^ k = B64 ^ q * 2 ^ r) (hx : x = l0.getD q 0) (hV : V = vb B64 l0 + B64 ^ (q + 1) * H) :
    vb B64 (l0.set q (x % 2 ^ r)) = V % 2 ^ k := by
  have e1 := vb_set B64 l0 q (x % 2 ^ r) (by omega)
  have e2 := vb_take_succ B64 (l := l0) (k := q) (by omega)
  rw [List.take_of_length_le (by omega), ← hx] at e2
  have h0 := vb_nonneg B64_pos (hlim.take q)
  have h1 := vb_lt B64_pos (hlim.take q)
  rw [List.length_take, Nat.min_eq_left (by omega)] at h1
  rw [← hx, e2] at e1
  obtain ⟨A, hA⟩ : ∃ A, A = vb B64 (l0.take q) := ⟨_, rfl⟩
  obtain ⟨W, hW⟩ : ∃ W, W = B64 ^ q := ⟨_, rfl⟩
  obtain ⟨P, hP⟩ : ∃ P, P = (2:Int) ^ r := ⟨_, rfl⟩
  have hP0 : 0 < P := by rw [hP]; exact pow2_pos r
  have hW0 : 0 < W := by rw [hW]; exact pow_pos' B64_pos q
  have hPB : (18446744073709551616 : Int) = 2 ^ (64 - r) * P := by rw [hP]; exact pow2_split (by omega)
  have hB : B64 ^ (q + 1) = W * 18446744073709551616 := by rw [Int.pow_succ, ← hW]; rfl
  rw [← hA, ← hW] at e1 e2 h1
  rw [← hA] at h0
  rw [← hW, ← hP] at hk
  rw [← hP] at e1 ⊢
  have hm0 := Int.emod_nonneg x (show P ≠ 0 by omega)
  have hm1 := Int.emod_lt_of_pos x hP0
  have hdm := Int.mul_ediv_add_emod x P
  have hval : vb B64 (l0.set q (x % P)) = A + W * (x % P) := by
    rw [e1]; grind
  rw [hval, hk]
  have e5 : V = (A + W * (x % P)) + (W * P) * (x / P + 2 ^ (64 - r) * H) := by
    rw [hV, e2, hB, hPB]
    grind
  have h5 : W * (x % P + 1) ≤ W * P := Int.mul_le_mul_of_nonneg_left (by omega) (Int.le_of_lt hW0)
  rw [Int.mul_add, Int.mul_one] at h5
  have h6 := Int.mul_nonneg (Int.le_of_lt hW0) hm0
  rw [e5, Int.add_mul_emod_self_left]
  exact (Int.emod_eq_of_lt (a := A + W * (x % P)) (b := W * P) (by omega) (by omega)).symm

end Go.Proofs.Ytkkjkohmekbdbaa

namespace Go.Proofs.Ytkkjkohmekbdbaa
open Go.RowKit

/-- make([]uint64, k, n), k and n variables. -/
theorem wpList_make_words_cap {P : Program} (w : World) {ops : Array Oper} {rest : List Oper} {o : Oper} {a : Act} {Q : Exit → Act → World → Prop}
    (hg : o.guard = none) (l c : Operand) (t : TypeId) (hop : o.op = Op.makeSlice t l c)
    (h1 : P.underlying t = some (.slice 57)) (hi : (P.info? 57).map (fun i => (i.zero, i.size, i.bytes)) = some (some (.int .u64 0), 1, 8))
    (L C : Int) (k n : Nat) (hl : a.eval l = .int .i64 L) (hc : a.eval c = .int .i64 C) (hL : L = (k : Int)) (hC : C = (n : Int)) (hkn : k ≤ n) (b : n ≤ MaxW)
    (hK : ∀ w', Ow w.heap.size w' (.slice (some ⟨w.heap.size, 0, none⟩) k n) (List.replicate k 0) → Below w.heap.size w w' → w.heap.size < w'.heap.size → wpList P ops Q rest (a.put o.dst (.slice (some ⟨w.heap.size, 0, none⟩) k n)) w') :
    wpList P ops Q (o :: rest) a w := by
  obtain ⟨i, h2, h3, h4, h5⟩ := info_parts hi
  unfold MaxW at b
  have hr := run_make (P := P) w t 57 i (.int .u64 0) h1 h2 h3 .i64 .i64 (k : Int) (n : Int) (by omega) (by omega) (by rw [h5]; omega) (by omega)
  simp only [Int.toNat_natCast] at hr
  have hown0 := World.ownsRow_lit (e := 57) (size := i.size) w (madeCells (Value.int .u64 0).cells (n * i.size)) n (Nat.le_refl _) (by unfold maxLen; omega) (size_madeCells _ _)
  have e : (madeCells (Value.int .u64 0).cells (n * i.size)).toList = vals (List.replicate n 0) := by
    rw [h4, Nat.mul_one, show (Value.int .u64 0).cells = #[.int .u64 0] from rfl, toList_madeCells_one, vals, List.map_replicate]
  rw [e, h4] at hown0
  have hown1 : Ow w.heap.size (w.alloc (.cells (madeCells (Value.int .u64 0).cells (n * i.size)) 57)) (.slice (some ⟨w.heap.size, 0, none⟩) n n) (List.replicate n 0) := by
    unfold Ow; rw [List.length_replicate, h4]; exact hown0
  have hown2 := hown1.take k hkn
  rw [List.take_replicate, Nat.min_eq_left hkn] at hown2
  refine wpList_plain hg fun K hK' => ?_
  subst hL
  subst hC
  unfold Oper.wp
  simp [execOp, hop, hl, hc, hr, Result.andThen]
  exact hK' _ _ (hK _ hown2 ((Below.refl _ _).alloc (Nat.le_refl _) _) (by simp))

theorem rshl_step {o a : List Int} {q i : Nat} {x c v P : Int} (hi : i < a.length) (hx : x = a.getD i 0) (hol : o.length = q + i) (hv : v = x * P + c)
    (h : vb B32 o + B32 ^ (q + i) * c = B32 ^ q * (P * vb B32 (a.take i))) :
    vb B32 (o ++ [v % 4294967296]) + B32 ^ (q + (i + 1)) * (v / 4294967296) = B32 ^ q * (P * vb B32 (a.take (i + 1))) := by
  rw [vb_snoc, hol, vb_take_succ B32 hi, ← hx, ← Nat.add_assoc, Int.pow_succ, Int.mul_assoc, Int.add_assoc, ← Int.mul_add]
  have e : v % 4294967296 + B32 * (v / 4294967296) = c + x * P := by unfold B32; omega
  rw [e, Int.mul_add (B32 ^ (q + i)), ← Int.add_assoc, h, Int.mul_add P, Int.mul_add (B32 ^ q), Int.pow_add]
  have e2 : B32 ^ q * (P * (B32 ^ i * x)) = B32 ^ q * B32 ^ i * (x * P) := by
    rw [Int.mul_assoc, Int.mul_comm P, Int.mul_assoc]
  rw [e2]

theorem pow2_words32 (k : Nat) : (2 : Int) ^ k = B32 ^ (k / 32) * 2 ^ (k % 32) := by
  have e : B32 ^ (k / 32) = 2 ^ (32 * (k / 32)) := by
    rw [Int.pow_mul]; rfl
  rw [e, ← Int.pow_add]
  congr 1
  omega
theorem pow2_le31 {r : Nat} (hr : r ≤ 31) : (2 : Int) ^ r ≤ 2147483648 := by
  have := pow_le_pow (b := 2) (by decide) hr
  exact this

/-- A function has returned a number: a slice of digits with no room behind it. -/
def RetRdF (b : Int) (w : World) (N : Int) (e : Ending) (w' : World) : Prop :=
  ∃ ao n l, e = .returned (.slice ao n n) ∧ n = l.length ∧ n ≤ 9223372036854775807 ∧ Rd w' ao l ∧ Can b l ∧ vb b l = N ∧ Below w.heap.size w w' ∧ ∀ g o, ao = some ⟨g, o, none⟩ → w.heap.size ≤ g
theorem RetRdF.rd {b : Int} {w : World} {N : Int} {e : Ending} {w' : World} (h : RetRdF b w N e w') : RetRd b w N e w' := by
  obtain ⟨ao, n, l, h1, h2, h3, h4⟩ := h
  exact ⟨ao, n, n, l, h1, h2, Nat.le_refl _, h3, h4⟩
theorem shr_shl32 (x : Int) (r : Nat) (hr : r ≤ 32) : x / 2 ^ r = (x * 2 ^ (32 - r)) / 4294967296 := by
  have e : (4294967296 : Int) = 2 ^ r * 2 ^ (32 - r) := by rw [← Int.pow_add, show r + (32 - r) = 32 by omega]; rfl
  rw [e, Int.mul_ediv_mul_of_pos_left _ _ (pow2_pos _)]

theorem rshr_step {o m : List Int} {j r : Nat} {x y d : Int} (hr : r ≤ 31) (hj : j + 1 < m.length) (hy : y = m.getD (j + 1) 0) (hol : o.length = j) (hx : d = x / 2 ^ r + (y * 2 ^ (32 - r)) % 4294967296)
    (h : vb B32 o + B32 ^ j * (x / 2 ^ r) = vb B32 (m.take (j + 1)) / 2 ^ r) :
    vb B32 (o ++ [d]) + B32 ^ (j + 1) * (y / 2 ^ r) = vb B32 (m.take (j + 1 + 1)) / 2 ^ r := by
  rw [vb_snoc, hol, hx, vb_take_succ B32 hj, ← hy, Int.pow_succ, Int.mul_assoc, Int.add_assoc, ← Int.mul_add]
  have e : x / 2 ^ r + (y * 2 ^ (32 - r)) % 4294967296 + B32 * (y / 2 ^ r) = x / 2 ^ r + y * 2 ^ (32 - r) := by
    rw [shr_shl32 y r (by omega)]; unfold B32; omega
  rw [e, Int.mul_add, ← Int.add_assoc, h]
  have e3 : B32 ^ j * (B32 * y) = (B32 ^ j * (y * 2 ^ (32 - r))) * 2 ^ r := by
    have h64 : (B32 : Int) = 2 ^ (32 - r) * 2 ^ r := by rw [← Int.pow_add, show 32 - r + r = 32 by omega]; rfl
    rw [Int.mul_assoc, Int.mul_assoc, ← h64, Int.mul_comm B32 y]
  rw [Int.mul_assoc (B32 ^ j) B32 y, e3, Int.add_mul_ediv_right _ _ (by have := pow2_pos r; omega)]

theorem vb_drop_div32 {m : List Int} (h : Lim B32 m) (q : Nat) (hq : q ≤ m.length) : vb B32 (m.drop q) = vb B32 m / B32 ^ q := by
  have h1 := vb_split B32 m q hq
  have h2 := vb_lt B32_pos (h.take q)
  rw [List.length_take, Nat.min_eq_left hq] at h2
  have h3 := vb_nonneg B32_pos (h.take q)
  rw [h1, Int.add_mul_ediv_left _ _ (by have := pow_pos' B32_pos q; omega), Int.ediv_eq_zero_of_lt h3 h2]
  omega

/-- A digit shifted down, and the lower part of the next one, are a digit. -/
theorem rshr_digit {x y : Int} {r : Nat} (hr : r ≤ 31) (hx0 : 0 ≤ x) (hx1 : x < 4294967296) : 0 ≤ x / 2 ^ r ∧ x / 2 ^ r + (y * 2 ^ (32 - r)) % 4294967296 < 4294967296 := by
  have hp := pow2_pos r
  have hp2 := pow2_pos (32 - r)
  have e32 : (4294967296 : Int) = 2 ^ (32 - r) * 2 ^ r := by rw [← Int.pow_add, show 32 - r + r = 32 by omega]; rfl
  refine ⟨Int.ediv_nonneg hx0 (Int.le_of_lt hp), ?_⟩
  have h1 : x / 2 ^ r < 2 ^ (32 - r) := Int.ediv_lt_of_lt_mul hp (by rw [← e32]; exact hx1)
  have h2 : (y * 2 ^ (32 - r)) % 4294967296 = (y % 2 ^ r) * 2 ^ (32 - r) := by
    rw [e32, Int.mul_comm y, Int.mul_emod_mul_of_pos _ _ hp2, Int.mul_comm]
  have h3 : y % 2 ^ r < 2 ^ r := Int.emod_lt_of_pos _ hp
  have h4 := Int.mul_le_mul_of_nonneg_right (show y % 2 ^ r + 1 ≤ 2 ^ r by omega) (Int.le_of_lt hp2)
  rw [Int.add_mul, Int.one_mul, Int.mul_comm (2 ^ r) (2 ^ (32 - r)), ← e32] at h4
  omega

end Go.Proofs.Ytkkjkohmekbdbaa

namespace Go.Proofs.Ytkkjkohmekbdbaa
open Go.RowKit

/-- One step of Newton's from above: never below the root. -/
theorem newton_ge {x r : Int} (hr : 0 < r) : x < ((r + x / r) / 2 + 1) * ((r + x / r) / 2 + 1) := by
  obtain ⟨q, hq⟩ : ∃ q, q = x / r := ⟨_, rfl⟩
  rw [← hq]
  have h1 : x < r * (q + 1) := by
    have a := Int.mul_ediv_add_emod x r
    have b := Int.emod_lt_of_pos x hr
    rw [← hq] at a
    rw [Int.mul_add]
    omega
  obtain ⟨n, hn⟩ : ∃ n, n = (r + q) / 2 + 1 := ⟨_, rfl⟩
  rw [← hn]
  have h2 : r + (q + 1) ≤ 2 * n := by omega
  -- 4 n^2 is at least (r + (q + 1))^2, that is at least 4 r (q + 1)
  by_cases hq1 : 0 ≤ q + 1
  · have h3 : (r + (q + 1)) * (r + (q + 1)) ≤ (2 * n) * (2 * n) := Int.mul_le_mul h2 h2 (by omega) (by omega)
    have h4 : 0 ≤ (r - (q + 1)) * (r - (q + 1)) := by
      rcases Int.le_total 0 (r - (q + 1)) with h | h
      · exact Int.mul_nonneg h h
      · exact Int.mul_nonneg_of_nonpos_of_nonpos h h
    have e1 : (r + (q + 1)) * (r + (q + 1)) = (r - (q + 1)) * (r - (q + 1)) + 4 * (r * (q + 1)) := by
      simp only [Int.add_mul, Int.mul_add, Int.sub_mul, Int.mul_sub, Int.mul_comm (q + 1) r, Int.mul_one, Int.one_mul]
      omega
    have e2 : (2 * n) * (2 * n) = 4 * (n * n) := by rw [Int.mul_assoc, Int.mul_left_comm n 2 n]; omega
    omega
  · have h3 : r * (q + 1) ≤ 0 := Int.mul_nonpos_of_nonneg_of_nonpos (by omega) (by omega)
    have h4 : 0 ≤ n * n := by
      rcases Int.le_total 0 n with h | h
      · exact Int.mul_nonneg h h
      · exact Int.mul_nonneg_of_nonpos_of_nonpos h h
    omega

theorem newton_done {x r : Int} (hr : 0 < r) (h : r ≤ (r + x / r) / 2) : r * r ≤ x := by
  have a := Int.mul_ediv_add_emod x r
  have b := Int.emod_nonneg x (by omega : r ≠ 0)
  have : r * r ≤ r * (x / r) := Int.mul_le_mul_of_nonneg_left (by omega) (by omega)
  omega

theorem newton_quo {x r : Int} (hr : 0 < r) (h : x < (r + 1) * (r + 1)) : x / r ≤ r + 2 := by
  have : x / r < r + 3 := by
    refine Int.ediv_lt_of_lt_mul hr ?_
    have e : (r + 1) * (r + 1) = r * r + 2 * r + 1 := by rw [Int.add_mul, Int.mul_add]; omega
    rw [Int.add_mul]
    omega
  omega

/-- Two numbers of the call's own are returned. -/
def RetTwo (w : World) (R S : Int) (e : Ending) (w' : World) : Prop :=
  ∃ v1 l1 v2 l2, e = .returned (.tuple #[v1, v2]) ∧ Ow w.heap.size w' v1 l1 ∧ Can B64 l1 ∧ vb B64 l1 = R ∧ Ow w.heap.size w' v2 l2 ∧ Can B64 l2 ∧ vb B64 l2 = S ∧ Below w.heap.size w w'

/-- The greatest number whose square is not above N. -/
def IsRoot (N R : Int) : Prop := 0 ≤ R ∧ R * R ≤ N ∧ N < (R + 1) * (R + 1)

theorem root_unique {N R S : Int} (h : IsRoot N R) (k : IsRoot N S) : R = S := by
  obtain ⟨h1, h2, h3⟩ := h
  obtain ⟨k1, k2, k3⟩ := k
  rcases Int.lt_trichotomy R S with a | a | a
  · have : (R + 1) * (R + 1) ≤ S * S := Int.mul_le_mul (by omega) (by omega) (by omega) (by omega)
    omega
  · exact a
  · have : (S + 1) * (S + 1) ≤ R * R := Int.mul_le_mul (by omega) (by omega) (by omega) (by omega)
    omega

def RetSqrt (w : World) (N : Int) (e : Ending) (w' : World) : Prop := ∃ R, IsRoot N R ∧ RetTwo w R (N - R * R) e w'

theorem at_new (w : World) (x : Int) (t : TypeId) : Rd (w.alloc (.cells #[.int .u64 x] t)) (some ⟨w.heap.size, 0, none⟩) [x] := by
  refine Rd.of_at fun j hj => ?_
  have := news1 w x t j hj
  rwa [addr_add_none] at this

theorem vb_one (x : Int) : vb B64 [x] = x := by simp [vb_cons]

end Go.Proofs.Ytkkjkohmekbdbaa
