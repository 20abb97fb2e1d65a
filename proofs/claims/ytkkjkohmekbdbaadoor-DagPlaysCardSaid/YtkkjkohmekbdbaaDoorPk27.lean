/-
  Flo1: Contracts of package flo on words: cut, Finite, Step; of package math: IsNaN, IsInf.
  Dyad1: Contracts of package dyad: Make, Of, Sign, Top, on numbers of any exponent.
  Flo2: flo.shorten: a number cut to one word.
  Flo3: flo.towardsZero: the float64 next to a number towards zero.
  Flo4: flo.Float and flo.Dyad.
  FloC: Steps of float64 words there and back; the two words about a number. No program is spoken of here.
  Flo5: The reference's Finite, Step, signed; the statement's own same; Step of what is no number.
  Nod0: Nodes (api.Node) in memory: lists of them as slices; compassbook.SameNodes of lists that are alike.
  Nod1: The reference's Same and Valid of nodes.
-/
import Derived.Test.YtkkjkohmekbdbaaDoorPk12
import Derived.Test.YtkkjkohmekbdbaaDoorPk26
import Derived.Test.YtkkjkohmekbdbaaDoorPk22
import Derived.WalkLawsBesides
import Derived.Maps.AppendAt
import Derived.BigQuiet

namespace Go.Proofs.YtkkjkohmekbdbaaDoor
open Go.RowKit
theorem bits_run (b : Nat) (w : World) : (callFunc 22 #[.float .f64 b]).run Tryd.prog w = .ok (.value (.int .u64 (b : Int))) w := by
  rw [run_callFunc_extern Tryd.func22 (by kernel_rfl) (by kernel_rfl) (by kernel_rfl) (e := Extern.MathFloatBits.float64bits) (by kernel_rfl)]
  rfl
/-- A function has returned a float64's word and turned nothing. -/
def RetB (w : World) (v : Value) (e : Ending) (w' : World) : Prop := e = .returned v ∧ w = w'
set_option maxRecDepth 100000 in
theorem cut_num (b : Nat) (w : World) (hb : b < 18446744073709551616) : Calls Tryd.prog 73 #[.float .f64 b] w fun e w' => RetB w (.tuple #[.bool (fneg b), .int .i64 ((b / 4503599627370496 % 2048 : Nat) : Int), .int .u64 ((b % 4503599627370496 : Nat) : Int)]) e w' := by
  have h1 : bits .and .u64 ((b : Int) / 4503599627370496) 2047 = ((b / 4503599627370496 % 2048 : Nat) : Int) := by
    have := and_mask ((b : Int) / 4503599627370496) 11 (by decide) (by omega) (by omega)
    rw [show (2 : Int) ^ 11 - 1 = 2047 by decide, show (2 : Int) ^ 11 = 2048 by decide] at this
    rw [this]; omega
  have h2 : bits .and .u64 (b : Int) 4503599627370495 = ((b % 4503599627370496 : Nat) : Int) := by
    have := and_mask (b : Int) 52 (by decide) (by omega) (by omega)
    rw [show (2 : Int) ^ 52 - 1 = 4503599627370495 by decide, show (2 : Int) ^ 52 = 4503599627370496 by decide] at this
    rw [this]; omega
  have h3 : ((b : Int) / 9223372036854775808 == 1) = fneg b := by
    unfold fneg
    by_cases e : b < 9223372036854775808
    · have e1 : (b : Int) / 9223372036854775808 = 0 := by omega
      have e2 : b / 9223372036854775808 % 2 = 0 := by omega
      rw [e1, e2]; rfl
    · have e1 : (b : Int) / 9223372036854775808 = 1 := by omega
      have e2 : b / 9223372036854775808 % 2 = 1 := by omega
      rw [e1, e2]; rfl
  obtain ⟨F, hF⟩ : ∃ F, b / 4503599627370496 % 2048 = F := ⟨_, rfl⟩
  have hF2 : F < 2048 := by rw [← hF]; exact Nat.mod_lt _ (by decide)
  obtain ⟨G, hG⟩ : ∃ G, b % 4503599627370496 = G := ⟨_, rfl⟩
  obtain ⟨p, hp⟩ : ∃ p, fneg b = p := ⟨_, rfl⟩
  rw [hF] at h1 ⊢
  rw [hG] at h2 ⊢
  rw [hp] at h3 ⊢
  clear hF hG hp
  go_enter Tryd.func73, Tryd.ntmps73
  go_wp2_with (simp only [bits_run])
  go_ret3
  exact ⟨rfl, rfl⟩
theorem field_inf {b : Nat} : (b / 4503599627370496 % 2048 = 2047) ↔ INF ≤ rg b := by
  unfold rg INF
  omega
set_option maxRecDepth 100000 in
theorem finite_num (b : Nat) (w : World) (hb : b < 18446744073709551616) : Calls Tryd.prog 56 #[.float .f64 b] w fun e w' => RetB w (.bool (decide (rg b < INF))) e w' := by
  have HC := Lib.hid (cut_num b w hb)
  have hf : ((((b / 4503599627370496 % 2048 : Nat) : Int)) != 2047) = decide (rg b < INF) := by
    have h := field_inf (b := b)
    by_cases e : rg b < INF
    · rw [decide_eq_true e]
      simp only [bne_iff_ne, ne_eq]
      omega
    · rw [decide_eq_false e]
      have : b / 4503599627370496 % 2048 = 2047 := h.2 (by omega)
      rw [this]; rfl
  obtain ⟨F, hF⟩ : ∃ F, b / 4503599627370496 % 2048 = F := ⟨_, rfl⟩
  obtain ⟨G, hG⟩ : ∃ G, b % 4503599627370496 = G := ⟨_, rfl⟩
  obtain ⟨p, hp⟩ : ∃ p, fneg b = p := ⟨_, rfl⟩
  obtain ⟨r, hr⟩ : ∃ r, decide (rg b < INF) = r := ⟨_, rfl⟩
  rw [hF, hG, hp] at HC
  rw [hF, hr] at hf
  rw [hr]
  clear hF hG hp hr
  go_enter Tryd.func56, Tryd.ntmps56
  go_wp2_with fail
  refine HC.out.mono ?_
  rintro e w' ⟨rfl, rfl⟩
  go_wp2_with fail
  go_ret
  exact ⟨rfl, rfl⟩
/-- A float64 with the other sign. -/
theorem neg_word {b : Nat} (hb : b < 18446744073709551616) : rg (Op.negFloat .f64 b) = rg b ∧ fneg (Op.negFloat .f64 b) = !fneg b := by
  have e : Op.negFloat .f64 b = b ^^^ 2 ^ 63 := rfl
  have hx : Op.negFloat .f64 b = if b < 9223372036854775808 then 9223372036854775808 + b else b - 9223372036854775808 := by
    rw [e]
    by_cases h : b < 9223372036854775808
    · rw [if_pos h]
      apply Nat.eq_of_testBit_eq
      intro i
      rw [Nat.testBit_xor, Nat.testBit_two_pow]
      rcases Nat.lt_trichotomy i 63 with hi | hi | hi
      · rw [decide_eq_false (by omega), Bool.xor_false]
        exact (Nat.testBit_two_pow_add_gt hi b).symm
      · subst hi
        rw [decide_eq_true rfl, Bool.xor_true]
        exact (Nat.testBit_two_pow_add_eq b 63).symm
      · have hp : 2 ^ 64 ≤ 2 ^ i := Nat.pow_le_pow_right (by decide) hi
        rw [Nat.testBit_lt_two_pow (show b < 2 ^ i by omega), Nat.testBit_lt_two_pow (show 9223372036854775808 + b < 2 ^ i by omega), decide_eq_false (by omega)]
        rfl
    · rw [if_neg h]
      obtain ⟨c, rfl⟩ := Nat.le.dest (Nat.le_of_not_lt h)
      rw [Nat.add_sub_cancel_left]
      apply Nat.eq_of_testBit_eq
      intro i
      rw [Nat.testBit_xor, Nat.testBit_two_pow]
      rcases Nat.lt_trichotomy i 63 with hi | hi | hi
      · rw [decide_eq_false (by omega), Bool.xor_false]
        exact Nat.testBit_two_pow_add_gt hi c
      · subst hi
        rw [decide_eq_true rfl, Bool.xor_true]
        have := Nat.testBit_two_pow_add_eq c 63
        rw [show (9223372036854775808 : Nat) = 2 ^ 63 by decide, this, Bool.not_not]
      · have hp : 2 ^ 64 ≤ 2 ^ i := Nat.pow_le_pow_right (by decide) hi
        rw [Nat.testBit_lt_two_pow (show 9223372036854775808 + c < 2 ^ i by omega), Nat.testBit_lt_two_pow (show c < 2 ^ i by omega), decide_eq_false (by omega)]
        rfl
  rw [hx]
  unfold rg fneg
  by_cases h : b < 9223372036854775808
  · rw [if_pos h]
    refine ⟨by omega, ?_⟩
    have e1 : (9223372036854775808 + b) / 9223372036854775808 % 2 = 1 := by omega
    have e2 : b / 9223372036854775808 % 2 = 0 := by omega
    rw [e1, e2]; rfl
  · rw [if_neg h]
    refine ⟨by omega, ?_⟩
    have e1 : (b - 9223372036854775808) / 9223372036854775808 % 2 = 0 := by omega
    have e2 : b / 9223372036854775808 % 2 = 1 := by omega
    rw [e1, e2]; rfl
theorem fv_max : fv 9218868437227405311 = (un 9218868437227405311 : Int) := fv_pos (by decide)
theorem gt_max {b : Nat} (h : rg b ≤ INF) : (FloatKind.f64.format.order b 9218868437227405311 == some Ordering.gt) = (!fneg b && decide (rg b = INF)) := by
  rw [fgt_num h (by decide), fv_max]
  have hU := un_step 9218868437227405311
  cases hs : fneg b
  · rw [fv_def, hs]
    by_cases e : rg b = INF
    · rw [e]
      simp only [Bool.not_false, Bool.true_and, decide_true, Bool.false_eq_true, if_false]
      exact decide_eq_true (by exact_mod_cast hU)
    · have h1 := un_le (show rg b ≤ 9218868437227405311 by unfold INF at h e; omega)
      rw [decide_eq_false e, Bool.and_false]
      simp only [Bool.false_eq_true, if_false]
      exact decide_eq_false (by omega)
  · rw [fv_def, hs]
    simp only [Bool.not_true, Bool.false_and, if_true]
    exact decide_eq_false (by omega)
theorem unary_neg_float {P : Program} (b : Nat) (w : World) : (Op.unary .neg (.float .f64 b)).run P w = .ok (.float .f64 (Op.negFloat .f64 b)) w := rfl
/-- What Step gives for a word that is no NaN. -/
def stepW (b : Nat) (down : Bool) : Nat :=
  if rg b = 0 then (if down then 9223372036854775809 else 1)
  else if fneg b then (if down then (if rg b = INF then b else b + 1) else b - 1)
  else (if down then b - 1 else if rg b = INF then b else b + 1)
end Go.Proofs.YtkkjkohmekbdbaaDoor

namespace Go.Proofs.YtkkjkohmekbdbaaDoor
open Go.RowKit

theorem drop_num {w : World} {b o n c : Nat} {N : Int} {m : Nat} (h : Num w (.slice (some ⟨b, o, none⟩) n c) N m) {k : Nat} (hk : k ≤ n) : Num w (.slice (some ⟨b, o + k, none⟩) (n - k) (c - k)) (N / B64 ^ k) m := by
  obtain ⟨a', n', c', l, he, h1, h2, h3, hrd, hl, hv, hm⟩ := h.open
  cases he
  have hs := vb_split B64 l k (by omega)
  have ht0 := vb_nonneg B64_pos (hl.take k)
  have ht1 := vb_lt B64_pos (hl.take k)
  have hlt : (l.take k).length = k := by rw [List.length_take]; omega
  rw [hlt] at ht1
  have hp := pow_pos' B64_pos k
  have e : N / B64 ^ k = vb B64 (l.drop k) := by
    rw [← hv, hs, Int.add_mul_ediv_left _ _ (by omega), Int.ediv_eq_zero_of_lt ht0 ht1, Int.zero_add]
  refine ⟨l.drop k, ⟨some ⟨b, o + k, none⟩, c - k, by rw [List.length_drop, ← h1], by rw [List.length_drop]; omega, by omega, Rd.of_at (hrd.at'.drop k), hl.drop k⟩, e.symm, by rw [List.length_drop]; omega⟩
theorem low_lt64 {N : Int} {t m : Nat} (h : LowOf N t) (hN0 : N ≠ 0) (h0 : 0 ≤ N) (hN : N < B64 ^ m) : t < 64 * m := by
  rcases h with ⟨h1, -⟩ | ⟨-, z, hz⟩
  · exact absurd h1 hN0
  · have hp := pow2_pos t
    have hz0 : 1 ≤ 2 * z + 1 := by
      rcases Int.lt_or_le (2 * z + 1) 1 with h3 | h3
      · exfalso
        have : 2 ^ t * (2 * z + 1) ≤ 2 ^ t * 0 := Int.mul_le_mul_of_nonneg_left (by omega) (by omega)
        omega
      · exact h3
    have h4 : (2 : Int) ^ t * 1 ≤ 2 ^ t * (2 * z + 1) := Int.mul_le_mul_of_nonneg_left hz0 (by omega)
    have h5 : (2 : Int) ^ t < 2 ^ (64 * m) := by
      rw [show (2 : Int) ^ (64 * m) = B64 ^ m by rw [Int.pow_mul]; rfl]
      omega
    exact two_pow_lt_of h5
/-- A dyad in its one form has been returned: that of a sign, an amount, an exponent. -/
def RetDy (w : World) (p : Bool) (N E : Int) (m : Nat) (e : Ending) (w' : World) : Prop :=
  ∃ p' a n c N' E', ∃ t : Nat, e = .returned (.agg #[.bool p', .slice a n c, .int .i64 E']) ∧ NewN w.heap.size w' (.slice a n c) N' m ∧
    ((N = 0 ∧ p' = false ∧ N' = 0 ∧ E' = 0 ∧ t = 0) ∨ (N ≠ 0 ∧ p' = p ∧ N' * 2 ^ t = N ∧ E' = E + t ∧ t ≤ 64 * m ∧ ∃ z, N' = 2 * z + 1)) ∧ Below w.heap.size w w'
theorem RetDy.mk {w w' : World} {p p' : Bool} {N E N' E' : Int} {m : Nat} {a : Option Addr} {n c t : Nat} (h : NewN w.heap.size w' (.slice a n c) N' m)
    (hv : (N = 0 ∧ p' = false ∧ N' = 0 ∧ E' = 0 ∧ t = 0) ∨ (N ≠ 0 ∧ p' = p ∧ N' * 2 ^ t = N ∧ E' = E + t ∧ t ≤ 64 * m ∧ ∃ z, N' = 2 * z + 1)) (hb : Below w.heap.size w w') :
    RetDy w p N E m (.returned (.agg #[.bool p', .slice a n c, .int .i64 E'])) w' := ⟨p', a, n, c, N', E', t, rfl, h, hv, hb⟩
theorem NewN.var3 {base : Nat} {w w' : World} {v : Value} {N : Int} {m g lo hi : Nat} (h : NewN base w v N m) (ho : Only g lo hi w w') (hb : g < base) : NewN base w' v N m := h.only ho hb

end Go.Proofs.YtkkjkohmekbdbaaDoor

namespace Go.Proofs.YtkkjkohmekbdbaaDoor
open Go.RowKit

theorem one_word {base : Nat} {w : World} {a : Option Addr} {n c : Nat} {V : Int} {m : Nat} (h : NewN base w (.slice a n c) V m) (h0 : V ≠ 0) (hV : V < 18446744073709551616) : ∃ g, a = some ⟨g, 0, none⟩ ∧ n = 1 ∧ 1 ≤ c ∧ w.cell? ⟨g, 0, none⟩ = some (.int .u64 V) := by
  obtain ⟨l, hO, hC, hv, hlen⟩ := h
  have hne : l ≠ [] := by
    intro e
    rw [e] at hv
    exact h0 hv.symm
  have hl1 : l.length ≤ 1 := room_of B64_pos hC (by rw [hv]; exact hV)
  match l, hne, hl1, hO, hv with
  | [x], _, _, hO, hv =>
    obtain ⟨g, n', cap, he, hn', h1, h2, hA, -, -⟩ := ow_row hO (by simp)
    simp only [Value.slice.injEq] at he
    obtain ⟨rfl, rfl, rfl⟩ := he
    rw [vb_one] at hv
    subst hv
    have hc := hA.at'.get (j := 0) (by simp)
    rw [hn'] at h1
    exact ⟨g, rfl, by rw [hn']; rfl, h1, hc⟩

end Go.Proofs.YtkkjkohmekbdbaaDoor

namespace Go.Proofs.YtkkjkohmekbdbaaDoor
open Go.RowKit

theorem un_pack {L man : Nat} (h : man ≤ 9007199254740992) (h2 : 4503599627370496 ≤ man ∨ L = 0) : un (L * 4503599627370496 + man) = man * 2 ^ L := by
  unfold un
  by_cases h1 : man < 4503599627370496
  · have hL : L = 0 := by omega
    subst hL
    rw [Nat.zero_mul, Nat.zero_add, if_pos h1, Nat.pow_zero, Nat.mul_one]
  · rw [if_neg (by omega)]
    by_cases h3 : man = 9007199254740992
    · subst h3
      have e1 : (L * 4503599627370496 + 9007199254740992) % 4503599627370496 = 0 := by omega
      have e2 : (L * 4503599627370496 + 9007199254740992) / 4503599627370496 - 1 = L + 1 := by omega
      rw [e1, e2, Nat.pow_succ]
      have := Nat.two_pow_pos L
      generalize 2 ^ L = P at *
      omega
    · have e1 : (L * 4503599627370496 + man) % 4503599627370496 = man - 4503599627370496 := by omega
      have e2 : (L * 4503599627370496 + man) / 4503599627370496 - 1 = L := by omega
      rw [e1, e2, show 4503599627370496 + (man - 4503599627370496) = man by omega]
/-- A rung lies next to an amount times a power of two, towards zero. -/
structure TZ (R : Nat) (ex : Bool) (N E : Int) : Prop where
  lt : R < INF
  eq : ex = true → ∀ K : Nat, 1074 ≤ K → 0 ≤ E + K → (un R : Int) * 2 ^ (K - 1074) = N * 2 ^ (E + K).toNat
  gt : ex = false → ∀ K : Nat, 1074 ≤ K → 0 ≤ E + K → (un R : Int) * 2 ^ (K - 1074) < N * 2 ^ (E + K).toNat ∧ (R + 1 < INF → N * 2 ^ (E + K).toNat < (un (R + 1) : Int) * 2 ^ (K - 1074))
def RetTZ (w : World) (N E : Int) (e : Ending) (w' : World) : Prop := ∃ (R : Nat) (ex : Bool), e = .returned (.tuple #[.float .f64 R, .bool ex]) ∧ TZ R ex N E ∧ Below w.heap.size w w'
theorem pow_split2 {a b c : Nat} (h : a + b = c) : (2 : Int) ^ c = 2 ^ a * 2 ^ b := by rw [← h, Int.pow_add]
theorem cast_pow2 (a q : Nat) : ((a * 2 ^ q : Nat) : Int) = (a : Int) * 2 ^ q := by rw [Int.natCast_mul, Int.natCast_pow]; rfl
theorem un_max (L : Nat) (hL : L = 2045) : (un 9218868437227405311 : Int) = 9007199254740991 * 2 ^ L := by
  have h := un_pack (L := L) (man := 9007199254740991) (by decide) (Or.inl (by decide))
  rw [show L * 4503599627370496 + 9007199254740991 = 9218868437227405311 by omega] at h
  rw [h, cast_pow2]
  exact congrArg (· * (2 : Int) ^ L) (rfl : ((9007199254740991 : Nat) : Int) = 9007199254740991)
/-- The cut of a number of more bits than a float64 holds. -/
theorem tz_cut {N E : Int} {j L man t : Nat} (hN : 0 < N) (hm0 : (man : Int) = N / 2 ^ j) (hL : (L : Int) = j + E + 1074) (hm1 : man < 9007199254740992) (hm2 : 4503599627370496 ≤ man ∨ L = 0) (hL2 : L ≤ 2045) (ht : LowOf N t) :
    TZ (L * 4503599627370496 + man) (decide (j ≤ t)) N E := by
  have e1 := Int.mul_ediv_add_emod N (2 ^ j)
  have e2 := Int.emod_lt_of_pos N (pow2_pos j)
  have e3 := Int.emod_nonneg N (by have := pow2_pos j; omega : (2 : Int) ^ j ≠ 0)
  rw [← hm0] at e1
  have hlow : N % 2 ^ j = 0 ↔ j ≤ t := by
    rcases ht with ⟨h1, -⟩ | ⟨-, z, hz⟩
    · omega
    · constructor
      · intro h0
        by_cases hk : j ≤ t
        · exact hk
        · exfalso
          obtain ⟨d, rfl⟩ := Nat.le.dest (show t + 1 ≤ j by omega)
          rw [h0, Int.add_zero] at e1
          have hp2 : (2 : Int) ^ (t + 1 + d) = 2 ^ t * (2 * 2 ^ d) := by rw [Int.pow_add, Int.pow_succ]; grind
          rw [hz, hp2, Int.mul_assoc] at e1
          have hpt := pow2_pos t
          have e4 := Int.eq_of_mul_eq_mul_left (by omega) e1
          rw [Int.mul_assoc] at e4
          omega
      · intro hk
        obtain ⟨d, rfl⟩ := Nat.le.dest hk
        rw [hz, Int.pow_add, Int.mul_assoc]
        exact Int.mul_emod_right _ _
  have hR : L * 4503599627370496 + man < INF := by unfold INF; omega
  have hu : (un (L * 4503599627370496 + man) : Int) = (man : Int) * 2 ^ L := by
    rw [un_pack (by omega) hm2, Int.natCast_mul, Int.natCast_pow]; rfl
  have hu1 : (un (L * 4503599627370496 + man + 1) : Int) = ((man : Int) + 1) * 2 ^ L := by
    rw [Nat.add_assoc, un_pack (by omega) (by omega), Int.natCast_mul, Int.natCast_pow, Int.natCast_add]; rfl
  have hpw : ∀ K : Nat, 1074 ≤ K → 0 ≤ E + K → (2 : Int) ^ L * 2 ^ (K - 1074) = 2 ^ j * 2 ^ (E + K).toNat := by
    intro K h1 h2
    rw [← Int.pow_add, ← Int.pow_add]
    exact congrArg (fun n : Nat => (2 : Int) ^ n) (by omega)
  refine ⟨hR, fun hx K h1 h2 => ?_, fun hx K h1 h2 => ?_⟩
  · have h0 := hlow.2 (by simpa using hx)
    rw [h0, Int.add_zero] at e1
    rw [hu, Int.mul_assoc, hpw K h1 h2, ← Int.mul_assoc, Int.mul_comm (man : Int), e1]
  · have h0 : N % 2 ^ j ≠ 0 := fun h => by
      have := hlow.1 h
      simp at hx; omega
    have hP := pow2_pos (E + K).toNat
    rw [hu, hu1, Int.mul_assoc, Int.mul_assoc, hpw K h1 h2, ← Int.mul_assoc, ← Int.mul_assoc, Int.mul_comm (man : Int), Int.mul_comm ((man : Int) + 1)]
    refine ⟨Int.mul_lt_mul_of_pos_right (by omega) hP, fun _ => Int.mul_lt_mul_of_pos_right ?_ hP⟩
    rw [Int.mul_add, Int.mul_one]; omega
/-- A number that a float64 holds with bits to spare. -/
theorem tz_whole {N E : Int} {j L man : Nat} (hm0 : (man : Int) = N * 2 ^ j) (hL : (L : Int) + j = E + 1074) (hm1 : man < 9007199254740992) (hm2 : 4503599627370496 ≤ man ∨ L = 0) (hL2 : L ≤ 2045) :
    TZ (L * 4503599627370496 + man) true N E := by
  have hR : L * 4503599627370496 + man < INF := by unfold INF; omega
  have hu : (un (L * 4503599627370496 + man) : Int) = (man : Int) * 2 ^ L := by
    rw [un_pack (by omega) hm2, Int.natCast_mul, Int.natCast_pow]; rfl
  refine ⟨hR, fun _ K h1 h2 => ?_, fun hx => by cases hx⟩
  rw [hu, hm0, Int.mul_assoc, Int.mul_assoc, ← Int.pow_add, ← Int.pow_add]
  exact congrArg (fun n : Nat => N * (2 : Int) ^ n) (by omega)
theorem tz_big {N E : Int} (hN : 0 < N) (hE : E > 1024 - (nb N : Int)) : TZ 9218868437227405311 false N E := by
  obtain ⟨h1, h2, h3⟩ := nb_spec hN
  refine ⟨by decide, fun h => (by cases h), fun _ K hK hEK => ⟨?_, fun h => absurd h (by decide)⟩⟩
  obtain ⟨L, hL⟩ : ∃ L : Nat, L = 2045 := ⟨_, rfl⟩
  rw [un_max L hL]
  obtain ⟨q, hq⟩ : ∃ q, (E + K).toNat = q := ⟨_, rfl⟩
  obtain ⟨s, hs⟩ : ∃ s, K - 1074 = s := ⟨_, rfl⟩
  have hge : 53 + (L + s) ≤ nb N - 1 + q := by omega
  rw [hq, hs]
  have e1 : (2 : Int) ^ (nb N - 1) * 2 ^ q ≤ N * 2 ^ q := Int.mul_le_mul_of_nonneg_right h1 (Int.le_of_lt (pow2_pos q))
  rw [← Int.pow_add] at e1
  have e2 : (2 : Int) ^ (53 + (L + s)) ≤ 2 ^ (nb N - 1 + q) := pow_le_pow (by decide) hge
  have e3 : (9007199254740991 : Int) * 2 ^ L * 2 ^ s < 2 ^ (53 + (L + s)) := by
    rw [Int.pow_add, Int.mul_assoc, ← Int.pow_add]
    exact Int.mul_lt_mul_of_pos_right (by decide) (pow2_pos _)
  omega
theorem tz_small {N E : Int} (hN : 0 < N) (hE : E < -1074 - (nb N : Int)) : TZ 0 false N E := by
  obtain ⟨h1, h2, h3⟩ := nb_spec hN
  refine ⟨by decide, fun h => (by cases h), fun _ K hK hEK => ?_⟩
  obtain ⟨q, hq⟩ : ∃ q, (E + K).toNat = q := ⟨_, rfl⟩
  obtain ⟨s, hs⟩ : ∃ s, K - 1074 = s := ⟨_, rfl⟩
  rw [hq, hs]
  refine ⟨?_, fun _ => ?_⟩
  · rw [un_zero]
    have := Int.mul_pos hN (pow2_pos q)
    simpa using this
  · have e0 : (un (0 + 1) : Int) = 1 := by decide
    rw [e0, Int.one_mul]
    have e1 : N * 2 ^ q < 2 ^ nb N * 2 ^ q := Int.mul_lt_mul_of_pos_right h2 (pow2_pos q)
    rw [← Int.pow_add] at e1
    have e2 : (2 : Int) ^ (nb N + q) ≤ 2 ^ s := pow_le_pow (by decide) (by omega)
    omega
theorem tz_zero (E : Int) : TZ 0 true 0 E := by
  refine ⟨by decide, fun _ K _ _ => ?_, fun h => by cases h⟩
  rw [un_zero]; simp

end Go.Proofs.YtkkjkohmekbdbaaDoor

namespace Go.Proofs.YtkkjkohmekbdbaaDoor
open Go.RowKit

theorem TZ.unique {R R' : Nat} {ex ex' : Bool} {N E : Int} (h : TZ R ex N E) (g : TZ R' ex' N E) : R = R' ∧ ex = ex' := by
  obtain ⟨K, hK⟩ : ∃ K : Nat, K = 1074 + E.natAbs := ⟨_, rfl⟩
  have h1 : 1074 ≤ K := by omega
  have h2 : 0 ≤ E + K := by omega
  have hs := pow2_pos (K - 1074)
  have mono : ∀ {a b : Nat}, a ≤ b → (un a : Int) * 2 ^ (K - 1074) ≤ (un b : Int) * 2 ^ (K - 1074) := fun {a b} hab => Int.mul_le_mul_of_nonneg_right (by have := un_le hab; omega) (Int.le_of_lt hs)
  have smono : ∀ {a b : Nat}, a < b → (un a : Int) * 2 ^ (K - 1074) < (un b : Int) * 2 ^ (K - 1074) := fun {a b} hab => Int.mul_lt_mul_of_pos_right (by have := un_lt hab; omega) hs
  cases ex <;> cases ex'
  · refine ⟨?_, rfl⟩
    obtain ⟨a1, a2⟩ := h.gt rfl K h1 h2
    obtain ⟨b1, b2⟩ := g.gt rfl K h1 h2
    rcases Nat.lt_trichotomy R R' with hr | hr | hr
    · have := a2 (by have := g.lt; omega)
      have := mono (show R + 1 ≤ R' from hr)
      omega
    · exact hr
    · have := b2 (by have := h.lt; omega)
      have := mono (show R' + 1 ≤ R from hr)
      omega
  · exfalso
    obtain ⟨a1, a2⟩ := h.gt rfl K h1 h2
    have b1 := g.eq rfl K h1 h2
    rcases Nat.lt_or_ge R R' with hr | hr
    · have := a2 (by have := g.lt; omega)
      have := mono (show R + 1 ≤ R' from hr)
      omega
    · have := mono hr
      omega
  · exfalso
    obtain ⟨a1, a2⟩ := g.gt rfl K h1 h2
    have b1 := h.eq rfl K h1 h2
    rcases Nat.lt_or_ge R' R with hr | hr
    · have := a2 (by have := h.lt; omega)
      have := mono (show R' + 1 ≤ R from hr)
      omega
    · have := mono hr
      omega
  · refine ⟨?_, rfl⟩
    have a1 := h.eq rfl K h1 h2
    have b1 := g.eq rfl K h1 h2
    rcases Nat.lt_trichotomy R R' with hr | hr | hr
    · have := smono hr; omega
    · exact hr
    · have := smono hr; omega

/-- The word that a rung stands for with a sign; nought has none. -/
def sgW (neg : Bool) (R : Nat) : Nat := match neg with
  | false => R
  | true => if R = 0 then 0 else 9223372036854775808 + R
/-- What Float gives. -/
def floW (neg : Bool) (R : Nat) (ex down : Bool) : Nat := if (ex || neg != down) = true then sgW neg R else stepW (sgW neg R) down
def RetF (w : World) (neg : Bool) (N E : Int) (down : Bool) (e : Ending) (w' : World) : Prop := ∃ (R : Nat) (ex : Bool), e = .returned (.float .f64 (floW neg R ex down)) ∧ TZ R ex N E ∧ Below w.heap.size w w'
theorem sgW_lt {neg : Bool} {R : Nat} (h : R < INF) : sgW neg R < 18446744073709551616 ∧ rg (sgW neg R) = R := by
  unfold INF at *
  cases neg
  · show R < 18446744073709551616 ∧ rg R = R
    exact ⟨by omega, (rg_pos (by omega)).1⟩
  · show (if R = 0 then 0 else 9223372036854775808 + R) < _ ∧ rg (if R = 0 then 0 else 9223372036854775808 + R) = R
    by_cases h0 : R = 0
    · rw [if_pos h0, h0]; exact ⟨by decide, by decide⟩
    · rw [if_neg h0]; exact ⟨by omega, (rg_neg (by omega)).1⟩
theorem fsub_run {P : Program} {t : TypeId} {R : Nat} (h : R < INF) (w : World) : (binOp .sub t (.float .f64 0) (.float .f64 R)).run P w = .ok (.float .f64 (sgW true R)) w := by
  by_cases h0 : R = 0
  · subst h0
    exact run_float_arith w .sub t .f64 0 0 0 sub_zero
  · rw [show sgW true R = 9223372036854775808 + R from if_neg h0]
    exact run_float_arith w .sub t .f64 0 R _ (sub_word h0 h)

/-- flo.Dyad has returned a finite float64's number. -/
def RetFD (w : World) (b : Nat) (e : Ending) (w' : World) : Prop := ∃ p a n c N E, e = .returned (.tuple #[.agg #[.bool p, .slice a n c, .int .i64 E], .bool true]) ∧ NewN w.heap.size w' (.slice a n c) N 1 ∧ -1074 ≤ E ∧ E ≤ 1100 ∧ N * 2 ^ (E + 1074).toNat = (un (rg b) : Int) ∧ (N ≠ 0 → p = fneg b ∧ ∃ z, N = 2 * z + 1) ∧ (N = 0 → p = false ∧ E = 0) ∧ Below w.heap.size w w'
theorem RetDy.of_sg {w w' : World} {p p' : Bool} {N N' E : Int} {m : Nat} {e : Ending} (h : RetDy w p' N' E m e w') (h0 : 0 ≤ N) (h1 : 0 ≤ N') (hs : sg p N = sg p' N') : RetDy w p N E m e w' := by
  have e1 : N = N' ∧ (N ≠ 0 → p' = p) := by
    cases p <;> cases p' <;> simp only [sg_true, sg_false] at hs
    · exact ⟨by omega, fun _ => rfl⟩
    · exact ⟨by omega, fun _ => by omega⟩
    · exact ⟨by omega, fun _ => by omega⟩
    · exact ⟨by omega, fun _ => rfl⟩
  obtain ⟨rfl, e2⟩ := e1
  obtain ⟨pR, a, n, c, NR, ER, t, h3, h4, h5, h6⟩ := h
  refine ⟨pR, a, n, c, NR, ER, t, h3, h4, ?_, h6⟩
  rcases h5 with h5 | ⟨h7, rfl, h8⟩
  · exact Or.inl h5
  · exact Or.inr ⟨h7, e2 h7, h8⟩
theorem field_parts {b : Nat} (hf : rg b < INF) : b / 4503599627370496 % 2048 ≤ 2046 ∧ un (rg b) = (if b / 4503599627370496 % 2048 = 0 then b % 4503599627370496 else 4503599627370496 + b % 4503599627370496) * 2 ^ (b / 4503599627370496 % 2048 - 1) := by
  unfold INF at hf
  have h1 : rg b / 4503599627370496 = b / 4503599627370496 % 2048 := by unfold rg; omega
  have h2 : rg b % 4503599627370496 = b % 4503599627370496 := by unfold rg; omega
  refine ⟨by rw [← h1]; omega, ?_⟩
  unfold un
  rw [h1, h2]
  by_cases h3 : rg b < 4503599627370496
  · have h4 : b / 4503599627370496 % 2048 = 0 := by rw [← h1]; omega
    rw [if_pos h3, h4, if_pos rfl, Nat.pow_zero, Nat.mul_one, ← h2]
    omega
  · have h4 : b / 4503599627370496 % 2048 ≠ 0 := by rw [← h1]; omega
    rw [if_neg h3, if_neg h4]
theorem or_one52 {c : Int} (h0 : 0 ≤ c) (h1 : c < 4503599627370496) : bits .or .u64 c 4503599627370496 = 4503599627370496 + c := by
  rw [or_comm64 c 4503599627370496 h0 (by omega) (by decide) (by decide)]
  have := or_parts 1 c 52 (by decide) h0 (by simpa using h1) (by have : (2 : Int) ^ 52 = 4503599627370496 := by decide
                                                                 omega)
  have e : (1 : Int) * 2 ^ 52 = 4503599627370496 := by decide
  rw [e] at this
  exact this

theorem low_exists (N : Int) (hN : N ≠ 0) : ∃ t, IsLow N t := by
  have key : ∀ (k : Nat) (M : Int), M.natAbs ≤ k → M ≠ 0 → ∃ t, IsLow M t := by
    intro k
    induction k with
    | zero => intro M h1 h2; omega
    | succ k ih =>
      intro M h1 h2
      by_cases h : M % 2 = 0
      · obtain ⟨t, z, hz⟩ := ih (M / 2) (by omega) (by omega)
        refine ⟨t + 1, z, ?_⟩
        rw [Int.pow_succ, Int.mul_comm (2 ^ t) 2, Int.mul_assoc, ← hz]
        omega
      · exact ⟨0, M / 2, by rw [Int.pow_zero, Int.one_mul]; omega⟩
  exact key _ N (Nat.le_refl _) hN
/-- Of every number there is a float64 next to it towards zero. -/
theorem tz_exists {N E : Int} (h0 : 0 ≤ N) : ∃ R ex, TZ R ex N E := by
  by_cases hN : N = 0
  · subst hN; exact ⟨0, true, tz_zero E⟩
  · have hNp : 0 < N := by omega
    obtain ⟨g1, g2, g3⟩ := nb_spec hNp
    by_cases hbig : E > 1024 - (nb N : Int)
    · exact ⟨_, _, tz_big hNp hbig⟩
    · by_cases hsm : E < -1074 - (nb N : Int)
      · exact ⟨_, _, tz_small hNp hsm⟩
      · obtain ⟨B, hB⟩ : ∃ B, nb N = B := ⟨_, rfl⟩
        rw [hB] at g1 g2 g3 hbig hsm
        obtain ⟨last, hlast⟩ : ∃ last, max ((B : Int) + E - 53) (-1074) = last := ⟨_, rfl⟩
        have hl1 : -1074 ≤ last ∧ last ≤ 971 ∧ (B : Int) + E - 53 ≤ last ∧ (last = (B : Int) + E - 53 ∨ last = -1074) := by omega
        obtain ⟨L, hL⟩ := Int.eq_ofNat_of_zero_le (show 0 ≤ last + 1074 by omega)
        by_cases hn : 0 < last - E
        · obtain ⟨j, hj⟩ := Int.eq_ofNat_of_zero_le (show 0 ≤ last - E by omega)
          have hpj := pow2_pos j
          have hVlt : N / 2 ^ j < 9007199254740992 := by
            refine Int.ediv_lt_of_lt_mul hpj ?_
            have e1 : (2 : Int) ^ B ≤ 2 ^ (53 + j) := pow_le_pow (by decide) (by omega)
            rw [Int.pow_add] at e1
            have e2 : (2 : Int) ^ 53 = 9007199254740992 := by decide
            rw [e2] at e1
            omega
          have hVge : 4503599627370496 ≤ N / 2 ^ j ∨ L = 0 := by
            rcases hl1.2.2.2 with e | e
            · left
              refine Int.le_ediv_of_mul_le hpj ?_
              have e1 : (2 : Int) ^ (52 + j) ≤ 2 ^ (B - 1) := pow_le_pow (by decide) (by omega)
              rw [Int.pow_add] at e1
              have e2 : (2 : Int) ^ 52 = 4503599627370496 := by decide
              rw [e2] at e1
              omega
            · right; omega
          have hV0 : 0 ≤ N / 2 ^ j := Int.ediv_nonneg h0 (Int.le_of_lt hpj)
          obtain ⟨V, hV⟩ := Int.eq_ofNat_of_zero_le hV0
          obtain ⟨t, ht⟩ := low_exists N hN
          exact ⟨_, _, tz_cut (j := j) (L := L) (man := V) hNp hV.symm (by omega) (by omega) (by omega) (by omega) (Or.inr ⟨hN, ht⟩)⟩
        · obtain ⟨j, hj⟩ := Int.eq_ofNat_of_zero_le (show 0 ≤ E - last by omega)
          have hpj := pow2_pos j
          have hVlt : N * 2 ^ j < 9007199254740992 := by
            have e1 : N * 2 ^ j < 2 ^ B * 2 ^ j := Int.mul_lt_mul_of_pos_right g2 hpj
            rw [← Int.pow_add] at e1
            have e3 : (2 : Int) ^ (B + j) ≤ 2 ^ 53 := pow_le_pow (by decide) (by omega)
            have e2 : (2 : Int) ^ 53 = 9007199254740992 := by decide
            rw [e2] at e3
            omega
          have hVge : 4503599627370496 ≤ N * 2 ^ j ∨ L = 0 := by
            rcases hl1.2.2.2 with e | e
            · left
              have e1 : 2 ^ (B - 1) * 2 ^ j ≤ N * 2 ^ j := Int.mul_le_mul_of_nonneg_right g1 (Int.le_of_lt hpj)
              rw [← Int.pow_add] at e1
              have e3 : (2 : Int) ^ 52 ≤ 2 ^ (B - 1 + j) := pow_le_pow (by decide) (by omega)
              have e2 : (2 : Int) ^ 52 = 4503599627370496 := by decide
              rw [e2] at e3
              omega
            · right; omega
          have hV0 : 0 ≤ N * 2 ^ j := Int.mul_nonneg h0 (Int.le_of_lt hpj)
          obtain ⟨V, hV⟩ := Int.eq_ofNat_of_zero_le hV0
          exact ⟨_, _, tz_whole (j := j) (L := L) (man := V) hV.symm (by omega) (by omega) (by omega) (by omega)⟩
end Go.Proofs.YtkkjkohmekbdbaaDoor

namespace Go.Proofs.YtkkjkohmekbdbaaDoor
open Go.RowKit

theorem word_cases {b : Nat} (hb : b < 18446744073709551616) : (b = rg b ∧ fneg b = false) ∨ (b = 9223372036854775808 + rg b ∧ fneg b = true) := by
  rcases Nat.lt_or_ge b 9223372036854775808 with h | h
  · exact Or.inl ⟨(rg_pos h).1.symm, (rg_pos h).2⟩
  · right
    have e : b = 9223372036854775808 + (b - 9223372036854775808) := by omega
    have h2 := rg_neg (r := b - 9223372036854775808) (by omega)
    rw [← e] at h2
    exact ⟨by rw [h2.1]; exact e, h2.2⟩
theorem rg_lt (b : Nat) : rg b < 9223372036854775808 := Nat.mod_lt _ (by decide)
/-- A word's step up and down, and back. -/
structure Steps (b : Nat) : Prop where
  up_lt : stepW b false < 18446744073709551616
  up_rg : rg (stepW b false) ≤ INF
  dn_lt : stepW b true < 18446744073709551616
  dn_rg : rg (stepW b true) ≤ INF
  up : fv b < fv (stepW b false)
  dn : fv (stepW b true) < fv b
  ub_rg : rg (stepW (stepW b false) true) ≤ INF
  ub : fv (stepW (stepW b false) true) = fv b
  db_rg : rg (stepW (stepW b true) false) ≤ INF
  db : fv (stepW (stepW b true) false) = fv b
theorem stepW_pos {r : Nat} (h0 : r ≠ 0) (h : r < 9223372036854775808) (dn : Bool) : stepW r dn = if dn then r - 1 else if r = INF then r else r + 1 := by
  unfold stepW
  rw [(rg_pos h).1, (rg_pos h).2, if_neg h0]
  rfl
theorem stepW_neg {r : Nat} (h0 : r ≠ 0) (h : r < 9223372036854775808) (dn : Bool) : stepW (9223372036854775808 + r) dn = if dn then (if r = INF then 9223372036854775808 + r else 9223372036854775808 + r + 1) else 9223372036854775808 + r - 1 := by
  unfold stepW
  rw [(rg_neg h).1, (rg_neg h).2, if_neg h0, if_pos rfl]
theorem stepW_zero {b : Nat} (h0 : rg b = 0) (dn : Bool) : stepW b dn = if dn then 9223372036854775809 else 1 := by
  unfold stepW
  rw [if_pos h0]
theorem steps {b : Nat} (hb : b < 18446744073709551616) (hf : rg b < INF) : Steps b := by
  have hI : INF = 9218868437227405312 := rfl
  have f1 : fv 1 = 1 := by decide
  have f0 : fv 0 = 0 := by decide
  have fm : fv 9223372036854775809 = -1 := by decide
  have fz : fv 9223372036854775808 = 0 := by decide
  by_cases h0 : rg b = 0
  · have e1 : stepW b false = 1 := stepW_zero h0 false
    have e2 : stepW b true = 9223372036854775809 := stepW_zero h0 true
    have e3 : stepW 1 true = 0 := by decide
    have e4 : stepW 9223372036854775809 false = 9223372036854775808 := by decide
    have fb : fv b = 0 := by rw [fv_def, h0]; split <;> rfl
    refine ⟨?_, ?_, ?_, ?_, ?_, ?_, ?_, ?_, ?_, ?_⟩
    · rw [e1]; decide
    · rw [e1]; decide
    · rw [e2]; decide
    · rw [e2]; decide
    · rw [e1, fb, f1]; decide
    · rw [e2, fb, fm]; decide
    · rw [e1, e3]; decide
    · rw [e1, e3, fb, f0]
    · rw [e2, e4]; decide
    · rw [e2, e4, fb, fz]
  · obtain ⟨r, hr⟩ : ∃ r, rg b = r := ⟨_, rfl⟩
    have hrl := rg_lt b
    rw [hr] at h0 hf hrl
    have l1 := un_step (r - 1)
    rw [show r - 1 + 1 = r by omega] at l1
    have l2 := un_step r
    rcases word_cases hb with ⟨e, -⟩ | ⟨e, -⟩
    · rw [hr] at e
      subst e
      have e1 : stepW b false = b + 1 := by rw [stepW_pos h0 hrl, if_neg (by decide), if_neg (by omega)]
      have e2 : stepW b true = b - 1 := by rw [stepW_pos h0 hrl, if_pos rfl]
      have e3 : stepW (b + 1) true = b := by rw [stepW_pos (by omega) (by omega), if_pos rfl]; omega
      have e4 : stepW (b - 1) false = b := by
        by_cases h1 : b = 1
        · subst h1; decide
        · rw [stepW_pos (by omega) (by omega), if_neg (by decide), if_neg (by omega)]; omega
      have r1 := (rg_pos (r := b + 1) (by omega)).1
      have r2 := (rg_pos (r := b - 1) (by omega)).1
      refine ⟨by omega, by rw [e1, r1]; omega, by omega, by rw [e2, r2]; omega, ?_, ?_, by rw [e1, e3, hr]; omega, by rw [e1, e3], by rw [e2, e4, hr]; omega, by rw [e2, e4]⟩
      · rw [e1, fv_pos (by omega), fv_pos (by omega)]; omega
      · rw [e2, fv_pos (by omega), fv_pos (by omega)]; omega
    · rw [hr] at e
      subst e
      have e1 : stepW (9223372036854775808 + r) false = 9223372036854775808 + (r - 1) := by rw [stepW_neg h0 hrl, if_neg (by decide)]; omega
      have e2 : stepW (9223372036854775808 + r) true = 9223372036854775808 + (r + 1) := by rw [stepW_neg h0 hrl, if_pos rfl, if_neg (by omega)]; omega
      have e3 : stepW (9223372036854775808 + (r - 1)) true = 9223372036854775808 + r := by
        by_cases h1 : r = 1
        · subst h1; decide
        · rw [stepW_neg (by omega) (by omega), if_pos rfl, if_neg (by omega)]; omega
      have e4 : stepW (9223372036854775808 + (r + 1)) false = 9223372036854775808 + r := by rw [stepW_neg (by omega) (by omega), if_neg (by decide)]; omega
      have r1 := (rg_neg (r := r - 1) (by omega)).1
      have r2 := (rg_neg (r := r + 1) (by omega)).1
      refine ⟨by omega, by rw [e1, r1]; omega, by omega, by rw [e2, r2]; omega, ?_, ?_, by rw [e1, e3, hr]; omega, by rw [e1, e3], by rw [e2, e4, hr]; omega, by rw [e2, e4]⟩
      · rw [e1, fv_neg (by omega), fv_neg (by omega)]; omega
      · rw [e2, fv_neg (by omega), fv_neg (by omega)]; omega

/-- The words about a number: what they are. -/
structure Btw (lo hi : Nat) (neg : Bool) (N E : Int) : Prop where
  lo_lt : lo < 18446744073709551616
  lo_rg : rg lo ≤ INF
  hi_lt : hi < 18446744073709551616
  hi_rg : rg hi ≤ INF
  le : fv lo ≤ fv hi
  next : fv lo ≠ fv hi → fv (stepW lo false) = fv hi ∧ rg (stepW lo false) ≤ INF
  one : rg lo < INF ∨ rg hi < INF
  low : rg lo < INF → ∀ K : Nat, 1074 ≤ K → 0 ≤ E + K → fv lo * 2 ^ (K - 1074) ≤ sg neg N * 2 ^ (E + K).toNat
  high : rg hi < INF → ∀ K : Nat, 1074 ≤ K → 0 ≤ E + K → sg neg N * 2 ^ (E + K).toNat ≤ fv hi * 2 ^ (K - 1074)
theorem fv_sgW {neg : Bool} {R : Nat} (h : R < INF) : fv (sgW neg R) = sg neg (un R : Int) := by
  have hI : INF = 9218868437227405312 := rfl
  cases neg
  · show fv R = (un R : Int)
    exact fv_pos (by omega)
  · show fv (if R = 0 then 0 else 9223372036854775808 + R) = -(un R : Int)
    by_cases h0 : R = 0
    · subst h0; decide
    · rw [if_neg h0]; exact fv_neg (by omega)
theorem sg_mul_le {p : Bool} {a b c d : Int} (h : a * c ≤ b * d) : p = false → sg p a * c ≤ sg p b * d := by
  intro e; subst e; exact h
theorem btw {neg : Bool} {R : Nat} {ex : Bool} {N E : Int} (h : TZ R ex N E) : Btw (floW neg R ex true) (floW neg R ex false) neg N E := by
  have hI : INF = 9218868437227405312 := rfl
  have hR := h.lt
  cases ex with
  | true =>
    have e1 : ∀ d, floW neg R true d = sgW neg R := fun d => by unfold floW; simp
    rw [e1, e1]
    obtain ⟨s1, s2⟩ := sgW_lt (neg := neg) hR
    have hv := fv_sgW (neg := neg) hR
    have key : ∀ K : Nat, 1074 ≤ K → 0 ≤ E + K → fv (sgW neg R) * 2 ^ (K - 1074) = sg neg N * 2 ^ (E + K).toNat := by
      intro K h1 h2
      have := h.eq rfl K h1 h2
      rw [hv, ← sg_scale, ← sg_scale, this]
    exact ⟨s1, by rw [s2]; omega, s1, by rw [s2]; omega, Int.le_refl _, fun h => absurd rfl h, Or.inl (by rw [s2]; exact hR), fun _ K h1 h2 => Int.le_of_eq (key K h1 h2), fun _ K h1 h2 => Int.le_of_eq (key K h1 h2).symm⟩
  | false =>
    have l2 := un_step R
    cases neg with
    | false =>
      have e1 : floW false R false true = R := rfl
      have e2 : floW false R false false = R + 1 := by
        show stepW R false = R + 1
        by_cases h0 : R = 0
        · subst h0; decide
        · rw [stepW_pos h0 (by omega), if_neg (by decide), if_neg (by omega)]
      have e3 : stepW R false = R + 1 := e2
      rw [e1, e2]
      have r1 := (rg_pos (r := R) (by omega)).1
      have r2 := (rg_pos (r := R + 1) (by omega)).1
      have v1 := fv_pos (r := R) (by omega)
      have v2 := fv_pos (r := R + 1) (by omega)
      refine ⟨by omega, by rw [r1]; omega, by omega, by rw [r2]; omega, by rw [v1, v2]; omega, fun _ => ⟨by rw [e3], by rw [e3, r2]; omega⟩, Or.inl (by rw [r1]; exact hR), fun _ K h1 h2 => ?_, fun hh K h1 h2 => ?_⟩
      · rw [v1, sg_false]
        exact Int.le_of_lt (h.gt rfl K h1 h2).1
      · rw [v2, sg_false]
        rw [r2] at hh
        exact Int.le_of_lt ((h.gt rfl K h1 h2).2 hh)
    | true =>
      have e1 : floW true R false true = 9223372036854775808 + (R + 1) := by
        show stepW (sgW true R) true = _
        by_cases h0 : R = 0
        · subst h0; decide
        · rw [show sgW true R = 9223372036854775808 + R from if_neg h0, stepW_neg h0 (by omega), if_pos rfl, if_neg (by omega)]; omega
      have e2 : floW true R false false = sgW true R := rfl
      rw [e1, e2]
      obtain ⟨s1, s2⟩ := sgW_lt (neg := true) hR
      have v2 := fv_sgW (neg := true) hR
      rw [sg_true] at v2
      have r1 := (rg_neg (r := R + 1) (by omega)).1
      have v1 := fv_neg (r := R + 1) (by omega)
      have e3 : stepW (9223372036854775808 + (R + 1)) false = 9223372036854775808 + R := by rw [stepW_neg (by omega) (by omega), if_neg (by decide)]; omega
      refine ⟨by omega, by rw [r1]; omega, s1, by rw [s2]; omega, by rw [v1, v2]; omega, fun _ => ⟨by rw [e3, v2, fv_neg (by omega)], by rw [e3, (rg_neg (by omega)).1]; omega⟩, Or.inr (by rw [s2]; exact hR), fun hh K h1 h2 => ?_, fun _ K h1 h2 => ?_⟩
      · rw [r1] at hh
        have := (h.gt rfl K h1 h2).2 hh
        rw [v1, sg_true, Int.neg_mul, Int.neg_mul]
        omega
      · have := (h.gt rfl K h1 h2).1
        rw [v2, sg_true, Int.neg_mul, Int.neg_mul]
        omega
end Go.Proofs.YtkkjkohmekbdbaaDoor

namespace Go.Proofs.YtkkjkohmekbdbaaDoor
open Go.RowKit

theorem neg_lt {b : Nat} (hb : b < 18446744073709551616) : Op.negFloat .f64 b < 18446744073709551616 := by
  have e : Op.negFloat .f64 b = b ^^^ 2 ^ 63 := rfl
  rw [e]
  exact Nat.xor_lt_two_pow (n := 64) hb (by decide)
theorem neg_val {b : Nat} (hb : b < 18446744073709551616) : Op.negFloat .f64 b = if b < 9223372036854775808 then 9223372036854775808 + b else b - 9223372036854775808 := by
  obtain ⟨h1, h2⟩ := neg_word hb
  have h3 := neg_lt hb
  generalize Op.negFloat .f64 b = n at h1 h2 h3
  unfold rg at h1
  have e1 : fneg b = decide (9223372036854775808 ≤ b) := by
    unfold fneg
    by_cases h : 9223372036854775808 ≤ b
    · rw [decide_eq_true h, show b / 9223372036854775808 % 2 = 1 by omega]; rfl
    · rw [decide_eq_false h, show b / 9223372036854775808 % 2 = 0 by omega]; rfl
  have e2 : fneg n = decide (9223372036854775808 ≤ n) := by
    unfold fneg
    by_cases h : 9223372036854775808 ≤ n
    · rw [decide_eq_true h, show n / 9223372036854775808 % 2 = 1 by omega]; rfl
    · rw [decide_eq_false h, show n / 9223372036854775808 % 2 = 0 by omega]; rfl
  rw [e1, e2] at h2
  by_cases h : b < 9223372036854775808
  · rw [if_pos h]
    rw [decide_eq_false (show ¬ 9223372036854775808 ≤ b by omega)] at h2
    have : 9223372036854775808 ≤ n := by simpa using h2
    omega
  · rw [if_neg h]
    rw [decide_eq_true (show 9223372036854775808 ≤ b by omega)] at h2
    have : ¬ 9223372036854775808 ≤ n := by simpa using h2
    omega
theorem step_neg {b : Nat} (hb : b < 18446744073709551616) (h : rg b ≤ INF) : Op.negFloat .f64 (stepW (Op.negFloat .f64 b) false) = stepW b true := by
  have hI : INF = 9218868437227405312 := rfl
  have hn := neg_val hb
  obtain ⟨hr, -⟩ := neg_word hb
  by_cases h0 : rg b = 0
  · rw [stepW_zero (by rw [hr]; exact h0), stepW_zero h0]
    decide
  · rcases word_cases hb with ⟨e1, -⟩ | ⟨e1, -⟩
    · have hlt := rg_lt b
      rw [e1] at hn hlt
      rw [if_pos (rg_lt b)] at hn
      rw [e1, hn, stepW_neg h0 (rg_lt b), stepW_pos h0 (rg_lt b), if_neg (by decide), if_pos rfl, neg_val (by omega), if_neg (by omega)]
      omega
    · have hlt := rg_lt b
      rw [e1] at hn
      rw [if_neg (by omega)] at hn
      rw [show 9223372036854775808 + rg b - 9223372036854775808 = rg b by omega] at hn
      rw [e1, hn, stepW_neg h0 (rg_lt b), stepW_pos h0 (rg_lt b), if_neg (by decide), if_pos rfl]
      by_cases hi : rg b = INF
      · rw [if_pos hi, if_pos hi, neg_val (by omega), if_pos (by omega)]
      · rw [if_neg hi, if_neg hi, neg_val (by omega), if_pos (by omega)]
        omega
theorem feq_nan {b : Nat} (h : INF < rg b) : (FloatKind.f64.format.order b b == some Ordering.eq) = false := by
  show (Ieee.double.order b b == some Ordering.eq) = false
  rw [order_nan_left h]; rfl
theorem fne_nan {b : Nat} (h : INF < rg b) : (FloatKind.f64.format.order b b != some Ordering.eq) = true := by
  show (!(FloatKind.f64.format.order b b == some Ordering.eq)) = true
  rw [feq_nan h]; rfl
theorem fne_not {b : Nat} (h : rg b ≤ INF) : (FloatKind.f64.format.order b b != some Ordering.eq) = false := by
  show (!(FloatKind.f64.format.order b b == some Ordering.eq)) = false
  rw [feq_num h h, decide_eq_true rfl]; rfl
theorem feq_zero {b : Nat} (h : rg b ≤ INF) : (FloatKind.f64.format.order b 0 == some Ordering.eq) = decide (rg b = 0) := by
  have f0 : fv 0 = 0 := by decide
  rw [feq_num h (by decide), f0]
  by_cases e : rg b = 0
  · rw [decide_eq_true e, fv_def, e]
    exact decide_eq_true (by split <;> rfl)
  · rw [decide_eq_false e]
    refine decide_eq_false fun h0 => e (un_eq_zero ?_)
    rw [fv_def] at h0
    split at h0 <;> omega
set_option maxRecDepth 100000 in
theorem rfin_num (b : Nat) (w : World) (hb : b < 18446744073709551616) : Calls Tryd.prog 25 #[.float .f64 b] w fun e w' => RetB w (.bool (decide (rg b < INF))) e w' := by
  have h1 : (b : Int) / 4503599627370496 % 2048 = ((b / 4503599627370496 % 2048 : Nat) : Int) := by omega
  have hf : ((((b / 4503599627370496 % 2048 : Nat) : Int)) != 2047) = decide (rg b < INF) := by
    have h := field_inf (b := b)
    by_cases e : rg b < INF
    · rw [decide_eq_true e]
      simp only [bne_iff_ne, ne_eq]
      omega
    · rw [decide_eq_false e]
      simp only [bne_eq_false_iff_eq]
      omega
  obtain ⟨F, hF⟩ : ∃ F, b / 4503599627370496 % 2048 = F := ⟨_, rfl⟩
  rw [hF] at h1 hf
  obtain ⟨r, hr⟩ : ∃ r, decide (rg b < INF) = r := ⟨_, rfl⟩
  rw [hr] at hf ⊢
  clear hF hr
  go_enter Tryd.func25, Tryd.ntmps25
  go_wp2_with (simp only [bits_run])
  go_ret
  exact ⟨rfl, rfl⟩
end Go.Proofs.YtkkjkohmekbdbaaDoor

namespace Go.Proofs.YtkkjkohmekbdbaaDoor
open Go.RowKit

/-- A node: its kind, its value as a word, its operands. -/
abbrev Nd := Int × Nat × Int × Int
def ncell (n : Nd) : List Value := [.int .i64 n.1, .float .f64 n.2.1, .int .i64 n.2.2.1, .int .i64 n.2.2.2]
def ncells (l : List Nd) : List Value := l.flatMap ncell
abbrev nval (n : Nd) : Value := .agg #[.int .i64 n.1, .float .f64 n.2.1, .int .i64 n.2.2.1, .int .i64 n.2.2.2]
theorem ncells_length (l : List Nd) : (ncells l).length = l.length * 4 := by
  induction l with
  | nil => rfl
  | cons n l ih =>
    show (ncell n ++ ncells l).length = _
    rw [List.length_append, ih, List.length_cons]
    show 4 + _ = _
    omega
theorem ncells_append (l m : List Nd) : ncells (l ++ m) = ncells l ++ ncells m := List.flatMap_append
theorem ncells_get {l : List Nd} {j : Nat} {n : Nd} (h : l[j]? = some n) : (ncells l)[j * 4]? = some (.int .i64 n.1) ∧ (ncells l)[j * 4 + 1]? = some (.float .f64 n.2.1) ∧ (ncells l)[j * 4 + 2]? = some (.int .i64 n.2.2.1) ∧ (ncells l)[j * 4 + 3]? = some (.int .i64 n.2.2.2) := by
  induction l generalizing j with
  | nil => simp at h
  | cons m l ih =>
    have e : ncells (m :: l) = ncell m ++ ncells l := rfl
    rw [e]
    cases j with
    | zero =>
      simp only [List.getElem?_cons_zero, Option.some.injEq] at h
      subst h
      exact ⟨rfl, rfl, rfl, rfl⟩
    | succ j =>
      simp only [List.getElem?_cons_succ] at h
      obtain ⟨h0, h1, h2, h3⟩ := ih h
      have hl : (ncell m).length = 4 := rfl
      refine ⟨?_, ?_, ?_, ?_⟩ <;> rw [List.getElem?_append_right (by omega), hl]
      · rw [show (j + 1) * 4 - 4 = j * 4 by omega]; exact h0
      · rw [show (j + 1) * 4 + 1 - 4 = j * 4 + 1 by omega]; exact h1
      · rw [show (j + 1) * 4 + 2 - 4 = j * 4 + 2 by omega]; exact h2
      · rw [show (j + 1) * 4 + 3 - 4 = j * 4 + 3 by omega]; exact h3
/-- A slice of nodes reads so. -/
def RdN (w : World) (ao : Option Addr) (l : List Nd) : Prop := l = [] ∨ ∃ b off, ao = some ⟨b, off, none⟩ ∧ ∀ j n, l[j]? = some n →
  w.cell? ⟨b, off + j * 4, none⟩ = some (.int .i64 n.1) ∧ w.cell? ⟨b, off + j * 4 + 1, none⟩ = some (.float .f64 n.2.1) ∧ w.cell? ⟨b, off + j * 4 + 2, none⟩ = some (.int .i64 n.2.2.1) ∧ w.cell? ⟨b, off + j * 4 + 3, none⟩ = some (.int .i64 n.2.2.2)
theorem RdN.at {w : World} {b off : Nat} {l : List Nd} (h : RdN w (some ⟨b, off, none⟩) l) {j : Nat} {n : Nd} (hj : l[j]? = some n) :
    w.cell? ⟨b, off + j * 4, none⟩ = some (.int .i64 n.1) ∧ w.cell? ⟨b, off + j * 4 + 1, none⟩ = some (.float .f64 n.2.1) ∧ w.cell? ⟨b, off + j * 4 + 2, none⟩ = some (.int .i64 n.2.2.1) ∧ w.cell? ⟨b, off + j * 4 + 3, none⟩ = some (.int .i64 n.2.2.2) := by
  rcases h with rfl | ⟨b', off', e, h⟩
  · simp at hj
  · simp only [Option.some.injEq, Addr.mk.injEq, and_true] at e
    obtain ⟨rfl, rfl⟩ := e
    exact h j n hj
theorem RdN.some {w : World} {ao : Option Addr} {l : List Nd} (h : RdN w ao l) (hl : l ≠ []) : ∃ b off, ao = Option.some ⟨b, off, none⟩ ∧ b < w.heap.size := by
  rcases h with e | ⟨b, off, e, h⟩
  · exact absurd e hl
  · refine ⟨b, off, e, ?_⟩
    obtain ⟨n, hn⟩ : ∃ n, l[0]? = Option.some n := ⟨l[0]'(List.length_pos_iff.2 hl), by rw [List.getElem?_eq_getElem]⟩
    exact World.block_lt_of_cell? _ _ (h 0 n hn).1
/-- What turns only the blocks of F, and makes new ones. -/
structure Chg (F : Nat → Prop) (w w' : World) : Prop where
  os : w'.os = w.os
  tape : w'.tape = w.tape
  output : w'.output = w.output
  size : w.heap.size ≤ w'.heap.size
  block : ∀ k, k < w.heap.size → ¬ F k → w'.heap[k]? = w.heap[k]?
theorem Chg.refl (F : Nat → Prop) (w : World) : Chg F w w := ⟨rfl, rfl, rfl, Nat.le_refl _, fun _ _ _ => rfl⟩
theorem Chg.trans {F G : Nat → Prop} {a b c : World} (h : Chg F a b) (k : Chg G b c) (hG : ∀ x, G x → F x ∨ a.heap.size ≤ x) : Chg F a c :=
  ⟨k.os.trans h.os, k.tape.trans h.tape, k.output.trans h.output, Nat.le_trans h.size k.size, fun x hx hF => by
    rw [k.block x (Nat.lt_of_lt_of_le hx h.size) (fun hg => (hG x hg).elim hF (fun h2 => by omega))]
    exact h.block x hx hF⟩
theorem Chg.mono {F G : Nat → Prop} {a b : World} (h : Chg F a b) (hG : ∀ x, F x → G x) : Chg G a b :=
  ⟨h.os, h.tape, h.output, h.size, fun x hx hg => h.block x hx (fun hf => hg (hG x hf))⟩
theorem Chg.of {F : Nat → Prop} {w w' : World} (h : Below w.heap.size w w') : Chg F w w' := ⟨h.os, h.tape, h.output, h.size, fun k hk _ => h.block k hk⟩
theorem Chg.below {F : Nat → Prop} {w w' : World} {B : Nat} (h : Chg F w w') (hB : ∀ k, F k → B ≤ k) (hs : B ≤ w.heap.size) : Below B w w' :=
  ⟨h.os, h.tape, h.output, h.size, fun k hk => h.block k (Nat.lt_of_lt_of_le hk hs) (fun hf => by have := hB k hf; omega)⟩
theorem Chg.only {F : Nat → Prop} {w w' : World} {g lo hi : Nat} (h : Only g lo hi w w') (hF : F g) : Chg F w w' :=
  have hb := h.below (B := 0) (Nat.zero_le _) (Nat.zero_le _)
  ⟨hb.os, hb.tape, hb.output, hb.size, fun k hk hf => h.block k hk (fun e => hf (e ▸ hF))⟩
theorem cell_same {w w' : World} {a : Addr} (h : w'.heap[a.block]? = w.heap[a.block]?) : w'.cell? a = w.cell? a := by
  unfold World.cell?
  rw [h]
theorem RdN.same {w w' : World} {ao : Option Addr} {l : List Nd} (h : RdN w ao l) (hb : ∀ b off, ao = Option.some ⟨b, off, none⟩ → l ≠ [] → w'.heap[b]? = w.heap[b]?) : RdN w' ao l := by
  rcases h with e | ⟨b, off, e, h⟩
  · exact Or.inl e
  · by_cases hl : l = []
    · exact Or.inl hl
    · have hs := hb b off e hl
      refine Or.inr ⟨b, off, e, fun j n hj => ?_⟩
      rw [cell_same (w := w) (a := ⟨b, off + j * 4, none⟩) hs, cell_same (w := w) (a := ⟨b, off + j * 4 + 1, none⟩) hs, cell_same (w := w) (a := ⟨b, off + j * 4 + 2, none⟩) hs, cell_same (w := w) (a := ⟨b, off + j * 4 + 3, none⟩) hs]
      exact h j n hj
theorem RdN.below {w w' : World} {ao : Option Addr} {l : List Nd} (h : RdN w ao l) (hb : Below w.heap.size w w') : RdN w' ao l :=
  h.same fun b off e hl => by
    obtain ⟨b', off', e', hlt⟩ := h.some hl
    rw [e] at e'
    simp only [Option.some.injEq, Addr.mk.injEq, and_true] at e'
    obtain ⟨rfl, rfl⟩ := e'
    exact hb.block b hlt
theorem RdN.fr {w w' : World} {ao : Option Addr} {l : List Nd} {F : Nat → Prop} (h : RdN w ao l) (hb : Chg F w w') (hF : ∀ b off, ao = Option.some ⟨b, off, none⟩ → ¬ F b) : RdN w' ao l :=
  h.same fun b off e hl => by
    obtain ⟨b', off', e', hlt⟩ := h.some hl
    rw [e] at e'
    simp only [Option.some.injEq, Addr.mk.injEq, and_true] at e'
    obtain ⟨rfl, rfl⟩ := e'
    exact hb.block b hlt (hF b off e)
/-- A row of nodes of the call's own. -/
def OwN (base : Nat) (w : World) (v : Value) (l : List Nd) : Prop := w.ownsRow base 43 4 v l.length (ncells l)
theorem OwN.nil (base : Nat) (w : World) : OwN base w (.slice none 0 0) [] := World.ownsRow_nil _ _ _ _
theorem OwN.lt {base : Nat} {w : World} {v : Value} {l : List Nd} (h : OwN base w v l) : ∀ g, v.ownBlock = Option.some g → base ≤ g ∧ g < w.heap.size := fun g hg => World.ownsRow.lt h g hg
theorem OwN.form {base : Nat} {w : World} {v : Value} {l : List Nd} (h : OwN base w v l) : ∃ ao cap, v = .slice ao l.length cap ∧ l.length ≤ cap ∧ cap ≤ 9223372036854775807 ∧ RdN w ao l ∧ (∀ b off, ao = Option.some ⟨b, off, none⟩ → v.ownBlock = Option.some b) := by
  obtain ⟨h1, h2⟩ := h
  rcases h2 with ⟨rfl, h0⟩ | ⟨g, cap, cur, rfl, hg, hh, hn, hm, hc, ht⟩
  · obtain rfl : l = [] := List.eq_nil_of_length_eq_zero h0
    exact ⟨none, 0, rfl, Nat.le_refl _, by omega, Or.inl rfl, fun _ _ e => nomatch e⟩
  · refine ⟨_, cap, rfl, hn, by simpa [maxLen] using hm, Or.inr ⟨g, 0, rfl, fun j n hj => ?_⟩, fun b off e => ?_⟩
    · have hlt : j < l.length := (List.getElem?_eq_some_iff.1 hj).1
      obtain ⟨a0, a1, a2, a3⟩ := ncells_get hj
      have key : ∀ (k : Nat) (u : Value), k < l.length * 4 → (ncells l)[k]? = Option.some u → w.cell? ⟨g, k, none⟩ = Option.some u := by
        intro k u hk hu
        rw [cell_of_row w g _ cur _ _ hh]
        have : (cur.toList.take (l.length * 4))[k]? = (ncells l)[k]? := by rw [ht]
        rw [List.getElem?_take, if_pos hk, hu] at this
        simpa using this
      refine ⟨?_, ?_, ?_, ?_⟩
      · rw [show 0 + j * 4 = j * 4 by omega]; exact key _ _ (by omega) a0
      · rw [show 0 + j * 4 + 1 = j * 4 + 1 by omega]; exact key _ _ (by omega) a1
      · rw [show 0 + j * 4 + 2 = j * 4 + 2 by omega]; exact key _ _ (by omega) a2
      · rw [show 0 + j * 4 + 3 = j * 4 + 3 by omega]; exact key _ _ (by omega) a3
    · simp only [Option.some.injEq, Addr.mk.injEq, and_true] at e
      obtain ⟨rfl, -⟩ := e
      rfl
theorem OwN.same {base : Nat} {w w' : World} {v : Value} {l : List Nd} (h : OwN base w v l) (hb : ∀ g, v.ownBlock = Option.some g → w'.heap[g]? = w.heap[g]?) : OwN base w' v l :=
  ⟨h.1, by
    rcases h.2 with h2 | ⟨g, cap, cur, hv, hg, hh, r⟩
    · exact Or.inl h2
    · exact Or.inr ⟨g, cap, cur, hv, hg, (hb g (by rw [hv]; rfl)).trans hh, r⟩⟩
theorem OwN.below {base : Nat} {w w' : World} {v : Value} {l : List Nd} (h : OwN base w v l) (hb : Below w.heap.size w w') : OwN base w' v l := h.same fun g hg => hb.block g (h.lt g hg).2
theorem OwN.fr {base : Nat} {w w' : World} {v : Value} {l : List Nd} {F : Nat → Prop} (h : OwN base w v l) (hb : Chg F w w') (hF : ∀ g, v.ownBlock = Option.some g → ¬ F g) : OwN base w' v l := h.same fun g hg => hb.block g (h.lt g hg).2 (hF g hg)
theorem OwN.base {B C : Nat} {w : World} {v : Value} {l : List Nd} (h : OwN B w v l) (hC : C ≤ B) : OwN C w v l :=
  ⟨h.1, by
    rcases h.2 with h2 | ⟨g, cap, cur, hv, hg, r⟩
    · exact Or.inl h2
    · exact Or.inr ⟨g, cap, cur, hv, Nat.le_trans hC hg, r⟩⟩
set_option maxRecDepth 100000 in
set_option maxHeartbeats 2000000 in
/-- compassbook.SameNodes of two lists that are alike. -/
theorem samen_yes {w : World} {a1 a2 : Option Addr} {n1 n2 c1 c2 : Nat} {l : List Nd} (hn1 : n1 = l.length) (hn2 : n2 = l.length) (h1 : RdN w a1 l) (h2 : RdN w a2 l) (hl : l.length ≤ 1000000) :
    Calls Tryd.prog 14 #[.slice a1 n1 c1, .slice a2 n2 c2] w fun e w' => RetV w (.bool true) e w' := by
  obtain rfl : n1 = n2 := by omega
  clear hn2
  have HN := Lib.hid hn1
  have hle : n1 ≤ 1000000 := by omega
  clear hn1 hl
  have hne : ((n1 : Int) != (n1 : Int)) = false := by simp
  have hr := bits_run
  go_enter Tryd.func14, Tryd.ntmps14
  go_wp2
  go_loopw [5] (fun i wr => ∃ k : Nat, k ≤ n1 ∧ i = .int .i64 k ∧ Below w.heap.size w wr) (fun i _ => n1 - (intOf i).toNat)
  case atStart => exact ⟨0, Nat.zero_le _, rfl, Below.refl _ _⟩
  case round =>
    obtain ⟨k, hk, rfl, hb⟩ := hrel
    by_cases hlt : k < n1
    · have hl0 : l ≠ [] := by intro e; subst e; have := HN.out; simp at this; omega
      obtain ⟨b1, o1, rfl, -⟩ := h1.some hl0
      obtain ⟨b2, o2, rfl, -⟩ := h2.some hl0
      obtain ⟨nd, hnd⟩ : ∃ nd, l[k]? = Option.some nd := ⟨l[k]'(by have := HN.out; omega), by rw [List.getElem?_eq_getElem]⟩
      obtain ⟨p0, p1, p2, p3⟩ := (h1.below hb).at hnd
      obtain ⟨q0, q1, q2, q3⟩ := (h2.below hb).at hnd
      obtain ⟨d0, d1, d2, d3⟩ := nd
      simp only at p0 p1 p2 p3 q0 q1 q2 q3
      clear hnd h1 h2 hl0
      go_wp2
      go_quiet (fail)
      go_wp2
      go_roundw
      case rel => exact ⟨k + 1, by omega, by go_num, bdn hb _⟩
      case measure => simp [intOf]; omega
    · go_wp2
      go_ret
      exact ⟨rfl, hb⟩
end Go.Proofs.YtkkjkohmekbdbaaDoor

namespace Go.Proofs.YtkkjkohmekbdbaaDoor
open Go.RowKit

theorem slot4 {w : World} {g : Nat} {x y z u : Value} {t : TypeId} (h : w.heap[g]? = some (.cells #[x, y, z, u] t (0, 0))) :
    w.cell? ⟨g, 0, none⟩ = some x ∧ w.cell? ⟨g, 1, none⟩ = some y ∧ w.cell? ⟨g, 2, none⟩ = some z ∧ w.cell? ⟨g, 3, none⟩ = some u :=
  ⟨cell_of_row w g 0 _ t _ h, cell_of_row w g 1 _ t _ h, cell_of_row w g 2 _ t _ h, cell_of_row w g 3 _ t _ h⟩
theorem bne_of {x y : Int} (h : ¬ x = y) : (x == y) = false ∧ (x != y) = true ∧ decide (x = y) = false := ⟨by simp [h], by simp [h], by simp [h]⟩
set_option maxRecDepth 100000 in
set_option maxHeartbeats 2000000 in
/-- Are two nodes just alike? -/
theorem same_nd (x y : Nd) (w : World) : Calls Tryd.prog 15 #[nval x, nval y] w fun e w' => RetV w (.bool (decide (x = y))) e w' := by
  obtain ⟨k, v, a, b⟩ := x
  obtain ⟨k', v', a', b'⟩ := y
  have hr := bits_run
  obtain ⟨w1, hw1⟩ : ∃ w1, w.alloc (.cells #[.int .i64 k, .float .f64 v, .int .i64 a, .int .i64 b] 43) = w1 := ⟨_, rfl⟩
  obtain ⟨w2, hw2⟩ : ∃ w2, w1.alloc (.cells #[.int .i64 k', .float .f64 v', .int .i64 a', .int .i64 b'] 43) = w2 := ⟨_, rfl⟩
  have hb1 : Below w.heap.size w w1 := hw1 ▸ below_alloc w _
  have hb12 : Below w1.heap.size w1 w2 := hw2 ▸ below_alloc w1 _
  have hb2 : Below w.heap.size w w2 := hb1.trans (hb12.mono hb1.size)
  have hc1 : w2.heap[w.heap.size]? = some (.cells #[.int .i64 k, .float .f64 v, .int .i64 a, .int .i64 b] 43 (0, 0)) := slot_kept (hw1 ▸ heap_alloc_new w _) hb12
  have hc2 : w2.heap[w1.heap.size]? = some (.cells #[.int .i64 k', .float .f64 v', .int .i64 a', .int .i64 b'] 43 (0, 0)) := hw2 ▸ heap_alloc_new w1 _
  obtain ⟨p0, p1, p2, p3⟩ := slot4 hc1
  obtain ⟨q0, q1, q2, q3⟩ := slot4 hc2
  have key : ∀ r : Bool, r = decide ((k, v, a, b) = (k', v', a', b')) → Hid (decide ((k, v, a, b) = (k', v', a', b')) = r) := fun r h => Lib.hid h.symm
  simp only [nval]
  clear hb1 hb12 hc1 hc2
  by_cases h0 : k = k'
  · subst h0
    by_cases h1 : v = v'
    · subst h1
      by_cases h2 : a = a'
      · subst h2
        by_cases h3 : b = b'
        · subst h3
          have HR := key true (by simp)
          clear key
          go_enter Tryd.func15, Tryd.ntmps15
          go_wp2
          go_quiet (fail)
          go_wp2
          go_ret
          exact ⟨congrArg (fun r => Ending.returned (Value.bool r)) HR.out.symm, bdn hb2 _⟩
        · have HR := key false (by simp [h3])
          obtain ⟨d0, d1, d2⟩ := bne_of h3
          clear key h3
          go_enter Tryd.func15, Tryd.ntmps15
          go_wp2
          go_quiet (fail)
          go_wp2
          go_ret
          exact ⟨congrArg (fun r => Ending.returned (Value.bool r)) HR.out.symm, bdn hb2 _⟩
      · have HR := key false (by simp [h2])
        obtain ⟨d0, d1, d2⟩ := bne_of h2
        clear key h2
        go_enter Tryd.func15, Tryd.ntmps15
        go_wp2
        go_quiet (fail)
        go_wp2
        go_ret
        exact ⟨congrArg (fun r => Ending.returned (Value.bool r)) HR.out.symm, bdn hb2 _⟩
    · have HR := key false (by simp [h1])
      obtain ⟨d0, d1, d2⟩ := bne_of (x := (v : Int)) (y := (v' : Int)) (by omega)
      clear key h1
      go_enter Tryd.func15, Tryd.ntmps15
      go_wp2
      go_quiet (fail)
      go_wp2
      go_ret
      exact ⟨congrArg (fun r => Ending.returned (Value.bool r)) HR.out.symm, bdn hb2 _⟩
  · have HR := key false (by simp [h0])
    obtain ⟨d0, d1, d2⟩ := bne_of h0
    clear key h0
    go_enter Tryd.func15, Tryd.ntmps15
    go_wp2
    go_quiet (fail)
    go_wp2
    go_ret
    exact ⟨congrArg (fun r => Ending.returned (Value.bool r)) HR.out.symm, bdn hb2 _⟩
/-- P801: a node that may be. -/
def nvalid (n : Nd) : Bool := if n.1 = 0 then decide (n.2.2.1 = 0 ∧ n.2.2.2 = 0) else decide (1 ≤ n.1 ∧ n.1 ≤ 5 ∧ n.2.1 = 0 ∧ 0 ≤ n.2.2.1 ∧ n.2.2.1 ≤ 65535 ∧ (if n.1 = 5 then n.2.2.2 = 0 else 0 ≤ n.2.2.2 ∧ n.2.2.2 ≤ 65535))
set_option maxRecDepth 100000 in
set_option maxHeartbeats 2000000 in
theorem valid_nd (x : Nd) (w : World) : Calls Tryd.prog 24 #[nval x] w fun e w' => RetV w (.bool (nvalid x)) e w' := by
  obtain ⟨k, v, a, b⟩ := x
  have hr := bits_run
  obtain ⟨w1, hw1⟩ : ∃ w1, w.alloc (.cells #[.int .i64 k, .float .f64 v, .int .i64 a, .int .i64 b] 43) = w1 := ⟨_, rfl⟩
  have hb1 : Below w.heap.size w w1 := hw1 ▸ below_alloc w _
  have hc1 : w1.heap[w.heap.size]? = some (.cells #[.int .i64 k, .float .f64 v, .int .i64 a, .int .i64 b] 43 (0, 0)) := hw1 ▸ heap_alloc_new w _
  obtain ⟨p0, p1, p2, p3⟩ := slot4 hc1
  have key : ∀ r : Bool, r = nvalid (k, v, a, b) → Hid (nvalid (k, v, a, b) = r) := fun r h => Lib.hid h.symm
  simp only [nval]
  clear hc1
  by_cases hk : k = 0
  · subst hk
    by_cases ha : a = 0
    · subst ha
      by_cases hb : b = 0
      · subst hb
        have HR := key true (by simp [nvalid])
        
        clear key
        go_enter Tryd.func24, Tryd.ntmps24
        go_wp2
        go_ret
        exact ⟨congrArg (fun r => Ending.returned (Value.bool r)) HR.out.symm, hb1⟩
      · have HR := key false (by simp [nvalid, hb])
        obtain ⟨dhb0, dhb1, dhb2⟩ := bne_of hb
        clear key
        go_enter Tryd.func24, Tryd.ntmps24
        go_wp2
        go_ret
        exact ⟨congrArg (fun r => Ending.returned (Value.bool r)) HR.out.symm, hb1⟩
    · have HR := key false (by simp [nvalid, ha])
      obtain ⟨dha0, dha1, dha2⟩ := bne_of ha
      clear key
      go_enter Tryd.func24, Tryd.ntmps24
      go_wp2
      go_ret
      exact ⟨congrArg (fun r => Ending.returned (Value.bool r)) HR.out.symm, hb1⟩
  · by_cases h1 : k < 1
    · have HR := key false (by unfold nvalid; rw [if_neg hk]; exact (decide_eq_false (by simp only []; omega)).symm)
      obtain ⟨e0, e1, e2⟩ := bne_of hk
      have l1 : decide (k < 1) = true := by simp; omega
      clear key
      go_enter Tryd.func24, Tryd.ntmps24
      go_wp2
      go_ret
      exact ⟨congrArg (fun r => Ending.returned (Value.bool r)) HR.out.symm, hb1⟩
    · by_cases h2 : 5 < k
      · have HR := key false (by unfold nvalid; rw [if_neg hk]; exact (decide_eq_false (by simp only []; omega)).symm)
        obtain ⟨e0, e1, e2⟩ := bne_of hk
        have l1 : decide (k < 1) = false := by simp; omega
        have l2 : decide (5 < k) = true := by simp; omega
        clear key
        go_enter Tryd.func24, Tryd.ntmps24
        go_wp2
        go_ret
        exact ⟨congrArg (fun r => Ending.returned (Value.bool r)) HR.out.symm, hb1⟩
      · by_cases hv : v = 0
        · by_cases h3 : a < 0
          · have HR := key false (by unfold nvalid; rw [if_neg hk]; exact (decide_eq_false (by simp only []; omega)).symm)
            obtain ⟨e0, e1, e2⟩ := bne_of hk
            have l1 : decide (k < 1) = false := by simp; omega
            have l2 : decide (5 < k) = false := by simp; omega
            subst hv
            have l3 : decide (a < 0) = true := by simp; omega
            clear key
            go_enter Tryd.func24, Tryd.ntmps24
            go_wp2
            go_ret
            exact ⟨congrArg (fun r => Ending.returned (Value.bool r)) HR.out.symm, hb1⟩
          · by_cases h4 : 65535 < a
            · have HR := key false (by unfold nvalid; rw [if_neg hk]; exact (decide_eq_false (by simp only []; omega)).symm)
              obtain ⟨e0, e1, e2⟩ := bne_of hk
              have l1 : decide (k < 1) = false := by simp; omega
              have l2 : decide (5 < k) = false := by simp; omega
              subst hv
              have l3 : decide (a < 0) = false := by simp; omega
              have l4 : decide (65535 < a) = true := by simp; omega
              clear key
              go_enter Tryd.func24, Tryd.ntmps24
              go_wp2
              go_ret
              exact ⟨congrArg (fun r => Ending.returned (Value.bool r)) HR.out.symm, hb1⟩
            · by_cases h5 : k = 5
              · by_cases hb : b = 0
                · have HR := key true (by unfold nvalid; rw [if_neg hk]; exact (decide_eq_true (by simp only [if_pos h5]; omega)).symm)
                  obtain ⟨e0, e1, e2⟩ := bne_of hk
                  have l1 : decide (k < 1) = false := by simp; omega
                  have l2 : decide (5 < k) = false := by simp; omega
                  subst h5
                  subst hb
                  subst hv
                  have l3 : decide (a < 0) = false := by simp; omega
                  have l4 : decide (65535 < a) = false := by simp; omega
                  clear key
                  go_enter Tryd.func24, Tryd.ntmps24
                  go_wp2
                  go_ret
                  exact ⟨congrArg (fun r => Ending.returned (Value.bool r)) HR.out.symm, hb1⟩
                · have HR := key false (by unfold nvalid; rw [if_neg hk]; exact (decide_eq_false (by simp only [if_pos h5]; omega)).symm)
                  obtain ⟨e0, e1, e2⟩ := bne_of hk
                  have l1 : decide (k < 1) = false := by simp; omega
                  have l2 : decide (5 < k) = false := by simp; omega
                  subst h5
                  subst hv
                  obtain ⟨f0, f1, f2⟩ := bne_of hb
                  have l3 : decide (a < 0) = false := by simp; omega
                  have l4 : decide (65535 < a) = false := by simp; omega
                  clear key
                  go_enter Tryd.func24, Tryd.ntmps24
                  go_wp2
                  go_ret
                  exact ⟨congrArg (fun r => Ending.returned (Value.bool r)) HR.out.symm, hb1⟩
              · by_cases hb : b < 0
                · have HR := key false (by unfold nvalid; rw [if_neg hk]; exact (decide_eq_false (by simp only [if_neg h5]; omega)).symm)
                  obtain ⟨e0, e1, e2⟩ := bne_of hk
                  have l1 : decide (k < 1) = false := by simp; omega
                  have l2 : decide (5 < k) = false := by simp; omega
                  subst hv
                  obtain ⟨f0, f1, f2⟩ := bne_of h5
                  have l3 : decide (a < 0) = false := by simp; omega
                  have l4 : decide (65535 < a) = false := by simp; omega
                  have l5 : decide (0 ≤ b) = false := by simp; omega
                  clear key
                  go_enter Tryd.func24, Tryd.ntmps24
                  go_wp2
                  go_ret
                  exact ⟨congrArg (fun r => Ending.returned (Value.bool r)) HR.out.symm, hb1⟩
                · by_cases hc : b ≤ 65535
                  · have HR := key true (by unfold nvalid; rw [if_neg hk]; exact (decide_eq_true (by simp only [if_neg h5]; omega)).symm)
                    obtain ⟨e0, e1, e2⟩ := bne_of hk
                    have l1 : decide (k < 1) = false := by simp; omega
                    have l2 : decide (5 < k) = false := by simp; omega
                    subst hv
                    obtain ⟨f0, f1, f2⟩ := bne_of h5
                    have l3 : decide (a < 0) = false := by simp; omega
                    have l4 : decide (65535 < a) = false := by simp; omega
                    have l5 : decide (0 ≤ b) = true := by simp; omega
                    have l6 : decide (b ≤ 65535) = true := by simp; omega
                    clear key
                    go_enter Tryd.func24, Tryd.ntmps24
                    go_wp2
                    go_ret
                    exact ⟨congrArg (fun r => Ending.returned (Value.bool r)) HR.out.symm, hb1⟩
                  · have HR := key false (by unfold nvalid; rw [if_neg hk]; exact (decide_eq_false (by simp only [if_neg h5]; omega)).symm)
                    obtain ⟨e0, e1, e2⟩ := bne_of hk
                    have l1 : decide (k < 1) = false := by simp; omega
                    have l2 : decide (5 < k) = false := by simp; omega
                    subst hv
                    obtain ⟨f0, f1, f2⟩ := bne_of h5
                    have l3 : decide (a < 0) = false := by simp; omega
                    have l4 : decide (65535 < a) = false := by simp; omega
                    have l5 : decide (0 ≤ b) = true := by simp; omega
                    have l6 : decide (b ≤ 65535) = false := by simp; omega
                    clear key
                    go_enter Tryd.func24, Tryd.ntmps24
                    go_wp2
                    go_ret
                    exact ⟨congrArg (fun r => Ending.returned (Value.bool r)) HR.out.symm, hb1⟩
        · have HR := key false (by unfold nvalid; rw [if_neg hk]; exact (decide_eq_false (by simp only []; omega)).symm)
          obtain ⟨e0, e1, e2⟩ := bne_of hk
          have l1 : decide (k < 1) = false := by simp; omega
          have l2 : decide (5 < k) = false := by simp; omega
          obtain ⟨g0, g1, g2⟩ := bne_of (x := (v : Int)) (y := 0) (by omega)
          clear key
          go_enter Tryd.func24, Tryd.ntmps24
          go_wp2
          go_ret
          exact ⟨congrArg (fun r => Ending.returned (Value.bool r)) HR.out.symm, hb1⟩
end Go.Proofs.YtkkjkohmekbdbaaDoor
