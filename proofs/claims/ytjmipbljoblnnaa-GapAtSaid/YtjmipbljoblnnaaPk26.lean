/-
  Flo1: Contracts of package flo on words: cut, Finite, Step; of package math: IsNaN, IsInf.
  Dyad1: Contracts of package dyad: Make, Of, Sign, Top, on numbers of any exponent.
  Flo2: flo.shorten: a number cut to one word.
  Flo3: flo.towardsZero: the float64 next to a number towards zero.
  Flo4: flo.Float and flo.Dyad.
  FloC: Steps of float64 words there and back; the two words about a number. No program is spoken of here.
  FloAdd: The sum of two float64: it lies between the float64 beside the exact sum.
  FloGen: The float64 word nearest to a number with places below the least one.
  FloMul: Products, quotients and roots of float64: each lies between the float64 beside the exact one.
  RefQR: The document's dyads of any exponent: Same; of a real number, of a float64.
  RefFlt: The reference's cut, bits, Round.
  RefQM: The reference's product of dyads with exponents from -L on; a dyad's integer at more places.
  RefDQ: The reference's cut where something is lost already, and of 0.
  RefQuo: The reference's quotient of dyads: it lies on its side of the exact one.
  Flo5: The reference's Finite, Step, signed; the statement's own same; Step of what is no number.
  FloR: What the reference's Float makes of a number, as words.
  Dyad2: Contracts of package dyad: Top, align, Cmp, Of, on numbers of any exponent.
  Dyad3: Contracts of package dyad: Cmp, Of, on numbers of any exponent; what flo.Dyad returns of words that are no numbers.
  FloA: compasslaw4.alive answers true.
  RefFlo: The reference's Float.
  Is3: compasslaw3.Is; the reference's Float of any number.
  Real: compasslaw3.Real: the program's dyad of the reference's.
  FloQuo: Quotients and roots of float64: each lies between the float64 beside the exact one.
  GapM: What lies between the corners of two ranges; an end that has been stepped outward. No program is spoken of here.
  FloSub: The difference of two float64 lies between the float64 beside the exact difference. No program is spoken of here.
-/
import Derived.Test.YtjmipbljoblnnaaPk5
import Derived.Test.YtjmipbljoblnnaaPk25
import Derived.Test.YtjmipbljoblnnaaPk21
import Derived.WalkLawsBesides
import Derived.Test.YtjmipbljoblnnaaPk22

namespace Go.Proofs.Ytjmipbljoblnnaa
open Go.RowKit
theorem bits_run (b : Nat) (w : World) : (callFunc 16 #[.float .f64 b]).run Try.prog w = .ok (.value (.int .u64 (b : Int))) w := by
  rw [run_callFunc_extern Try.func16 (by kernel_rfl) (by kernel_rfl) (by kernel_rfl) (e := Extern.MathFloatBits.float64bits) (by kernel_rfl)]
  rfl
theorem frombits_run (x : Int) (w : World) : (callFunc 19 #[.int .u64 x]).run Try.prog w = .ok (.value (.float .f64 x.toNat)) w := by
  rw [run_callFunc_extern Try.func19 (by kernel_rfl) (by kernel_rfl) (by kernel_rfl) (e := Extern.MathFloatBits.float64frombits) (by kernel_rfl)]
  rfl
/-- A function has returned a float64's word and turned nothing. -/
def RetB (w : World) (v : Value) (e : Ending) (w' : World) : Prop := e = .returned v ∧ w = w'
set_option maxRecDepth 100000 in
theorem cut_num (b : Nat) (w : World) (hb : b < 18446744073709551616) : Calls Try.prog 18 #[.float .f64 b] w fun e w' => RetB w (.tuple #[.bool (fneg b), .int .i64 ((b / 4503599627370496 % 2048 : Nat) : Int), .int .u64 ((b % 4503599627370496 : Nat) : Int)]) e w' := by
  have h1 : bits .and .u64 ((b : Int) / 4503599627370496) 2047 = ((b / 4503599627370496 % 2048 : Nat) : Int) := by
    have := and_mask ((b : Int) / 4503599627370496) 11 (by decide) (by omega) (by omega)
    rw [show (2 : Int) ^ 11 - 1 = 2047 by decide, show (2 : Int) ^ 11 = 2048 by decide] at this
    rw [this]; omega
  have h2 : bits .and .u64 (b : Int) 4503599627370495 = ((b % 4503599627370496 : Nat) : Int) := by
    have := and_mask (b : Int) 52 (by decide) (by omega) (by omega)
    rw [show (2 : Int) ^ 52 - 1 = 4503599627370495 by decide, show (2 : Int) ^ 52 = 4503599627370496 by decide] at this
    rw [this]; omega
  have h3 : ((b : Int) / 9223372036854775808 == 1) = fneg b := by
    unfold fneg
    by_cases e : b < 9223372036854775808
    · have e1 : (b : Int) / 9223372036854775808 = 0 := by omega
      have e2 : b / 9223372036854775808 % 2 = 0 := by omega
      rw [e1, e2]; rfl
    · have e1 : (b : Int) / 9223372036854775808 = 1 := by omega
      have e2 : b / 9223372036854775808 % 2 = 1 := by omega
      rw [e1, e2]; rfl
  obtain ⟨F, hF⟩ : ∃ F, b / 4503599627370496 % 2048 = F := ⟨_, rfl⟩
  have hF2 : F < 2048 := by rw [← hF]; exact Nat.mod_lt _ (by decide)
  obtain ⟨G, hG⟩ : ∃ G, b % 4503599627370496 = G := ⟨_, rfl⟩
  obtain ⟨p, hp⟩ : ∃ p, fneg b = p := ⟨_, rfl⟩
  rw [hF] at h1 ⊢
  rw [hG] at h2 ⊢
  rw [hp] at h3 ⊢
  clear hF hG hp
  go_enter Try.func18, Try.ntmps18
  go_wp2_with (simp only [bits_run])
  go_ret3
  exact ⟨rfl, rfl⟩
theorem field_inf {b : Nat} : (b / 4503599627370496 % 2048 = 2047) ↔ INF ≤ rg b := by
  unfold rg INF
  omega
set_option maxRecDepth 100000 in
theorem finite_num (b : Nat) (w : World) (hb : b < 18446744073709551616) : Calls Try.prog 13 #[.float .f64 b] w fun e w' => RetB w (.bool (decide (rg b < INF))) e w' := by
  have HC := Lib.hid (cut_num b w hb)
  have hf : ((((b / 4503599627370496 % 2048 : Nat) : Int)) != 2047) = decide (rg b < INF) := by
    have h := field_inf (b := b)
    by_cases e : rg b < INF
    · rw [decide_eq_true e]
      simp only [bne_iff_ne, ne_eq]
      omega
    · rw [decide_eq_false e]
      have : b / 4503599627370496 % 2048 = 2047 := h.2 (by omega)
      rw [this]; rfl
  obtain ⟨F, hF⟩ : ∃ F, b / 4503599627370496 % 2048 = F := ⟨_, rfl⟩
  obtain ⟨G, hG⟩ : ∃ G, b % 4503599627370496 = G := ⟨_, rfl⟩
  obtain ⟨p, hp⟩ : ∃ p, fneg b = p := ⟨_, rfl⟩
  obtain ⟨r, hr⟩ : ∃ r, decide (rg b < INF) = r := ⟨_, rfl⟩
  rw [hF, hG, hp] at HC
  rw [hF, hr] at hf
  rw [hr]
  clear hF hG hp hr
  go_enter Try.func13, Try.ntmps13
  go_wp2_with fail
  refine HC.out.mono ?_
  rintro e w' ⟨rfl, rfl⟩
  go_wp2_with fail
  go_ret
  exact ⟨rfl, rfl⟩
set_option maxRecDepth 100000 in
theorem isnan_no (b : Nat) (w : World) (h : rg b ≤ INF) : Calls Try.prog 22 #[.float .f64 b] w fun e w' => RetB w (.bool false) e w' := by
  have h1 : (FloatKind.f64.format.order b b != some Ordering.eq) = false := by
    show (Ieee.double.order b b != some Ordering.eq) = false
    rw [order_num h h, cmp_int_eq rfl]; rfl
  clear h
  go_enter Try.func22, Try.ntmps22
  go_wp2_with fail
  go_ret
  exact ⟨rfl, rfl⟩
/-- A float64 with the other sign. -/
theorem neg_word {b : Nat} (hb : b < 18446744073709551616) : rg (Op.negFloat .f64 b) = rg b ∧ fneg (Op.negFloat .f64 b) = !fneg b := by
  have e : Op.negFloat .f64 b = b ^^^ 2 ^ 63 := rfl
  have hx : Op.negFloat .f64 b = if b < 9223372036854775808 then 9223372036854775808 + b else b - 9223372036854775808 := by
    rw [e]
    by_cases h : b < 9223372036854775808
    · rw [if_pos h]
      apply Nat.eq_of_testBit_eq
      intro i
      rw [Nat.testBit_xor, Nat.testBit_two_pow]
      rcases Nat.lt_trichotomy i 63 with hi | hi | hi
      · rw [decide_eq_false (by omega), Bool.xor_false]
        exact (Nat.testBit_two_pow_add_gt hi b).symm
      · subst hi
        rw [decide_eq_true rfl, Bool.xor_true]
        exact (Nat.testBit_two_pow_add_eq b 63).symm
      · have hp : 2 ^ 64 ≤ 2 ^ i := Nat.pow_le_pow_right (by decide) hi
        rw [Nat.testBit_lt_two_pow (show b < 2 ^ i by omega), Nat.testBit_lt_two_pow (show 9223372036854775808 + b < 2 ^ i by omega), decide_eq_false (by omega)]
        rfl
    · rw [if_neg h]
      obtain ⟨c, rfl⟩ := Nat.le.dest (Nat.le_of_not_lt h)
      rw [Nat.add_sub_cancel_left]
      apply Nat.eq_of_testBit_eq
      intro i
      rw [Nat.testBit_xor, Nat.testBit_two_pow]
      rcases Nat.lt_trichotomy i 63 with hi | hi | hi
      · rw [decide_eq_false (by omega), Bool.xor_false]
        exact Nat.testBit_two_pow_add_gt hi c
      · subst hi
        rw [decide_eq_true rfl, Bool.xor_true]
        have := Nat.testBit_two_pow_add_eq c 63
        rw [show (9223372036854775808 : Nat) = 2 ^ 63 by decide, this, Bool.not_not]
      · have hp : 2 ^ 64 ≤ 2 ^ i := Nat.pow_le_pow_right (by decide) hi
        rw [Nat.testBit_lt_two_pow (show 9223372036854775808 + c < 2 ^ i by omega), Nat.testBit_lt_two_pow (show c < 2 ^ i by omega), decide_eq_false (by omega)]
        rfl
  rw [hx]
  unfold rg fneg
  by_cases h : b < 9223372036854775808
  · rw [if_pos h]
    refine ⟨by omega, ?_⟩
    have e1 : (9223372036854775808 + b) / 9223372036854775808 % 2 = 1 := by omega
    have e2 : b / 9223372036854775808 % 2 = 0 := by omega
    rw [e1, e2]; rfl
  · rw [if_neg h]
    refine ⟨by omega, ?_⟩
    have e1 : (b - 9223372036854775808) / 9223372036854775808 % 2 = 0 := by omega
    have e2 : b / 9223372036854775808 % 2 = 1 := by omega
    rw [e1, e2]; rfl
theorem fv_max : fv 9218868437227405311 = (un 9218868437227405311 : Int) := fv_pos (by decide)
theorem gt_max {b : Nat} (h : rg b ≤ INF) : (FloatKind.f64.format.order b 9218868437227405311 == some Ordering.gt) = (!fneg b && decide (rg b = INF)) := by
  rw [fgt_num h (by decide), fv_max]
  have hU := un_step 9218868437227405311
  cases hs : fneg b
  · rw [fv_def, hs]
    by_cases e : rg b = INF
    · rw [e]
      simp only [Bool.not_false, Bool.true_and, decide_true, Bool.false_eq_true, if_false]
      exact decide_eq_true (by exact_mod_cast hU)
    · have h1 := un_le (show rg b ≤ 9218868437227405311 by unfold INF at h e; omega)
      rw [decide_eq_false e, Bool.and_false]
      simp only [Bool.false_eq_true, if_false]
      exact decide_eq_false (by omega)
  · rw [fv_def, hs]
    simp only [Bool.not_true, Bool.false_and, if_true]
    exact decide_eq_false (by omega)
set_option maxRecDepth 100000 in
theorem isinf_pos (b : Nat) (w : World) (h : rg b ≤ INF) : Calls Try.prog 8 #[.float .f64 b, .int .i64 1] w fun e w' => RetB w (.bool (!fneg b && decide (rg b = INF))) e w' := by
  have h1 := gt_max h
  obtain ⟨x, hx⟩ : ∃ x, (!fneg b && decide (rg b = INF)) = x := ⟨_, rfl⟩
  rw [hx] at h1 ⊢
  clear h hx
  go_enter Try.func8, Try.ntmps8
  go_wp2_with fail
  go_ret
  exact ⟨rfl, rfl⟩
theorem unary_neg_float {P : Program} (b : Nat) (w : World) : (Op.unary .neg (.float .f64 b)).run P w = .ok (.float .f64 (Op.negFloat .f64 b)) w := rfl
set_option maxRecDepth 100000 in
theorem isinf_neg (b : Nat) (w : World) (hb : b < 18446744073709551616) (h : rg b ≤ INF) : Calls Try.prog 8 #[.float .f64 b, .int .i64 (-1)] w fun e w' => RetB w (.bool (fneg b && decide (rg b = INF))) e w' := by
  obtain ⟨n1, n2⟩ := neg_word hb
  have h1 := gt_max (b := Op.negFloat .f64 b) (by rw [n1]; exact h)
  rw [n1, n2, Bool.not_not] at h1
  obtain ⟨x, hx⟩ : ∃ x, (fneg b && decide (rg b = INF)) = x := ⟨_, rfl⟩
  rw [hx] at h1 ⊢
  obtain ⟨c, hc⟩ : ∃ c, Op.negFloat .f64 b = c := ⟨_, rfl⟩
  have hu := unary_neg_float (P := Try.prog) b w
  rw [hc] at h1 hu
  clear h hx n1 n2 hc
  go_enter Try.func8, Try.ntmps8
  go_wp2_with (simp only [hu])
  go_ret
  exact ⟨rfl, rfl⟩

/-- What Step gives for a word that is no NaN. -/
def stepW (b : Nat) (down : Bool) : Nat :=
  if rg b = 0 then (if down then 9223372036854775809 else 1)
  else if fneg b then (if down then (if rg b = INF then b else b + 1) else b - 1)
  else (if down then b - 1 else if rg b = INF then b else b + 1)
set_option maxRecDepth 100000 in
theorem step_walk (b : Nat) (dir : Int) (w : World) (vi vn z neg dn : Bool) (res : Nat) (hd : decide (dir < 0) = dn) (hnan : Hid (Calls Try.prog 22 #[.float .f64 b] w fun e w' => RetB w (.bool false) e w'))
    (hi : Hid (Calls Try.prog 8 #[.float .f64 b, .int .i64 1] w fun e w' => RetB w (.bool vi) e w')) (hn : Hid (Calls Try.prog 8 #[.float .f64 b, .int .i64 (-1)] w fun e w' => RetB w (.bool vn) e w'))
    (hz : (FloatKind.f64.format.order b 0 == some Ordering.eq) = z) (hl : (FloatKind.f64.format.order b 0 == some Ordering.lt) = neg) (hb : b + 1 < 18446744073709551616) (hb1 : 1 ≤ b ∨ z = true)
    (hres : Hid (res = if (vi && !dn || vn && dn) = true then b else if z = true then (if dn = true then 9223372036854775809 else 1) else if neg = dn then b + 1 else b - 1)) :
    Calls Try.prog 21 #[.float .f64 b, .int .i64 dir] w fun e w' => RetB w (.float .f64 res) e w' := by
  have h1 : ((b : Int) + 1).toNat = b + 1 := by omega
  have h2 : 1 ≤ b → ((b : Int) - 1).toNat = b - 1 := by omega
  have H1 := Lib.hid h1
  have H2 := Lib.hid h2
  clear h1 h2
  cases vi <;> cases vn <;> cases z <;> cases neg <;> cases dn
  all_goals
    first | (have hd' : dir < 0 := by simpa using hd) | (have hd' : ¬ dir < 0 := by simpa using hd)
    clear hd
    first | (have hb2 : 1 ≤ b := hb1.resolve_right (by decide); clear hb1) | clear hb1
    go_enter Try.func21, Try.ntmps21
    go_wp2_with fail
    refine hnan.out.mono ?_
    rintro e w' ⟨rfl, rfl⟩
    go_wp2_with fail
    refine hi.out.mono ?_
    rintro e w' ⟨rfl, rfl⟩
    go_wp2_with (first | (go_at_call 8; refine hn.out.mono ?_; rintro e w' ⟨rfl, rfl⟩) | simp only [bits_run] | simp only [frombits_run])
    go_ret
    refine ⟨?_, rfl⟩
    rw [hres.out]
    first
      | rfl
      | exact congrArg (fun n => Ending.returned (Value.float FloatKind.f64 n)) H1.out
      | exact congrArg (fun n => Ending.returned (Value.float FloatKind.f64 n)) (H2.out hb2)
theorem step_num (b : Nat) (dir : Int) (w : World) (hb : b < 18446744073709551616) (h : rg b ≤ INF) :
    Calls Try.prog 21 #[.float .f64 b, .int .i64 dir] w fun e w' => RetB w (.float .f64 (stepW b (decide (dir < 0)))) e w' := by
  have h0 : rg 0 = 0 := by decide
  have f0 : fv 0 = 0 := by decide
  have hz : (FloatKind.f64.format.order b 0 == some Ordering.eq) = decide (rg b = 0) := by
    rw [feq_num h (by decide), f0]
    by_cases e : rg b = 0
    · rw [decide_eq_true e, fv_def, e]
      exact decide_eq_true (by split <;> rfl)
    · rw [decide_eq_false e]
      refine decide_eq_false fun hh => e ?_
      rw [fv_def] at hh
      exact un_eq_zero (by split at hh <;> omega)
  have hl : (FloatKind.f64.format.order b 0 == some Ordering.lt) = (fneg b && !decide (rg b = 0)) := by
    rw [flt_num h (by decide), f0]
    by_cases e : rg b = 0
    · rw [decide_eq_true e, fv_def, e]
      exact (decide_eq_false (by split <;> decide)).trans (by simp)
    · rw [decide_eq_false e, fv_def]
      have hu : un (rg b) ≠ 0 := fun hh => e (un_eq_zero hh)
      cases hs : fneg b
      · rw [if_neg (by decide)]
        exact decide_eq_false (by omega)
      · rw [if_pos rfl]
        exact decide_eq_true (by omega)
  have hb2 : b + 1 < 18446744073709551616 := by unfold rg INF at h; omega
  have hb3 : 1 ≤ b ∨ decide (rg b = 0) = true := by
    by_cases e : b = 0
    · right; rw [e]; rfl
    · left; omega
  refine step_walk b dir w _ _ _ _ _ _ rfl (Lib.hid (isnan_no b w h)) (Lib.hid (isinf_pos b w h)) (Lib.hid (isinf_neg b w hb h)) hz hl hb2 hb3 ?_
  show _ = _
  have hI : INF ≠ 0 := by decide
  unfold stepW
  by_cases e0 : rg b = 0
  · have e1 : ¬ rg b = INF := by rw [e0]; exact Ne.symm hI
    rw [if_pos e0, decide_eq_false e1, decide_eq_true e0]
    cases decide (dir < 0) <;> cases fneg b <;> rfl
  · rw [if_neg e0, decide_eq_false e0]
    by_cases e1 : rg b = INF
    · rw [decide_eq_true e1, if_pos e1]
      cases decide (dir < 0) <;> cases fneg b <;> rfl
    · rw [decide_eq_false e1, if_neg e1]
      cases decide (dir < 0) <;> cases fneg b <;> rfl
end Go.Proofs.Ytjmipbljoblnnaa

namespace Go.Proofs.Ytjmipbljoblnnaa
open Go.RowKit

theorem drop_num {w : World} {b o n c : Nat} {N : Int} {m : Nat} (h : Num w (.slice (some ⟨b, o, none⟩) n c) N m) {k : Nat} (hk : k ≤ n) : Num w (.slice (some ⟨b, o + k, none⟩) (n - k) (c - k)) (N / B64 ^ k) m := by
  obtain ⟨a', n', c', l, he, h1, h2, h3, hrd, hl, hv, hm⟩ := h.open
  cases he
  have hs := vb_split B64 l k (by omega)
  have ht0 := vb_nonneg B64_pos (hl.take k)
  have ht1 := vb_lt B64_pos (hl.take k)
  have hlt : (l.take k).length = k := by rw [List.length_take]; omega
  rw [hlt] at ht1
  have hp := pow_pos' B64_pos k
  have e : N / B64 ^ k = vb B64 (l.drop k) := by
    rw [← hv, hs, Int.add_mul_ediv_left _ _ (by omega), Int.ediv_eq_zero_of_lt ht0 ht1, Int.zero_add]
  refine ⟨l.drop k, ⟨some ⟨b, o + k, none⟩, c - k, by rw [List.length_drop, ← h1], by rw [List.length_drop]; omega, by omega, Rd.of_at (hrd.at'.drop k), hl.drop k⟩, e.symm, by rw [List.length_drop]; omega⟩
theorem low_lt64 {N : Int} {t m : Nat} (h : LowOf N t) (hN0 : N ≠ 0) (h0 : 0 ≤ N) (hN : N < B64 ^ m) : t < 64 * m := by
  rcases h with ⟨h1, -⟩ | ⟨-, z, hz⟩
  · exact absurd h1 hN0
  · have hp := pow2_pos t
    have hz0 : 1 ≤ 2 * z + 1 := by
      rcases Int.lt_or_le (2 * z + 1) 1 with h3 | h3
      · exfalso
        have : 2 ^ t * (2 * z + 1) ≤ 2 ^ t * 0 := Int.mul_le_mul_of_nonneg_left (by omega) (by omega)
        omega
      · exact h3
    have h4 : (2 : Int) ^ t * 1 ≤ 2 ^ t * (2 * z + 1) := Int.mul_le_mul_of_nonneg_left hz0 (by omega)
    have h5 : (2 : Int) ^ t < 2 ^ (64 * m) := by
      rw [show (2 : Int) ^ (64 * m) = B64 ^ m by rw [Int.pow_mul]; rfl]
      omega
    exact two_pow_lt_of h5
/-- A dyad in its one form has been returned: that of a sign, an amount, an exponent. -/
def RetDy (w : World) (p : Bool) (N E : Int) (m : Nat) (e : Ending) (w' : World) : Prop :=
  ∃ p' a n c N' E', ∃ t : Nat, e = .returned (.agg #[.bool p', .slice a n c, .int .i64 E']) ∧ NewN w.heap.size w' (.slice a n c) N' m ∧
    ((N = 0 ∧ p' = false ∧ N' = 0 ∧ E' = 0 ∧ t = 0) ∨ (N ≠ 0 ∧ p' = p ∧ N' * 2 ^ t = N ∧ E' = E + t ∧ t ≤ 64 * m ∧ ∃ z, N' = 2 * z + 1)) ∧ Below w.heap.size w w'
theorem RetDy.mk {w w' : World} {p p' : Bool} {N E N' E' : Int} {m : Nat} {a : Option Addr} {n c t : Nat} (h : NewN w.heap.size w' (.slice a n c) N' m)
    (hv : (N = 0 ∧ p' = false ∧ N' = 0 ∧ E' = 0 ∧ t = 0) ∨ (N ≠ 0 ∧ p' = p ∧ N' * 2 ^ t = N ∧ E' = E + t ∧ t ≤ 64 * m ∧ ∃ z, N' = 2 * z + 1)) (hb : Below w.heap.size w w') :
    RetDy w p N E m (.returned (.agg #[.bool p', .slice a n c, .int .i64 E'])) w' := ⟨p', a, n, c, N', E', t, rfl, h, hv, hb⟩
theorem NewN.var3 {base : Nat} {w w' : World} {v : Value} {N : Int} {m g lo hi : Nat} (h : NewN base w v N m) (ho : Only g lo hi w w') (hb : g < base) : NewN base w' v N m := h.only ho hb

end Go.Proofs.Ytjmipbljoblnnaa

namespace Go.Proofs.Ytjmipbljoblnnaa
open Go.RowKit

theorem one_word {base : Nat} {w : World} {a : Option Addr} {n c : Nat} {V : Int} {m : Nat} (h : NewN base w (.slice a n c) V m) (h0 : V ≠ 0) (hV : V < 18446744073709551616) : ∃ g, a = some ⟨g, 0, none⟩ ∧ n = 1 ∧ 1 ≤ c ∧ w.cell? ⟨g, 0, none⟩ = some (.int .u64 V) := by
  obtain ⟨l, hO, hC, hv, hlen⟩ := h
  have hne : l ≠ [] := by
    intro e
    rw [e] at hv
    exact h0 hv.symm
  have hl1 : l.length ≤ 1 := room_of B64_pos hC (by rw [hv]; exact hV)
  match l, hne, hl1, hO, hv with
  | [x], _, _, hO, hv =>
    obtain ⟨g, n', cap, he, hn', h1, h2, hA, -, -⟩ := ow_row hO (by simp)
    simp only [Value.slice.injEq] at he
    obtain ⟨rfl, rfl, rfl⟩ := he
    rw [vb_one] at hv
    subst hv
    have hc := hA.at'.get (j := 0) (by simp)
    rw [hn'] at h1
    exact ⟨g, rfl, by rw [hn']; rfl, h1, hc⟩

end Go.Proofs.Ytjmipbljoblnnaa

namespace Go.Proofs.Ytjmipbljoblnnaa
open Go.RowKit

theorem un_pack {L man : Nat} (h : man ≤ 9007199254740992) (h2 : 4503599627370496 ≤ man ∨ L = 0) : un (L * 4503599627370496 + man) = man * 2 ^ L := by
  unfold un
  by_cases h1 : man < 4503599627370496
  · have hL : L = 0 := by omega
    subst hL
    rw [Nat.zero_mul, Nat.zero_add, if_pos h1, Nat.pow_zero, Nat.mul_one]
  · rw [if_neg (by omega)]
    by_cases h3 : man = 9007199254740992
    · subst h3
      have e1 : (L * 4503599627370496 + 9007199254740992) % 4503599627370496 = 0 := by omega
      have e2 : (L * 4503599627370496 + 9007199254740992) / 4503599627370496 - 1 = L + 1 := by omega
      rw [e1, e2, Nat.pow_succ]
      have := Nat.two_pow_pos L
      generalize 2 ^ L = P at *
      omega
    · have e1 : (L * 4503599627370496 + man) % 4503599627370496 = man - 4503599627370496 := by omega
      have e2 : (L * 4503599627370496 + man) / 4503599627370496 - 1 = L := by omega
      rw [e1, e2, show 4503599627370496 + (man - 4503599627370496) = man by omega]
/-- A rung lies next to an amount times a power of two, towards zero. -/
structure TZ (R : Nat) (ex : Bool) (N E : Int) : Prop where
  lt : R < INF
  eq : ex = true → ∀ K : Nat, 1074 ≤ K → 0 ≤ E + K → (un R : Int) * 2 ^ (K - 1074) = N * 2 ^ (E + K).toNat
  gt : ex = false → ∀ K : Nat, 1074 ≤ K → 0 ≤ E + K → (un R : Int) * 2 ^ (K - 1074) < N * 2 ^ (E + K).toNat ∧ (R + 1 < INF → N * 2 ^ (E + K).toNat < (un (R + 1) : Int) * 2 ^ (K - 1074))
def RetTZ (w : World) (N E : Int) (e : Ending) (w' : World) : Prop := ∃ (R : Nat) (ex : Bool), e = .returned (.tuple #[.float .f64 R, .bool ex]) ∧ TZ R ex N E ∧ Below w.heap.size w w'
theorem pow_split2 {a b c : Nat} (h : a + b = c) : (2 : Int) ^ c = 2 ^ a * 2 ^ b := by rw [← h, Int.pow_add]
theorem cast_pow2 (a q : Nat) : ((a * 2 ^ q : Nat) : Int) = (a : Int) * 2 ^ q := by rw [Int.natCast_mul, Int.natCast_pow]; rfl
theorem un_max (L : Nat) (hL : L = 2045) : (un 9218868437227405311 : Int) = 9007199254740991 * 2 ^ L := by
  have h := un_pack (L := L) (man := 9007199254740991) (by decide) (Or.inl (by decide))
  rw [show L * 4503599627370496 + 9007199254740991 = 9218868437227405311 by omega] at h
  rw [h, cast_pow2]
  exact congrArg (· * (2 : Int) ^ L) (rfl : ((9007199254740991 : Nat) : Int) = 9007199254740991)
/-- The cut of a number of more bits than a float64 holds. -/
theorem tz_cut {N E : Int} {j L man t : Nat} (hN : 0 < N) (hm0 : (man : Int) = N / 2 ^ j) (hL : (L : Int) = j + E + 1074) (hm1 : man < 9007199254740992) (hm2 : 4503599627370496 ≤ man ∨ L = 0) (hL2 : L ≤ 2045) (ht : LowOf N t) :
    TZ (L * 4503599627370496 + man) (decide (j ≤ t)) N E := by
  have e1 := Int.mul_ediv_add_emod N (2 ^ j)
  have e2 := Int.emod_lt_of_pos N (pow2_pos j)
  have e3 := Int.emod_nonneg N (by have := pow2_pos j; omega : (2 : Int) ^ j ≠ 0)
  rw [← hm0] at e1
  have hlow : N % 2 ^ j = 0 ↔ j ≤ t := by
    rcases ht with ⟨h1, -⟩ | ⟨-, z, hz⟩
    · omega
    · constructor
      · intro h0
        by_cases hk : j ≤ t
        · exact hk
        · exfalso
          obtain ⟨d, rfl⟩ := Nat.le.dest (show t + 1 ≤ j by omega)
          rw [h0, Int.add_zero] at e1
          have hp2 : (2 : Int) ^ (t + 1 + d) = 2 ^ t * (2 * 2 ^ d) := by rw [Int.pow_add, Int.pow_succ]; grind
          rw [hz, hp2, Int.mul_assoc] at e1
          have hpt := pow2_pos t
          have e4 := Int.eq_of_mul_eq_mul_left (by omega) e1
          rw [Int.mul_assoc] at e4
          omega
      · intro hk
        obtain ⟨d, rfl⟩ := Nat.le.dest hk
        rw [hz, Int.pow_add, Int.mul_assoc]
        exact Int.mul_emod_right _ _
  have hR : L * 4503599627370496 + man < INF := by unfold INF; omega
  have hu : (un (L * 4503599627370496 + man) : Int) = (man : Int) * 2 ^ L := by
    rw [un_pack (by omega) hm2, Int.natCast_mul, Int.natCast_pow]; rfl
  have hu1 : (un (L * 4503599627370496 + man + 1) : Int) = ((man : Int) + 1) * 2 ^ L := by
    rw [Nat.add_assoc, un_pack (by omega) (by omega), Int.natCast_mul, Int.natCast_pow, Int.natCast_add]; rfl
  have hpw : ∀ K : Nat, 1074 ≤ K → 0 ≤ E + K → (2 : Int) ^ L * 2 ^ (K - 1074) = 2 ^ j * 2 ^ (E + K).toNat := by
    intro K h1 h2
    rw [← Int.pow_add, ← Int.pow_add]
    exact congrArg (fun n : Nat => (2 : Int) ^ n) (by omega)
  refine ⟨hR, fun hx K h1 h2 => ?_, fun hx K h1 h2 => ?_⟩
  · have h0 := hlow.2 (by simpa using hx)
    rw [h0, Int.add_zero] at e1
    rw [hu, Int.mul_assoc, hpw K h1 h2, ← Int.mul_assoc, Int.mul_comm (man : Int), e1]
  · have h0 : N % 2 ^ j ≠ 0 := fun h => by
      have := hlow.1 h
      simp at hx; omega
    have hP := pow2_pos (E + K).toNat
    rw [hu, hu1, Int.mul_assoc, Int.mul_assoc, hpw K h1 h2, ← Int.mul_assoc, ← Int.mul_assoc, Int.mul_comm (man : Int), Int.mul_comm ((man : Int) + 1)]
    refine ⟨Int.mul_lt_mul_of_pos_right (by omega) hP, fun _ => Int.mul_lt_mul_of_pos_right ?_ hP⟩
    rw [Int.mul_add, Int.mul_one]; omega
/-- A number that a float64 holds with bits to spare. -/
theorem tz_whole {N E : Int} {j L man : Nat} (hm0 : (man : Int) = N * 2 ^ j) (hL : (L : Int) + j = E + 1074) (hm1 : man < 9007199254740992) (hm2 : 4503599627370496 ≤ man ∨ L = 0) (hL2 : L ≤ 2045) :
    TZ (L * 4503599627370496 + man) true N E := by
  have hR : L * 4503599627370496 + man < INF := by unfold INF; omega
  have hu : (un (L * 4503599627370496 + man) : Int) = (man : Int) * 2 ^ L := by
    rw [un_pack (by omega) hm2, Int.natCast_mul, Int.natCast_pow]; rfl
  refine ⟨hR, fun _ K h1 h2 => ?_, fun hx => by cases hx⟩
  rw [hu, hm0, Int.mul_assoc, Int.mul_assoc, ← Int.pow_add, ← Int.pow_add]
  exact congrArg (fun n : Nat => N * (2 : Int) ^ n) (by omega)
theorem tz_big {N E : Int} (hN : 0 < N) (hE : E > 1024 - (nb N : Int)) : TZ 9218868437227405311 false N E := by
  obtain ⟨h1, h2, h3⟩ := nb_spec hN
  refine ⟨by decide, fun h => (by cases h), fun _ K hK hEK => ⟨?_, fun h => absurd h (by decide)⟩⟩
  obtain ⟨L, hL⟩ : ∃ L : Nat, L = 2045 := ⟨_, rfl⟩
  rw [un_max L hL]
  obtain ⟨q, hq⟩ : ∃ q, (E + K).toNat = q := ⟨_, rfl⟩
  obtain ⟨s, hs⟩ : ∃ s, K - 1074 = s := ⟨_, rfl⟩
  have hge : 53 + (L + s) ≤ nb N - 1 + q := by omega
  rw [hq, hs]
  have e1 : (2 : Int) ^ (nb N - 1) * 2 ^ q ≤ N * 2 ^ q := Int.mul_le_mul_of_nonneg_right h1 (Int.le_of_lt (pow2_pos q))
  rw [← Int.pow_add] at e1
  have e2 : (2 : Int) ^ (53 + (L + s)) ≤ 2 ^ (nb N - 1 + q) := pow_le_pow (by decide) hge
  have e3 : (9007199254740991 : Int) * 2 ^ L * 2 ^ s < 2 ^ (53 + (L + s)) := by
    rw [Int.pow_add, Int.mul_assoc, ← Int.pow_add]
    exact Int.mul_lt_mul_of_pos_right (by decide) (pow2_pos _)
  omega
theorem tz_small {N E : Int} (hN : 0 < N) (hE : E < -1074 - (nb N : Int)) : TZ 0 false N E := by
  obtain ⟨h1, h2, h3⟩ := nb_spec hN
  refine ⟨by decide, fun h => (by cases h), fun _ K hK hEK => ?_⟩
  obtain ⟨q, hq⟩ : ∃ q, (E + K).toNat = q := ⟨_, rfl⟩
  obtain ⟨s, hs⟩ : ∃ s, K - 1074 = s := ⟨_, rfl⟩
  rw [hq, hs]
  refine ⟨?_, fun _ => ?_⟩
  · rw [un_zero]
    have := Int.mul_pos hN (pow2_pos q)
    simpa using this
  · have e0 : (un (0 + 1) : Int) = 1 := by decide
    rw [e0, Int.one_mul]
    have e1 : N * 2 ^ q < 2 ^ nb N * 2 ^ q := Int.mul_lt_mul_of_pos_right h2 (pow2_pos q)
    rw [← Int.pow_add] at e1
    have e2 : (2 : Int) ^ (nb N + q) ≤ 2 ^ s := pow_le_pow (by decide) (by omega)
    omega
theorem tz_zero (E : Int) : TZ 0 true 0 E := by
  refine ⟨by decide, fun _ K _ _ => ?_, fun h => by cases h⟩
  rw [un_zero]; simp

end Go.Proofs.Ytjmipbljoblnnaa

namespace Go.Proofs.Ytjmipbljoblnnaa
open Go.RowKit

theorem TZ.unique {R R' : Nat} {ex ex' : Bool} {N E : Int} (h : TZ R ex N E) (g : TZ R' ex' N E) : R = R' ∧ ex = ex' := by
  obtain ⟨K, hK⟩ : ∃ K : Nat, K = 1074 + E.natAbs := ⟨_, rfl⟩
  have h1 : 1074 ≤ K := by omega
  have h2 : 0 ≤ E + K := by omega
  have hs := pow2_pos (K - 1074)
  have mono : ∀ {a b : Nat}, a ≤ b → (un a : Int) * 2 ^ (K - 1074) ≤ (un b : Int) * 2 ^ (K - 1074) := fun {a b} hab => Int.mul_le_mul_of_nonneg_right (by have := un_le hab; omega) (Int.le_of_lt hs)
  have smono : ∀ {a b : Nat}, a < b → (un a : Int) * 2 ^ (K - 1074) < (un b : Int) * 2 ^ (K - 1074) := fun {a b} hab => Int.mul_lt_mul_of_pos_right (by have := un_lt hab; omega) hs
  cases ex <;> cases ex'
  · refine ⟨?_, rfl⟩
    obtain ⟨a1, a2⟩ := h.gt rfl K h1 h2
    obtain ⟨b1, b2⟩ := g.gt rfl K h1 h2
    rcases Nat.lt_trichotomy R R' with hr | hr | hr
    · have := a2 (by have := g.lt; omega)
      have := mono (show R + 1 ≤ R' from hr)
      omega
    · exact hr
    · have := b2 (by have := h.lt; omega)
      have := mono (show R' + 1 ≤ R from hr)
      omega
  · exfalso
    obtain ⟨a1, a2⟩ := h.gt rfl K h1 h2
    have b1 := g.eq rfl K h1 h2
    rcases Nat.lt_or_ge R R' with hr | hr
    · have := a2 (by have := g.lt; omega)
      have := mono (show R + 1 ≤ R' from hr)
      omega
    · have := mono hr
      omega
  · exfalso
    obtain ⟨a1, a2⟩ := g.gt rfl K h1 h2
    have b1 := h.eq rfl K h1 h2
    rcases Nat.lt_or_ge R' R with hr | hr
    · have := a2 (by have := h.lt; omega)
      have := mono (show R' + 1 ≤ R from hr)
      omega
    · have := mono hr
      omega
  · refine ⟨?_, rfl⟩
    have a1 := h.eq rfl K h1 h2
    have b1 := g.eq rfl K h1 h2
    rcases Nat.lt_trichotomy R R' with hr | hr | hr
    · have := smono hr; omega
    · exact hr
    · have := smono hr; omega

/-- The word that a rung stands for with a sign; nought has none. -/
def sgW (neg : Bool) (R : Nat) : Nat := match neg with
  | false => R
  | true => if R = 0 then 0 else 9223372036854775808 + R
/-- What Float gives. -/
def floW (neg : Bool) (R : Nat) (ex down : Bool) : Nat := if (ex || neg != down) = true then sgW neg R else stepW (sgW neg R) down
def RetF (w : World) (neg : Bool) (N E : Int) (down : Bool) (e : Ending) (w' : World) : Prop := ∃ (R : Nat) (ex : Bool), e = .returned (.float .f64 (floW neg R ex down)) ∧ TZ R ex N E ∧ Below w.heap.size w w'
theorem sgW_lt {neg : Bool} {R : Nat} (h : R < INF) : sgW neg R < 18446744073709551616 ∧ rg (sgW neg R) = R := by
  unfold INF at *
  cases neg
  · show R < 18446744073709551616 ∧ rg R = R
    exact ⟨by omega, (rg_pos (by omega)).1⟩
  · show (if R = 0 then 0 else 9223372036854775808 + R) < _ ∧ rg (if R = 0 then 0 else 9223372036854775808 + R) = R
    by_cases h0 : R = 0
    · rw [if_pos h0, h0]; exact ⟨by decide, by decide⟩
    · rw [if_neg h0]; exact ⟨by omega, (rg_neg (by omega)).1⟩
theorem fsub_run {P : Program} {t : TypeId} {R : Nat} (h : R < INF) (w : World) : (binOp .sub t (.float .f64 0) (.float .f64 R)).run P w = .ok (.float .f64 (sgW true R)) w := by
  by_cases h0 : R = 0
  · subst h0
    exact run_float_arith w .sub t .f64 0 0 0 sub_zero
  · rw [show sgW true R = 9223372036854775808 + R from if_neg h0]
    exact run_float_arith w .sub t .f64 0 R _ (sub_word h0 h)

/-- flo.Dyad has returned a finite float64's number. -/
def RetFD (w : World) (b : Nat) (e : Ending) (w' : World) : Prop := ∃ p a n c N E, e = .returned (.tuple #[.agg #[.bool p, .slice a n c, .int .i64 E], .bool true]) ∧ NewN w.heap.size w' (.slice a n c) N 1 ∧ -1074 ≤ E ∧ E ≤ 1100 ∧ N * 2 ^ (E + 1074).toNat = (un (rg b) : Int) ∧ (N ≠ 0 → p = fneg b ∧ ∃ z, N = 2 * z + 1) ∧ (N = 0 → p = false ∧ E = 0) ∧ Below w.heap.size w w'
theorem RetDy.of_sg {w w' : World} {p p' : Bool} {N N' E : Int} {m : Nat} {e : Ending} (h : RetDy w p' N' E m e w') (h0 : 0 ≤ N) (h1 : 0 ≤ N') (hs : sg p N = sg p' N') : RetDy w p N E m e w' := by
  have e1 : N = N' ∧ (N ≠ 0 → p' = p) := by
    cases p <;> cases p' <;> simp only [sg_true, sg_false] at hs
    · exact ⟨by omega, fun _ => rfl⟩
    · exact ⟨by omega, fun _ => by omega⟩
    · exact ⟨by omega, fun _ => by omega⟩
    · exact ⟨by omega, fun _ => rfl⟩
  obtain ⟨rfl, e2⟩ := e1
  obtain ⟨pR, a, n, c, NR, ER, t, h3, h4, h5, h6⟩ := h
  refine ⟨pR, a, n, c, NR, ER, t, h3, h4, ?_, h6⟩
  rcases h5 with h5 | ⟨h7, rfl, h8⟩
  · exact Or.inl h5
  · exact Or.inr ⟨h7, e2 h7, h8⟩
theorem field_parts {b : Nat} (hf : rg b < INF) : b / 4503599627370496 % 2048 ≤ 2046 ∧ un (rg b) = (if b / 4503599627370496 % 2048 = 0 then b % 4503599627370496 else 4503599627370496 + b % 4503599627370496) * 2 ^ (b / 4503599627370496 % 2048 - 1) := by
  unfold INF at hf
  have h1 : rg b / 4503599627370496 = b / 4503599627370496 % 2048 := by unfold rg; omega
  have h2 : rg b % 4503599627370496 = b % 4503599627370496 := by unfold rg; omega
  refine ⟨by rw [← h1]; omega, ?_⟩
  unfold un
  rw [h1, h2]
  by_cases h3 : rg b < 4503599627370496
  · have h4 : b / 4503599627370496 % 2048 = 0 := by rw [← h1]; omega
    rw [if_pos h3, h4, if_pos rfl, Nat.pow_zero, Nat.mul_one, ← h2]
    omega
  · have h4 : b / 4503599627370496 % 2048 ≠ 0 := by rw [← h1]; omega
    rw [if_neg h3, if_neg h4]
theorem or_one52 {c : Int} (h0 : 0 ≤ c) (h1 : c < 4503599627370496) : bits .or .u64 c 4503599627370496 = 4503599627370496 + c := by
  rw [or_comm64 c 4503599627370496 h0 (by omega) (by decide) (by decide)]
  have := or_parts 1 c 52 (by decide) h0 (by simpa using h1) (by have : (2 : Int) ^ 52 = 4503599627370496 := by decide
                                                                 omega)
  have e : (1 : Int) * 2 ^ 52 = 4503599627370496 := by decide
  rw [e] at this
  exact this

theorem low_exists (N : Int) (hN : N ≠ 0) : ∃ t, IsLow N t := by
  have key : ∀ (k : Nat) (M : Int), M.natAbs ≤ k → M ≠ 0 → ∃ t, IsLow M t := by
    intro k
    induction k with
    | zero => intro M h1 h2; omega
    | succ k ih =>
      intro M h1 h2
      by_cases h : M % 2 = 0
      · obtain ⟨t, z, hz⟩ := ih (M / 2) (by omega) (by omega)
        refine ⟨t + 1, z, ?_⟩
        rw [Int.pow_succ, Int.mul_comm (2 ^ t) 2, Int.mul_assoc, ← hz]
        omega
      · exact ⟨0, M / 2, by rw [Int.pow_zero, Int.one_mul]; omega⟩
  exact key _ N (Nat.le_refl _) hN
/-- Of every number there is a float64 next to it towards zero. -/
theorem tz_exists {N E : Int} (h0 : 0 ≤ N) : ∃ R ex, TZ R ex N E := by
  by_cases hN : N = 0
  · subst hN; exact ⟨0, true, tz_zero E⟩
  · have hNp : 0 < N := by omega
    obtain ⟨g1, g2, g3⟩ := nb_spec hNp
    by_cases hbig : E > 1024 - (nb N : Int)
    · exact ⟨_, _, tz_big hNp hbig⟩
    · by_cases hsm : E < -1074 - (nb N : Int)
      · exact ⟨_, _, tz_small hNp hsm⟩
      · obtain ⟨B, hB⟩ : ∃ B, nb N = B := ⟨_, rfl⟩
        rw [hB] at g1 g2 g3 hbig hsm
        obtain ⟨last, hlast⟩ : ∃ last, max ((B : Int) + E - 53) (-1074) = last := ⟨_, rfl⟩
        have hl1 : -1074 ≤ last ∧ last ≤ 971 ∧ (B : Int) + E - 53 ≤ last ∧ (last = (B : Int) + E - 53 ∨ last = -1074) := by omega
        obtain ⟨L, hL⟩ := Int.eq_ofNat_of_zero_le (show 0 ≤ last + 1074 by omega)
        by_cases hn : 0 < last - E
        · obtain ⟨j, hj⟩ := Int.eq_ofNat_of_zero_le (show 0 ≤ last - E by omega)
          have hpj := pow2_pos j
          have hVlt : N / 2 ^ j < 9007199254740992 := by
            refine Int.ediv_lt_of_lt_mul hpj ?_
            have e1 : (2 : Int) ^ B ≤ 2 ^ (53 + j) := pow_le_pow (by decide) (by omega)
            rw [Int.pow_add] at e1
            have e2 : (2 : Int) ^ 53 = 9007199254740992 := by decide
            rw [e2] at e1
            omega
          have hVge : 4503599627370496 ≤ N / 2 ^ j ∨ L = 0 := by
            rcases hl1.2.2.2 with e | e
            · left
              refine Int.le_ediv_of_mul_le hpj ?_
              have e1 : (2 : Int) ^ (52 + j) ≤ 2 ^ (B - 1) := pow_le_pow (by decide) (by omega)
              rw [Int.pow_add] at e1
              have e2 : (2 : Int) ^ 52 = 4503599627370496 := by decide
              rw [e2] at e1
              omega
            · right; omega
          have hV0 : 0 ≤ N / 2 ^ j := Int.ediv_nonneg h0 (Int.le_of_lt hpj)
          obtain ⟨V, hV⟩ := Int.eq_ofNat_of_zero_le hV0
          obtain ⟨t, ht⟩ := low_exists N hN
          exact ⟨_, _, tz_cut (j := j) (L := L) (man := V) hNp hV.symm (by omega) (by omega) (by omega) (by omega) (Or.inr ⟨hN, ht⟩)⟩
        · obtain ⟨j, hj⟩ := Int.eq_ofNat_of_zero_le (show 0 ≤ E - last by omega)
          have hpj := pow2_pos j
          have hVlt : N * 2 ^ j < 9007199254740992 := by
            have e1 : N * 2 ^ j < 2 ^ B * 2 ^ j := Int.mul_lt_mul_of_pos_right g2 hpj
            rw [← Int.pow_add] at e1
            have e3 : (2 : Int) ^ (B + j) ≤ 2 ^ 53 := pow_le_pow (by decide) (by omega)
            have e2 : (2 : Int) ^ 53 = 9007199254740992 := by decide
            rw [e2] at e3
            omega
          have hVge : 4503599627370496 ≤ N * 2 ^ j ∨ L = 0 := by
            rcases hl1.2.2.2 with e | e
            · left
              have e1 : 2 ^ (B - 1) * 2 ^ j ≤ N * 2 ^ j := Int.mul_le_mul_of_nonneg_right g1 (Int.le_of_lt hpj)
              rw [← Int.pow_add] at e1
              have e3 : (2 : Int) ^ 52 ≤ 2 ^ (B - 1 + j) := pow_le_pow (by decide) (by omega)
              have e2 : (2 : Int) ^ 52 = 4503599627370496 := by decide
              rw [e2] at e3
              omega
            · right; omega
          have hV0 : 0 ≤ N * 2 ^ j := Int.mul_nonneg h0 (Int.le_of_lt hpj)
          obtain ⟨V, hV⟩ := Int.eq_ofNat_of_zero_le hV0
          exact ⟨_, _, tz_whole (j := j) (L := L) (man := V) hV.symm (by omega) (by omega) (by omega) (by omega)⟩
end Go.Proofs.Ytjmipbljoblnnaa

namespace Go.Proofs.Ytjmipbljoblnnaa
open Go.RowKit

theorem word_cases {b : Nat} (hb : b < 18446744073709551616) : (b = rg b ∧ fneg b = false) ∨ (b = 9223372036854775808 + rg b ∧ fneg b = true) := by
  rcases Nat.lt_or_ge b 9223372036854775808 with h | h
  · exact Or.inl ⟨(rg_pos h).1.symm, (rg_pos h).2⟩
  · right
    have e : b = 9223372036854775808 + (b - 9223372036854775808) := by omega
    have h2 := rg_neg (r := b - 9223372036854775808) (by omega)
    rw [← e] at h2
    exact ⟨by rw [h2.1]; exact e, h2.2⟩
theorem rg_lt (b : Nat) : rg b < 9223372036854775808 := Nat.mod_lt _ (by decide)
/-- A word's step up and down, and back. -/
structure Steps (b : Nat) : Prop where
  up_lt : stepW b false < 18446744073709551616
  up_rg : rg (stepW b false) ≤ INF
  dn_lt : stepW b true < 18446744073709551616
  dn_rg : rg (stepW b true) ≤ INF
  up : fv b < fv (stepW b false)
  dn : fv (stepW b true) < fv b
  ub_rg : rg (stepW (stepW b false) true) ≤ INF
  ub : fv (stepW (stepW b false) true) = fv b
  db_rg : rg (stepW (stepW b true) false) ≤ INF
  db : fv (stepW (stepW b true) false) = fv b
theorem stepW_pos {r : Nat} (h0 : r ≠ 0) (h : r < 9223372036854775808) (dn : Bool) : stepW r dn = if dn then r - 1 else if r = INF then r else r + 1 := by
  unfold stepW
  rw [(rg_pos h).1, (rg_pos h).2, if_neg h0]
  rfl
theorem stepW_neg {r : Nat} (h0 : r ≠ 0) (h : r < 9223372036854775808) (dn : Bool) : stepW (9223372036854775808 + r) dn = if dn then (if r = INF then 9223372036854775808 + r else 9223372036854775808 + r + 1) else 9223372036854775808 + r - 1 := by
  unfold stepW
  rw [(rg_neg h).1, (rg_neg h).2, if_neg h0, if_pos rfl]
theorem stepW_zero {b : Nat} (h0 : rg b = 0) (dn : Bool) : stepW b dn = if dn then 9223372036854775809 else 1 := by
  unfold stepW
  rw [if_pos h0]
theorem steps {b : Nat} (hb : b < 18446744073709551616) (hf : rg b < INF) : Steps b := by
  have hI : INF = 9218868437227405312 := rfl
  have f1 : fv 1 = 1 := by decide
  have f0 : fv 0 = 0 := by decide
  have fm : fv 9223372036854775809 = -1 := by decide
  have fz : fv 9223372036854775808 = 0 := by decide
  by_cases h0 : rg b = 0
  · have e1 : stepW b false = 1 := stepW_zero h0 false
    have e2 : stepW b true = 9223372036854775809 := stepW_zero h0 true
    have e3 : stepW 1 true = 0 := by decide
    have e4 : stepW 9223372036854775809 false = 9223372036854775808 := by decide
    have fb : fv b = 0 := by rw [fv_def, h0]; split <;> rfl
    refine ⟨?_, ?_, ?_, ?_, ?_, ?_, ?_, ?_, ?_, ?_⟩
    · rw [e1]; decide
    · rw [e1]; decide
    · rw [e2]; decide
    · rw [e2]; decide
    · rw [e1, fb, f1]; decide
    · rw [e2, fb, fm]; decide
    · rw [e1, e3]; decide
    · rw [e1, e3, fb, f0]
    · rw [e2, e4]; decide
    · rw [e2, e4, fb, fz]
  · obtain ⟨r, hr⟩ : ∃ r, rg b = r := ⟨_, rfl⟩
    have hrl := rg_lt b
    rw [hr] at h0 hf hrl
    have l1 := un_step (r - 1)
    rw [show r - 1 + 1 = r by omega] at l1
    have l2 := un_step r
    rcases word_cases hb with ⟨e, -⟩ | ⟨e, -⟩
    · rw [hr] at e
      subst e
      have e1 : stepW b false = b + 1 := by rw [stepW_pos h0 hrl, if_neg (by decide), if_neg (by omega)]
      have e2 : stepW b true = b - 1 := by rw [stepW_pos h0 hrl, if_pos rfl]
      have e3 : stepW (b + 1) true = b := by rw [stepW_pos (by omega) (by omega), if_pos rfl]; omega
      have e4 : stepW (b - 1) false = b := by
        by_cases h1 : b = 1
        · subst h1; decide
        · rw [stepW_pos (by omega) (by omega), if_neg (by decide), if_neg (by omega)]; omega
      have r1 := (rg_pos (r := b + 1) (by omega)).1
      have r2 := (rg_pos (r := b - 1) (by omega)).1
      refine ⟨by omega, by rw [e1, r1]; omega, by omega, by rw [e2, r2]; omega, ?_, ?_, by rw [e1, e3, hr]; omega, by rw [e1, e3], by rw [e2, e4, hr]; omega, by rw [e2, e4]⟩
      · rw [e1, fv_pos (by omega), fv_pos (by omega)]; omega
      · rw [e2, fv_pos (by omega), fv_pos (by omega)]; omega
    · rw [hr] at e
      subst e
      have e1 : stepW (9223372036854775808 + r) false = 9223372036854775808 + (r - 1) := by rw [stepW_neg h0 hrl, if_neg (by decide)]; omega
      have e2 : stepW (9223372036854775808 + r) true = 9223372036854775808 + (r + 1) := by rw [stepW_neg h0 hrl, if_pos rfl, if_neg (by omega)]; omega
      have e3 : stepW (9223372036854775808 + (r - 1)) true = 9223372036854775808 + r := by
        by_cases h1 : r = 1
        · subst h1; decide
        · rw [stepW_neg (by omega) (by omega), if_pos rfl, if_neg (by omega)]; omega
      have e4 : stepW (9223372036854775808 + (r + 1)) false = 9223372036854775808 + r := by rw [stepW_neg (by omega) (by omega), if_neg (by decide)]; omega
      have r1 := (rg_neg (r := r - 1) (by omega)).1
      have r2 := (rg_neg (r := r + 1) (by omega)).1
      refine ⟨by omega, by rw [e1, r1]; omega, by omega, by rw [e2, r2]; omega, ?_, ?_, by rw [e1, e3, hr]; omega, by rw [e1, e3], by rw [e2, e4, hr]; omega, by rw [e2, e4]⟩
      · rw [e1, fv_neg (by omega), fv_neg (by omega)]; omega
      · rw [e2, fv_neg (by omega), fv_neg (by omega)]; omega

/-- The words about a number: what they are. -/
structure Btw (lo hi : Nat) (neg : Bool) (N E : Int) : Prop where
  lo_lt : lo < 18446744073709551616
  lo_rg : rg lo ≤ INF
  hi_lt : hi < 18446744073709551616
  hi_rg : rg hi ≤ INF
  le : fv lo ≤ fv hi
  next : fv lo ≠ fv hi → fv (stepW lo false) = fv hi ∧ rg (stepW lo false) ≤ INF
  one : rg lo < INF ∨ rg hi < INF
  low : rg lo < INF → ∀ K : Nat, 1074 ≤ K → 0 ≤ E + K → fv lo * 2 ^ (K - 1074) ≤ sg neg N * 2 ^ (E + K).toNat
  high : rg hi < INF → ∀ K : Nat, 1074 ≤ K → 0 ≤ E + K → sg neg N * 2 ^ (E + K).toNat ≤ fv hi * 2 ^ (K - 1074)
theorem fv_sgW {neg : Bool} {R : Nat} (h : R < INF) : fv (sgW neg R) = sg neg (un R : Int) := by
  have hI : INF = 9218868437227405312 := rfl
  cases neg
  · show fv R = (un R : Int)
    exact fv_pos (by omega)
  · show fv (if R = 0 then 0 else 9223372036854775808 + R) = -(un R : Int)
    by_cases h0 : R = 0
    · subst h0; decide
    · rw [if_neg h0]; exact fv_neg (by omega)
theorem sg_mul_le {p : Bool} {a b c d : Int} (h : a * c ≤ b * d) : p = false → sg p a * c ≤ sg p b * d := by
  intro e; subst e; exact h
theorem btw {neg : Bool} {R : Nat} {ex : Bool} {N E : Int} (h : TZ R ex N E) : Btw (floW neg R ex true) (floW neg R ex false) neg N E := by
  have hI : INF = 9218868437227405312 := rfl
  have hR := h.lt
  cases ex with
  | true =>
    have e1 : ∀ d, floW neg R true d = sgW neg R := fun d => by unfold floW; simp
    rw [e1, e1]
    obtain ⟨s1, s2⟩ := sgW_lt (neg := neg) hR
    have hv := fv_sgW (neg := neg) hR
    have key : ∀ K : Nat, 1074 ≤ K → 0 ≤ E + K → fv (sgW neg R) * 2 ^ (K - 1074) = sg neg N * 2 ^ (E + K).toNat := by
      intro K h1 h2
      have := h.eq rfl K h1 h2
      rw [hv, ← sg_scale, ← sg_scale, this]
    exact ⟨s1, by rw [s2]; omega, s1, by rw [s2]; omega, Int.le_refl _, fun h => absurd rfl h, Or.inl (by rw [s2]; exact hR), fun _ K h1 h2 => Int.le_of_eq (key K h1 h2), fun _ K h1 h2 => Int.le_of_eq (key K h1 h2).symm⟩
  | false =>
    have l2 := un_step R
    cases neg with
    | false =>
      have e1 : floW false R false true = R := rfl
      have e2 : floW false R false false = R + 1 := by
        show stepW R false = R + 1
        by_cases h0 : R = 0
        · subst h0; decide
        · rw [stepW_pos h0 (by omega), if_neg (by decide), if_neg (by omega)]
      have e3 : stepW R false = R + 1 := e2
      rw [e1, e2]
      have r1 := (rg_pos (r := R) (by omega)).1
      have r2 := (rg_pos (r := R + 1) (by omega)).1
      have v1 := fv_pos (r := R) (by omega)
      have v2 := fv_pos (r := R + 1) (by omega)
      refine ⟨by omega, by rw [r1]; omega, by omega, by rw [r2]; omega, by rw [v1, v2]; omega, fun _ => ⟨by rw [e3], by rw [e3, r2]; omega⟩, Or.inl (by rw [r1]; exact hR), fun _ K h1 h2 => ?_, fun hh K h1 h2 => ?_⟩
      · rw [v1, sg_false]
        exact Int.le_of_lt (h.gt rfl K h1 h2).1
      · rw [v2, sg_false]
        rw [r2] at hh
        exact Int.le_of_lt ((h.gt rfl K h1 h2).2 hh)
    | true =>
      have e1 : floW true R false true = 9223372036854775808 + (R + 1) := by
        show stepW (sgW true R) true = _
        by_cases h0 : R = 0
        · subst h0; decide
        · rw [show sgW true R = 9223372036854775808 + R from if_neg h0, stepW_neg h0 (by omega), if_pos rfl, if_neg (by omega)]; omega
      have e2 : floW true R false false = sgW true R := rfl
      rw [e1, e2]
      obtain ⟨s1, s2⟩ := sgW_lt (neg := true) hR
      have v2 := fv_sgW (neg := true) hR
      rw [sg_true] at v2
      have r1 := (rg_neg (r := R + 1) (by omega)).1
      have v1 := fv_neg (r := R + 1) (by omega)
      have e3 : stepW (9223372036854775808 + (R + 1)) false = 9223372036854775808 + R := by rw [stepW_neg (by omega) (by omega), if_neg (by decide)]; omega
      refine ⟨by omega, by rw [r1]; omega, s1, by rw [s2]; omega, by rw [v1, v2]; omega, fun _ => ⟨by rw [e3, v2, fv_neg (by omega)], by rw [e3, (rg_neg (by omega)).1]; omega⟩, Or.inr (by rw [s2]; exact hR), fun hh K h1 h2 => ?_, fun _ K h1 h2 => ?_⟩
      · rw [r1] at hh
        have := (h.gt rfl K h1 h2).2 hh
        rw [v1, sg_true, Int.neg_mul, Int.neg_mul]
        omega
      · have := (h.gt rfl K h1 h2).1
        rw [v2, sg_true, Int.neg_mul, Int.neg_mul]
        omega
end Go.Proofs.Ytjmipbljoblnnaa

namespace Go.Proofs.Ytjmipbljoblnnaa
open Go.RowKit

/-- Where the word nearest to a whole number of least places lies. -/
theorem nearest_at (neg : Bool) {T k0 : Nat} (h0 : T ≠ 0) : ∃ r, r ≤ INF ∧ Ieee.double.nearest neg T (Ieee.double.leastPlace + (k0 : Int)) = Ieee.double.word neg r ∧
    (∀ R, R ≤ INF → un R ≤ T * 2 ^ k0 → R ≤ r) ∧ (∀ R, T * 2 ^ k0 ≤ un R → r ≤ R) := by
  unfold Ieee.Format.nearest
  rw [if_neg h0]
  have e2 : Ieee.double.binade = 4503599627370496 := by decide
  have e3 : Ieee.double.infRung = INF := by decide
  have e4 : (Ieee.double.fractionBits : Int) = 52 := rfl
  simp only [e2, e3]
  rw [e4]
  generalize Ieee.double.leastPlace = lp
  obtain ⟨g, hg⟩ : ∃ g, T.log2 = g := ⟨_, rfl⟩
  obtain ⟨q, hq⟩ : ∃ q, g + k0 - 52 = q := ⟨_, rfl⟩
  rw [hg]
  have hm : max (lp + (k0 : Int) + (g : Int) - 52) lp = lp + (q : Int) := by omega
  rw [hm]
  obtain ⟨i, hi⟩ : ∃ i, k0 - q = i := ⟨_, rfl⟩
  obtain ⟨j, hj⟩ : ∃ j, q - k0 = j := ⟨_, rfl⟩
  have z1 : (lp + (k0 : Int) - (lp + (q : Int))).toNat = i := by omega
  have z2 : (lp + (q : Int) - (lp + (k0 : Int))).toNat = j := by omega
  have z3 : (lp + (q : Int) - lp).toNat = q := by omega
  rw [z1, z2, z3, Nat.shiftLeft_eq]
  unfold Ieee.Toward.cut
  have hij : i = 0 ∨ j = 0 := by omega
  have hgap : (1 <<< min j ((T * 2 ^ i).log2 + 2) : Nat) = 2 ^ j := by
    have : j ≤ (T * 2 ^ i).log2 + 2 := by
      rcases hij with h | h
      · rw [h, Nat.pow_zero, Nat.mul_one, hg]; omega
      · omega
    rw [Nat.min_eq_left this, Nat.shiftLeft_eq, Nat.one_mul]
  simp only [hgap]
  have hp := Nat.two_pow_pos q
  have hpj := Nat.two_pow_pos j
  obtain ⟨k, hk⟩ : ∃ k, T * 2 ^ i / 2 ^ j = k := ⟨_, rfl⟩
  obtain ⟨s, hs⟩ : ∃ s, T * 2 ^ i % 2 ^ j = s := ⟨_, rfl⟩
  have hT : T * 2 ^ i = k * 2 ^ j + s := by rw [← hk, ← hs, Nat.mul_comm (T * 2 ^ i / 2 ^ j)]; exact (Nat.div_add_mod _ (2 ^ j)).symm
  have hsl : s < 2 ^ j := by rw [← hs]; exact Nat.mod_lt _ hpj
  rw [hk, hs]
  obtain ⟨M, hMd⟩ : ∃ M, T * 2 ^ k0 = M := ⟨_, rfl⟩
  rw [hMd]
  obtain ⟨s', hM, hsl', hss⟩ : ∃ s', M = k * 2 ^ q + s' ∧ s' < 2 ^ q ∧ (s ≠ 0 → s' ≠ 0) := by
    rcases hij with h | h
    · rw [h, Nat.pow_zero, Nat.mul_one] at hT
      have hk0 := Nat.two_pow_pos k0
      have e : 2 ^ q = 2 ^ j * 2 ^ k0 := by rw [← Nat.pow_add]; congr 1; omega
      refine ⟨s * 2 ^ k0, ?_, ?_, ?_⟩
      · rw [← hMd, hT, Nat.add_mul, Nat.mul_assoc, ← e]
      · rw [e]; exact Nat.mul_lt_mul_of_pos_right hsl hk0
      · intro h1; exact Nat.mul_ne_zero h1 (by omega)
    · rw [h] at hsl
      have hs0 : s = 0 := by rw [Nat.pow_zero] at hsl; omega
      rw [h, hs0, Nat.pow_zero, Nat.mul_one, Nat.add_zero] at hT
      refine ⟨0, ?_, hp, fun h1 => absurd hs0 h1⟩
      rw [← hMd, ← hT, Nat.add_zero, Nat.mul_assoc, ← Nat.pow_add]
      congr 2; omega
  obtain ⟨u, hu⟩ : ∃ u : Bool, (decide (2 ^ j < 2 * s) || 2 ^ j == 2 * s && k % 2 == 1) = u := ⟨_, rfl⟩
  rw [hu]
  have hus : u = true → s ≠ 0 := by
    rintro rfl rfl
    simp at hu
  have hpk := Nat.two_pow_pos k0
  have hl1 : 2 ^ (g + k0) ≤ M := by
    rw [← hMd, Nat.pow_add, ← hg]; exact Nat.mul_le_mul_right _ (Nat.log2_self_le h0)
  have hl2 : M < 2 ^ (g + k0 + 1) := by
    rw [← hMd, show g + k0 + 1 = (g + 1) + k0 by omega, Nat.pow_add, ← hg]; exact Nat.mul_lt_mul_of_pos_right Nat.lt_log2_self hpk
  have hkM : M / 2 ^ q = k := by
    rw [hM, Nat.mul_comm, Nat.mul_add_div hp, Nat.div_eq_of_lt hsl', Nat.add_zero]
  have hk1 : k < 9007199254740992 := by
    rw [← hkM, Nat.div_lt_iff_lt_mul hp]
    refine Nat.lt_of_lt_of_le hl2 ?_
    rw [show (9007199254740992 : Nat) = 2 ^ 53 from rfl, ← Nat.pow_add]
    exact Nat.pow_le_pow_right (by decide) (by omega)
  have hk2 : 4503599627370496 ≤ k ∨ q = 0 := by
    by_cases hq0 : q = 0
    · exact Or.inr hq0
    · left
      rw [← hkM, Nat.le_div_iff_mul_le hp, show (4503599627370496 : Nat) = 2 ^ 52 from rfl, ← Nat.pow_add, show 52 + q = g + k0 by omega]
      exact hl1
  have u0 := un_pack (L := q) (man := k) (by omega) hk2
  have u1 := un_pack (L := q) (man := k + 1) (by omega) (by omega)
  rw [Nat.add_mul, Nat.one_mul] at u1
  obtain ⟨t, ht⟩ : ∃ t, q * 4503599627370496 + k = t := ⟨_, rfl⟩
  rw [ht] at u0
  rw [show q * 4503599627370496 + (k + 1) = t + 1 by omega] at u1
  have hun : un t ≤ M := by omega
  have hun1 : M < un (t + 1) := by omega
  have hunu : u = true → un t < M := fun h => by have := hss (hus h); omega
  have lt_of : ∀ {a b : Nat}, un a < un b → a < b := fun {a b} h => by
    rcases Nat.lt_or_ge a b with h1 | h1
    · exact h1
    · have := un_le h1; omega
  have le_of : ∀ {a b : Nat}, un a ≤ un b → a ≤ b := fun {a b} h => by
    rcases Nat.lt_or_ge b a with h1 | h1
    · have := un_lt h1; omega
    · exact h1
  refine ⟨min (q * 4503599627370496 + (k + u.toNat)) INF, Nat.min_le_right _ _, rfl, fun R hR h => ?_, fun R h => ?_⟩
  · have h1 : R < t + 1 := lt_of (Nat.lt_of_le_of_lt h hun1)
    refine Nat.le_min.2 ⟨by omega, hR⟩
  · refine Nat.le_trans (Nat.min_le_left _ _) ?_
    cases u with
    | false =>
      have := le_of (Nat.le_trans hun h)
      show q * 4503599627370496 + (k + 0) ≤ R
      omega
    | true =>
      have := lt_of (Nat.lt_of_lt_of_le (hunu rfl) h)
      show q * 4503599627370496 + (k + 1) ≤ R
      omega

/-- A float64 beside a whole number S of least places: no float64 lies between. -/
structure NearTo (x : Nat) (S : Int) : Prop where
  lt : x < 18446744073709551616
  rg : rg x ≤ INF
  up : ∀ y, y < 18446744073709551616 → Go.Proofs.Ytjmipbljoblnnaa.rg y ≤ INF → fv y ≤ S → fv y ≤ fv x
  down : ∀ y, y < 18446744073709551616 → Go.Proofs.Ytjmipbljoblnnaa.rg y ≤ INF → S ≤ fv y → fv x ≤ fv y

theorem signed_un {b m p : Nat} (h : m * 2 ^ p = un (rg b)) : Ieee.signed (fneg b) m p = fv b := by
  rw [fv_def, ← h]
  unfold Ieee.signed
  rw [Nat.shiftLeft_eq]

theorem add_num {b c : Nat} (hb : rg b < INF) (hc : rg c < INF) : ∃ x, floatBits .add .f64 b c = some x ∧ NearTo x (fv b + fv c) := by
  obtain ⟨m, p, e1, h1⟩ := read_num hb
  obtain ⟨n, q, f1, g1⟩ := read_num hc
  have hI : INF = 9218868437227405312 := rfl
  show ∃ x, Ieee.double.add b c = some x ∧ _
  unfold Ieee.Format.add
  rw [e1, f1]
  simp only [Ieee.Datum.sum, Option.map_some]
  obtain ⟨k, hk⟩ : ∃ k, min p q = k := ⟨_, rfl⟩
  have hbase : min (Ieee.double.leastPlace + (p : Int)) (Ieee.double.leastPlace + (q : Int)) = Ieee.double.leastPlace + (k : Int) := by omega
  rw [hbase]
  obtain ⟨i, hi⟩ : ∃ i, p - k = i := ⟨_, rfl⟩
  obtain ⟨j, hj⟩ : ∃ j, q - k = j := ⟨_, rfl⟩
  have z1 : (Ieee.double.leastPlace + (p : Int) - (Ieee.double.leastPlace + (k : Int))).toNat = i := by omega
  have z2 : (Ieee.double.leastPlace + (q : Int) - (Ieee.double.leastPlace + (k : Int))).toNat = j := by omega
  rw [z1, z2]
  have s1 : Ieee.signed (fneg b) m i * 2 ^ k = fv b := by rw [← signed_scale, show i + k = p by omega]; exact signed_un h1
  have s2 : Ieee.signed (fneg c) n j * 2 ^ k = fv c := by rw [← signed_scale, show j + k = q by omega]; exact signed_un g1
  obtain ⟨D, hD⟩ : ∃ D, Ieee.signed (fneg b) m i + Ieee.signed (fneg c) n j = D := ⟨_, rfl⟩
  have hS : fv b + fv c = D * 2 ^ k := by rw [← s1, ← s2, ← Int.add_mul, hD]
  rw [hD, hS]
  have hp := pow2_pos k
  clear s1 s2 hD hS
  have bigger : ∀ y, y < 18446744073709551616 → rg y ≤ INF → (fneg y = false ∧ fv y = (un (rg y) : Int)) ∨ (fneg y = true ∧ fv y = -(un (rg y) : Int)) := by
    intro y _ _
    rw [fv_def]
    cases fneg y
    · exact Or.inl ⟨rfl, rfl⟩
    · exact Or.inr ⟨rfl, rfl⟩
  by_cases hD0 : D = 0
  · subst hD0
    rw [if_pos rfl, Int.zero_mul]
    refine ⟨_, rfl, ?_⟩
    show NearTo (Ieee.double.nearest _ 0 _) 0
    unfold Ieee.Format.nearest
    rw [if_pos rfl]
    have hz : ∀ s, Ieee.double.word s 0 < 18446744073709551616 ∧ rg (Ieee.double.word s 0) ≤ INF ∧ fv (Ieee.double.word s 0) = 0 := by
      intro s; cases s <;> decide
    obtain ⟨a1, a2, a3⟩ := hz (fneg b && fneg c)
    exact ⟨a1, a2, fun y _ _ h => by rw [a3]; exact h, fun y _ _ h => by rw [a3]; exact h⟩
  · rw [if_neg hD0]
    refine ⟨_, rfl, ?_⟩
    show NearTo (Ieee.double.nearest (decide (D < 0)) D.natAbs _) _
    obtain ⟨r, hr, e, hup, hdn⟩ := nearest_at (decide (D < 0)) (T := D.natAbs) (k0 := k) (by omega)
    rw [e]
    have hcast : ((D.natAbs * 2 ^ k : Nat) : Int) = (D.natAbs : Int) * 2 ^ k := cast_pow2 _ _
    rcases Int.lt_or_le D 0 with hneg | hpos
    · have hd : decide (D < 0) = true := by simp [hneg]
      rw [hd]
      have hw : Ieee.double.word true r = 9223372036854775808 + r := rfl
      rw [hw]
      have hx := fv_neg (r := r) (by omega)
      have hxr := (rg_neg (r := r) (by omega)).1
      have hSn : D * 2 ^ k = -((D.natAbs * 2 ^ k : Nat) : Int) := by
        rw [hcast, show (D.natAbs : Int) = -D by omega, Int.neg_mul, Int.neg_neg]
      refine ⟨by omega, by rw [hxr]; exact hr, fun y hy hyr h => ?_, fun y hy hyr h => ?_⟩
      · rw [hx]
        rcases bigger y hy hyr with ⟨-, b2⟩ | ⟨-, b2⟩
        · have hpos2 : 0 < D.natAbs * 2 ^ k := Nat.mul_pos (by omega) (Nat.two_pow_pos k)
          omega
        · have := un_le (hdn (rg y) (by omega))
          omega
      · rw [hx]
        rcases bigger y hy hyr with ⟨-, b2⟩ | ⟨-, b2⟩
        · omega
        · have := un_le (hup (rg y) hyr (by omega))
          omega
    · have hd : decide (D < 0) = false := by simp; omega
      rw [hd]
      have hw : Ieee.double.word false r = r := rfl
      rw [hw]
      have hx := fv_pos (r := r) (by omega)
      have hxr := (rg_pos (r := r) (by omega)).1
      have hSn : D * 2 ^ k = ((D.natAbs * 2 ^ k : Nat) : Int) := by
        rw [hcast, show (D.natAbs : Int) = D by omega]
      refine ⟨by omega, by rw [hxr]; exact hr, fun y hy hyr h => ?_, fun y hy hyr h => ?_⟩
      · rw [hx]
        rcases bigger y hy hyr with ⟨-, b2⟩ | ⟨-, b2⟩
        · have := un_le (hup (rg y) hyr (by omega))
          omega
        · omega
      · rw [hx]
        rcases bigger y hy hyr with ⟨-, b2⟩ | ⟨-, b2⟩
        · have := un_le (hdn (rg y) (by omega))
          omega
        · have hpos2 : 0 < D.natAbs * 2 ^ k := Nat.mul_pos (by omega) (Nat.two_pow_pos k)
          omega
end Go.Proofs.Ytjmipbljoblnnaa

namespace Go.Proofs.Ytjmipbljoblnnaa
open Go.RowKit

/-- Where the word nearest to T * 2^k0 / 2^d least places lies. -/
theorem nearest_gen (neg : Bool) {T k0 d : Nat} (h0 : T ≠ 0) : ∃ r, r ≤ INF ∧ Ieee.double.nearest neg T (Ieee.double.leastPlace + (k0 : Int) - (d : Int)) = Ieee.double.word neg r ∧
    (∀ R, R ≤ INF → un R * 2 ^ d ≤ T * 2 ^ k0 → R ≤ r) ∧ (∀ R, T * 2 ^ k0 ≤ un R * 2 ^ d → r ≤ R) := by
  unfold Ieee.Format.nearest
  rw [if_neg h0]
  have e2 : Ieee.double.binade = 4503599627370496 := by decide
  have e3 : Ieee.double.infRung = INF := by decide
  have e4 : (Ieee.double.fractionBits : Int) = 52 := rfl
  simp only [e2, e3]
  rw [e4]
  generalize Ieee.double.leastPlace = lp
  obtain ⟨g, hg⟩ : ∃ g, T.log2 = g := ⟨_, rfl⟩
  obtain ⟨q, hq⟩ : ∃ q, g + k0 - 52 - d = q := ⟨_, rfl⟩
  rw [hg]
  have hm : max (lp + (k0 : Int) - (d : Int) + (g : Int) - 52) lp = lp + (q : Int) := by omega
  rw [hm]
  obtain ⟨i, hi⟩ : ∃ i, k0 - d - q = i := ⟨_, rfl⟩
  obtain ⟨j, hj⟩ : ∃ j, q + d - k0 = j := ⟨_, rfl⟩
  have z1 : (lp + (k0 : Int) - (d : Int) - (lp + (q : Int))).toNat = i := by omega
  have z2 : (lp + (q : Int) - (lp + (k0 : Int) - (d : Int))).toNat = j := by omega
  have z3 : (lp + (q : Int) - lp).toNat = q := by omega
  rw [z1, z2, z3, Nat.shiftLeft_eq]
  have hij : i = 0 ∨ j = 0 := by omega
  have hpd := Nat.two_pow_pos d
  have hpk := Nat.two_pow_pos k0
  have lt_of : ∀ {a b : Nat}, un a < un b → a < b := fun {a b} h => by
    rcases Nat.lt_or_ge a b with h1 | h1
    · exact h1
    · have := un_le h1; omega
  have le_of : ∀ {a b : Nat}, un a ≤ un b → a ≤ b := fun {a b} h => by
    rcases Nat.lt_or_ge b a with h1 | h1
    · have := un_lt h1; omega
    · exact h1
  have hg1 : T < 2 ^ (g + 1) := by rw [← hg]; exact Nat.lt_log2_self
  by_cases hfar : g + 2 < j
  · -- all of it lies below half of a least place
    have hq0 : q = 0 := by omega
    have hi0 : i = 0 := by omega
    have hcut : Ieee.Toward.even.cut neg (T * 2 ^ i) j = 0 := by
      unfold Ieee.Toward.cut
      rw [hi0, Nat.pow_zero, Nat.mul_one, hg, Nat.min_eq_right (by omega : g + 2 ≤ j), Nat.shiftLeft_eq, Nat.one_mul]
      have h4 : 2 * T < 2 ^ (g + 2) := by rw [Nat.pow_succ]; omega
      have h5 : T / 2 ^ (g + 2) = 0 := Nat.div_eq_of_lt (by omega)
      have h6 : T % 2 ^ (g + 2) = T := Nat.mod_eq_of_lt (by omega)
      simp only [h5, h6]
      have h7 : decide (2 ^ (g + 2) < 2 * T) = false := by simp; omega
      have h8 : (2 ^ (g + 2) == 2 * T) = false := by simp; omega
      rw [h7, h8]
      rfl
    rw [hcut, hq0]
    refine ⟨0, Nat.zero_le _, by simp, fun R _ h => ?_, fun R _ => Nat.zero_le _⟩
    have h1 : T * 2 ^ k0 < 2 ^ (g + 1) * 2 ^ k0 := Nat.mul_lt_mul_of_pos_right hg1 hpk
    rw [← Nat.pow_add] at h1
    have h2 : 2 ^ (g + 1 + k0) ≤ 2 ^ d := Nat.pow_le_pow_right (by decide) (by omega)
    have h3 : un R = 0 := by
      rcases Nat.eq_zero_or_pos (un R) with h | h'
      · exact h
      · have : 1 * 2 ^ d ≤ un R * 2 ^ d := Nat.mul_le_mul_right _ h'
        omega
    have := un_eq_zero h3
    omega
  unfold Ieee.Toward.cut
  have hgap : (1 <<< min j ((T * 2 ^ i).log2 + 2) : Nat) = 2 ^ j := by
    have : j ≤ (T * 2 ^ i).log2 + 2 := by
      rcases hij with h | h
      · rw [h, Nat.pow_zero, Nat.mul_one, hg]; omega
      · omega
    rw [Nat.min_eq_left this, Nat.shiftLeft_eq, Nat.one_mul]
  simp only [hgap]
  have hp := Nat.two_pow_pos (q + d)
  have hpj := Nat.two_pow_pos j
  obtain ⟨k, hk⟩ : ∃ k, T * 2 ^ i / 2 ^ j = k := ⟨_, rfl⟩
  obtain ⟨s, hs⟩ : ∃ s, T * 2 ^ i % 2 ^ j = s := ⟨_, rfl⟩
  have hT : T * 2 ^ i = k * 2 ^ j + s := by rw [← hk, ← hs, Nat.mul_comm (T * 2 ^ i / 2 ^ j)]; exact (Nat.div_add_mod _ (2 ^ j)).symm
  have hsl : s < 2 ^ j := by rw [← hs]; exact Nat.mod_lt _ hpj
  rw [hk, hs]
  obtain ⟨M, hMd⟩ : ∃ M, T * 2 ^ k0 = M := ⟨_, rfl⟩
  rw [hMd]
  obtain ⟨s', hM, hsl', hss⟩ : ∃ s', M = k * 2 ^ (q + d) + s' ∧ s' < 2 ^ (q + d) ∧ (s ≠ 0 → s' ≠ 0) := by
    rcases hij with h | h
    · rw [h, Nat.pow_zero, Nat.mul_one] at hT
      have e : 2 ^ (q + d) = 2 ^ j * 2 ^ k0 := by rw [← Nat.pow_add]; congr 1; omega
      refine ⟨s * 2 ^ k0, ?_, ?_, ?_⟩
      · rw [← hMd, hT, Nat.add_mul, Nat.mul_assoc, ← e]
      · rw [e]; exact Nat.mul_lt_mul_of_pos_right hsl hpk
      · intro h1; exact Nat.mul_ne_zero h1 (by omega)
    · rw [h] at hsl
      have hs0 : s = 0 := by rw [Nat.pow_zero] at hsl; omega
      rw [h, hs0, Nat.pow_zero, Nat.mul_one, Nat.add_zero] at hT
      refine ⟨0, ?_, hp, fun h1 => absurd hs0 h1⟩
      rw [← hMd, ← hT, Nat.add_zero, Nat.mul_assoc, ← Nat.pow_add]
      congr 2; omega
  obtain ⟨u, hu⟩ : ∃ u : Bool, (decide (2 ^ j < 2 * s) || 2 ^ j == 2 * s && k % 2 == 1) = u := ⟨_, rfl⟩
  rw [hu]
  have hus : u = true → s ≠ 0 := by
    rintro rfl rfl
    simp at hu
  have hl1 : 2 ^ (g + k0) ≤ M := by
    rw [← hMd, Nat.pow_add, ← hg]; exact Nat.mul_le_mul_right _ (Nat.log2_self_le h0)
  have hl2 : M < 2 ^ (g + k0 + 1) := by
    rw [← hMd, show g + k0 + 1 = (g + 1) + k0 by omega, Nat.pow_add, ← hg]; exact Nat.mul_lt_mul_of_pos_right Nat.lt_log2_self hpk
  have hkM : M / 2 ^ (q + d) = k := by
    rw [hM, Nat.mul_comm, Nat.mul_add_div hp, Nat.div_eq_of_lt hsl', Nat.add_zero]
  have hk1 : k < 9007199254740992 := by
    rw [← hkM, Nat.div_lt_iff_lt_mul hp]
    refine Nat.lt_of_lt_of_le hl2 ?_
    rw [show (9007199254740992 : Nat) = 2 ^ 53 from rfl, ← Nat.pow_add]
    exact Nat.pow_le_pow_right (by decide) (by omega)
  have hk2 : 4503599627370496 ≤ k ∨ q = 0 := by
    by_cases hq0 : q = 0
    · exact Or.inr hq0
    · left
      rw [← hkM, Nat.le_div_iff_mul_le hp, show (4503599627370496 : Nat) = 2 ^ 52 from rfl, ← Nat.pow_add, show 52 + (q + d) = g + k0 by omega]
      exact hl1
  have u0 := un_pack (L := q) (man := k) (by omega) hk2
  have u1 := un_pack (L := q) (man := k + 1) (by omega) (by omega)
  obtain ⟨t, ht⟩ : ∃ t, q * 4503599627370496 + k = t := ⟨_, rfl⟩
  rw [ht] at u0
  rw [show q * 4503599627370496 + (k + 1) = t + 1 by omega] at u1
  have v0 : un t * 2 ^ d = k * 2 ^ (q + d) := by rw [u0, Nat.mul_assoc, ← Nat.pow_add]
  have v1 : un (t + 1) * 2 ^ d = k * 2 ^ (q + d) + 2 ^ (q + d) := by rw [u1, Nat.mul_assoc, ← Nat.pow_add, Nat.add_mul, Nat.one_mul]
  have hun : un t * 2 ^ d ≤ M := by omega
  have hun1 : M < un (t + 1) * 2 ^ d := by omega
  have hunu : u = true → un t * 2 ^ d < M := fun h => by have := hss (hus h); omega
  have dn : ∀ {a b : Nat}, a * 2 ^ d < b * 2 ^ d → a < b := fun {a b} h => Nat.lt_of_mul_lt_mul_right h
  have dnl : ∀ {a b : Nat}, a * 2 ^ d ≤ b * 2 ^ d → a ≤ b := fun {a b} h => Nat.le_of_mul_le_mul_right h hpd
  refine ⟨min (q * 4503599627370496 + (k + u.toNat)) INF, Nat.min_le_right _ _, rfl, fun R hR h => ?_, fun R h => ?_⟩
  · have h1 : R < t + 1 := lt_of (dn (Nat.lt_of_le_of_lt h hun1))
    refine Nat.le_min.2 ⟨by omega, hR⟩
  · refine Nat.le_trans (Nat.min_le_left _ _) ?_
    cases u with
    | false =>
      have := le_of (dnl (Nat.le_trans hun h))
      show q * 4503599627370496 + (k + 0) ≤ R
      omega
    | true =>
      have := lt_of (dn (Nat.lt_of_lt_of_le (hunu rfl) h))
      show q * 4503599627370496 + (k + 1) ≤ R
      omega
end Go.Proofs.Ytjmipbljoblnnaa

namespace Go.Proofs.Ytjmipbljoblnnaa
open Go.RowKit

/-- A float64 beside S / D least places: no float64 lies between. -/
structure NearR (x : Nat) (S : Int) (D : Nat) : Prop where
  lt : x < 18446744073709551616
  rg : rg x ≤ INF
  up : ∀ y, y < 18446744073709551616 → Go.Proofs.Ytjmipbljoblnnaa.rg y ≤ INF → fv y * (D : Int) ≤ S → fv y ≤ fv x
  down : ∀ y, y < 18446744073709551616 → Go.Proofs.Ytjmipbljoblnnaa.rg y ≤ INF → S ≤ fv y * (D : Int) → fv x ≤ fv y

theorem fv_cases (y : Nat) : (fneg y = false ∧ fv y = (un (rg y) : Int)) ∨ (fneg y = true ∧ fv y = -(un (rg y) : Int)) := by
  rw [fv_def]
  cases fneg y
  · exact Or.inl ⟨rfl, rfl⟩
  · exact Or.inr ⟨rfl, rfl⟩
theorem word_zero (s : Bool) : Ieee.double.word s 0 < 18446744073709551616 ∧ rg (Ieee.double.word s 0) ≤ INF ∧ fv (Ieee.double.word s 0) = 0 := by
  cases s <;> decide
theorem word_lt {s : Bool} {r : Nat} (h : r ≤ INF) : Ieee.double.word s r < 18446744073709551616 ∧ rg (Ieee.double.word s r) = r ∧ fv (Ieee.double.word s r) = if s then -(un r : Int) else (un r : Int) := by
  have hI : INF = 9218868437227405312 := rfl
  cases s
  · exact ⟨show r < _ by omega, (rg_pos (r := r) (by omega)).1, fv_pos (r := r) (by omega)⟩
  · exact ⟨show 9223372036854775808 + r < _ by omega, (rg_neg (r := r) (by omega)).1, fv_neg (r := r) (by omega)⟩
/-- A word whose amount lies between the amounts beside M / D. -/
theorem near_ofR {s : Bool} {r M D : Nat} (hr : r ≤ INF) (hM : M ≠ 0) (hup : ∀ R, R ≤ INF → un R * D ≤ M → R ≤ r) (hdn : ∀ R, M ≤ un R * D → r ≤ R) :
    NearR (Ieee.double.word s r) (if s then -(M : Int) else (M : Int)) D := by
  obtain ⟨w1, w2, w3⟩ := word_lt (s := s) hr
  have cast : ∀ k : Nat, ((un k : Int) * (D : Int)) = ((un k * D : Nat) : Int) := fun k => by rw [Int.natCast_mul]
  refine ⟨w1, by rw [w2]; exact hr, fun y _ hyr h => ?_, fun y _ hyr h => ?_⟩
  · rw [w3]
    rcases fv_cases y with ⟨-, b2⟩ | ⟨-, b2⟩
    · rw [b2, cast] at h
      rw [b2]
      cases s
      · have h2 : ((un (rg y) * D : Nat) : Int) ≤ (M : Int) := h
        have := un_le (hup _ hyr (by omega))
        show (un (rg y) : Int) ≤ (un r : Int)
        omega
      · have h1 : ((un (rg y) * D : Nat) : Int) ≤ -(M : Int) := h
        omega
    · rw [b2, Int.neg_mul, cast] at h
      rw [b2]
      cases s
      · show -(un (rg y) : Int) ≤ (un r : Int)
        omega
      · have h1 : -((un (rg y) * D : Nat) : Int) ≤ -(M : Int) := h
        have := un_le (hdn (rg y) (by omega))
        show -(un (rg y) : Int) ≤ -(un r : Int)
        omega
  · rw [w3]
    rcases fv_cases y with ⟨-, b2⟩ | ⟨-, b2⟩
    · rw [b2, cast] at h
      rw [b2]
      cases s
      · have h1 : (M : Int) ≤ ((un (rg y) * D : Nat) : Int) := h
        have := un_le (hdn (rg y) (by omega))
        show (un r : Int) ≤ (un (rg y) : Int)
        omega
      · show -(un r : Int) ≤ (un (rg y) : Int)
        omega
    · rw [b2, Int.neg_mul, cast] at h
      rw [b2]
      cases s
      · have h1 : (M : Int) ≤ -((un (rg y) * D : Nat) : Int) := h
        omega
      · have h1 : -(M : Int) ≤ -((un (rg y) * D : Nat) : Int) := h
        have := un_le (hup (rg y) hyr (by omega))
        show -(un r : Int) ≤ -(un (rg y) : Int)
        omega
theorem nearest_zero (s : Bool) (p : Int) : Ieee.double.nearest s 0 p = Ieee.double.word s 0 := by
  unfold Ieee.Format.nearest
  rw [if_pos rfl]
theorem near_zeroR (s : Bool) {D : Nat} (hD : 0 < D) : NearR (Ieee.double.word s 0) 0 D := by
  obtain ⟨a1, a2, a3⟩ := word_zero s
  have hp : (0 : Int) < (D : Int) := by omega
  refine ⟨a1, a2, fun y _ _ h => ?_, fun y _ _ h => ?_⟩
  · rw [a3]
    rcases Int.lt_or_le 0 (fv y) with h1 | h1
    · have := Int.mul_pos h1 hp; omega
    · exact h1
  · rw [a3]
    rcases Int.lt_or_le (fv y) 0 with h1 | h1
    · have := Int.mul_neg_of_neg_of_pos h1 hp; omega
    · exact h1
theorem fv_sign (b : Nat) : fv b = (if fneg b then -1 else 1) * (un (rg b) : Int) := by
  rw [fv_def]
  cases fneg b <;> simp
/-- The product of two finite float64 lies beside the exact product. -/
theorem fmul_num {b c K : Nat} (hb : rg b < INF) (hc : rg c < INF) (hK : K = 1074) : ∃ x, floatBits .mul .f64 b c = some x ∧ NearR x (fv b * fv c) (2 ^ K) := by
  obtain ⟨m, p, e1, h1⟩ := read_num hb
  obtain ⟨n, q, f1, g1⟩ := read_num hc
  show ∃ x, Ieee.double.mul b c = some x ∧ _
  unfold Ieee.Format.mul
  rw [e1, f1]
  simp only [Ieee.Datum.product, Option.map_some]
  refine ⟨_, rfl, ?_⟩
  show NearR (Ieee.double.nearest (fneg b ^^ fneg c) (m * n) _) _ _
  have hplace : Ieee.double.leastPlace + (p : Int) + (Ieee.double.leastPlace + (q : Int)) = Ieee.double.leastPlace + ((p + q : Nat) : Int) - (K : Int) := by
    have : Ieee.double.leastPlace = -1074 := by decide
    omega
  rw [hplace]
  have hS : fv b * fv c = if (fneg b ^^ fneg c) then -((m * n * 2 ^ (p + q) : Nat) : Int) else ((m * n * 2 ^ (p + q) : Nat) : Int) := by
    have e : m * n * 2 ^ (p + q) = un (rg b) * un (rg c) := by rw [← h1, ← g1, Nat.pow_add]; grind
    rw [e, fv_sign b, fv_sign c, Int.natCast_mul]
    cases fneg b <;> cases fneg c <;> simp [Int.neg_mul, Int.mul_neg]
  rw [hS]
  by_cases h0 : m * n = 0
  · rw [h0, nearest_zero, Nat.zero_mul]
    generalize (fneg b ^^ fneg c) = s
    cases s
    · exact near_zeroR false (Nat.two_pow_pos K)
    · exact near_zeroR true (Nat.two_pow_pos K)
  · obtain ⟨r, hr, e, hup, hdn⟩ := nearest_gen (fneg b ^^ fneg c) (T := m * n) (k0 := p + q) (d := K) h0
    rw [e]
    exact near_ofR hr (Nat.mul_ne_zero h0 (by have := Nat.two_pow_pos (p + q); omega)) hup hdn
end Go.Proofs.Ytjmipbljoblnnaa

namespace Go.Proofs.Ytjmipbljoblnnaa
open Go.RowKit
end Go.Proofs.Ytjmipbljoblnnaa

namespace Go.Proofs.Ytjmipbljoblnnaa
open Go.RowKit

/-- The amount to which N is cut at so many bits. -/
def cutV (N : Int) (p : Nat) (away : Bool) : Int := if nb N ≤ p then N else N / 2 ^ (nb N - p) + if (decide (¬ N / 2 ^ (nb N - p) * 2 ^ (nb N - p) = N) && away) = true then 1 else 0
end Go.Proofs.Ytjmipbljoblnnaa

namespace Go.Proofs.Ytjmipbljoblnnaa
open Go.RowKit

theorem RQ.lift {L : Nat} {w : World} {v : Value} {Z : Int} {m b : Nat} (h : RQ L w v Z m b) (k : Nat) : RQ (L + k) w v (Z * 2 ^ k) m (b + k) := by
  obtain ⟨neg, a, n, c, N, E, E0, h1, h2, h3, h4, h5, h6, h7⟩ := h
  refine ⟨neg, a, n, c, N, E, E0 + k, h1, h2, ?_, by omega, h5, h6, by omega⟩
  rw [h3, Int.pow_add, Int.mul_assoc]
theorem RetQZ.lift {L : Nat} {w w' : World} {Z : Int} {m b : Nat} {e : Ending} (h : RetQZ L w Z m b e w') (k : Nat) : RetQZ (L + k) w (Z * 2 ^ k) m (b + k) e w' := by
  obtain ⟨neg, a, n, c, E, h1, h2, h3⟩ := h
  exact ⟨neg, a, n, c, E, h1, h2.lift k, h3⟩
theorem rq_mul {p q : Bool} {N M Zx Zy : Int} {E G T : Nat} (h1 : Zx = sg p N * 2 ^ E) (h2 : Zy = sg q M * 2 ^ G) (hT : E + G = T) : sg (p != q) (N * M) * 2 ^ T = Zx * Zy := by
  rw [h1, h2, ← hT, Int.pow_add]
  cases p <;> cases q <;> simp only [sg, bne_self_eq_false, Bool.true_bne, Bool.false_bne, Bool.not_false, if_true, if_false, Bool.false_eq_true] <;> grind
end Go.Proofs.Ytjmipbljoblnnaa

namespace Go.Proofs.Ytjmipbljoblnnaa
open Go.RowKit

/-- The amount to which N and a little more is cut at so many bits. -/
def cutW (N : Int) (p : Nat) (away : Bool) : Int := (if nb N ≤ p then N else N / 2 ^ (nb N - p)) + if away = true then 1 else 0
theorem rn_nb {w : World} {v : Value} {N : Int} {m : Nat} (h : RN w v N m) : nb N ≤ 32 * m := by
  have hN := h.nonneg
  by_cases h0 : N = 0
  · subst h0
    exact Nat.le_trans (Nat.le_of_eq (by decide)) (Nat.zero_le _)
  · have hlt := h.lt
    obtain ⟨q1, q2, q3⟩ := nb_spec (show 0 < N by omega)
    have h5 : (2 : Int) ^ (nb N - 1) < 2 ^ (32 * m) := by
      rw [show (2 : Int) ^ (32 * m) = B32 ^ m by rw [Int.pow_mul]; rfl]
      omega
    have := two_pow_lt_of h5
    omega
end Go.Proofs.Ytjmipbljoblnnaa

namespace Go.Proofs.Ytjmipbljoblnnaa
open Go.RowKit

def IsDM (A B : Int) (m k : Nat) (v : Value) (w : World) : Prop := ∃ a n c a2 n2 c2, v = .tuple #[.slice a n c, .slice a2 n2 c2] ∧ RN w (.slice a n c) A m ∧ RN w (.slice a2 n2 c2) B k
theorem IsDM.keeps (A B : Int) (m k : Nat) : Keeps (IsDM A B m k) := fun _ _ _ hb ⟨a, n, c, a2, n2, c2, h1, h2, h3⟩ => ⟨a, n, c, a2, n2, c2, h1, h2.below hb, h3.below hb⟩
def cutX (N : Int) (p : Nat) (away : Bool) (rest : Bool) : Int := match rest with
  | true => cutW N p away
  | false => cutV N p away
theorem cutX_down {N : Int} (p : Nat) (rest : Bool) (h : 0 ≤ N) : cutX N p false rest * 2 ^ (nb N - p) ≤ N ∧ 0 ≤ cutX N p false rest := by
  have hp : (0 : Int) < 2 ^ (nb N - p) := Int.pow_pos (by decide)
  have key : (if nb N ≤ p then N else N / 2 ^ (nb N - p)) * 2 ^ (nb N - p) ≤ N ∧ 0 ≤ (if nb N ≤ p then N else N / 2 ^ (nb N - p)) := by
    split
    · rename_i hs
      rw [show nb N - p = 0 by omega]
      omega
    · exact ⟨Int.ediv_mul_le _ (by omega), Int.ediv_nonneg h (by omega)⟩
  cases rest
  · show cutV N p false * _ ≤ N ∧ 0 ≤ cutV N p false
    have e : cutV N p false = (if nb N ≤ p then N else N / 2 ^ (nb N - p)) := by
      unfold cutV
      split
      · rfl
      · simp
    rw [e]; exact key
  · show cutW N p false * _ ≤ N ∧ 0 ≤ cutW N p false
    have e : cutW N p false = (if nb N ≤ p then N else N / 2 ^ (nb N - p)) := by
      unfold cutW
      simp
    rw [e]; exact key
theorem cutX_up {N : Int} (p : Nat) (rest : Bool) : N + (if rest = true then 1 else 0) ≤ cutX N p true rest * 2 ^ (nb N - p) := by
  have hp : (0 : Int) < 2 ^ (nb N - p) := Int.pow_pos (by decide)
  have hd := Int.emod_add_mul_ediv N (2 ^ (nb N - p))
  have hm0 := Int.emod_nonneg N (show (2 : Int) ^ (nb N - p) ≠ 0 by omega)
  have hm1 := Int.emod_lt_of_pos N hp
  obtain ⟨J, hJ⟩ : ∃ J : Int, 2 ^ (nb N - p) = J := ⟨_, rfl⟩
  cases rest
  · show N + (if false = true then 1 else 0) ≤ cutV N p true * _
    unfold cutV
    by_cases hs : nb N ≤ p
    · rw [if_pos hs, show nb N - p = 0 by omega]; simp
    · rw [if_neg hs]
      rw [hJ] at hd hm0 hm1 hp ⊢
      obtain ⟨F, hF⟩ : ∃ F, N / J = F := ⟨_, rfl⟩
      rw [hF] at hd ⊢
      by_cases he : F * J = N
      · simp [he]
      · simp [he, Int.add_mul]
        rw [Int.mul_comm] at hd
        omega
  · show N + (if true = true then 1 else 0) ≤ cutW N p true * _
    unfold cutW
    by_cases hs : nb N ≤ p
    · rw [if_pos hs, show nb N - p = 0 by omega]; simp
    · rw [if_neg hs]
      rw [hJ] at hd hm0 hm1 hp ⊢
      obtain ⟨F, hF⟩ : ∃ F, N / J = F := ⟨_, rfl⟩
      rw [hF] at hd ⊢
      simp [Int.add_mul]
      rw [Int.mul_comm] at hd
      omega
/-- What a rounded quotient of Zx and Zy (of the same places) is: on its side of the exact one. -/
def QuoSide (Zr Zx Zy : Int) (Lq : Nat) (dir : Int) : Prop :=
  (dir < 0 → Zr * absI Zy ≤ (if Zy < 0 then -Zx else Zx) * 2 ^ Lq) ∧ (0 < dir → (if Zy < 0 then -Zx else Zx) * 2 ^ Lq ≤ Zr * absI Zy)
def RetQuo (Lq : Nat) (w : World) (Zx Zy dir : Int) (m b : Nat) (e : Ending) (w' : World) : Prop :=
  ∃ Zr, RetQZ Lq w Zr m b e w' ∧ (dir < 0 → Zr * absI Zy ≤ (if Zy < 0 then -Zx else Zx) * 2 ^ Lq) ∧ (0 < dir → (if Zy < 0 then -Zx else Zx) * 2 ^ Lq ≤ Zr * absI Zy)
theorem quo_bounds {p q : Bool} {N M Zx Zy QQ : Int} {E0 G0 n0 e0 Lq : Nat} {rs : Bool} (h1 : Zx = sg p N * 2 ^ E0) (h2 : Zy = sg q M * 2 ^ G0) (hN : 0 ≤ N) (hM : 0 < M) (hQ : N * 2 ^ n0 / M = QQ) (hrs : rs = decide (¬ N * 2 ^ n0 % M = 0)) (hexp : n0 + e0 + G0 = E0 + Lq) (dir : Int) (pr : Nat) :
    QuoSide (sg (p != q) (cutX QQ pr ((p != q) == decide (dir < 0)) rs) * 2 ^ (e0 + (nb QQ - pr))) Zx Zy Lq dir := by
  have hM0 : M ≠ 0 := by omega
  have hdiv := Int.emod_add_mul_ediv (N * 2 ^ n0) M
  have hr0 := Int.emod_nonneg (N * 2 ^ n0) hM0
  have hr1 := Int.emod_lt_of_pos (N * 2 ^ n0) hM
  have hp0 : (0 : Int) < 2 ^ n0 := Int.pow_pos (by decide)
  have hQ0 : 0 ≤ QQ := by rw [← hQ]; exact Int.ediv_nonneg (Int.mul_nonneg hN (by omega)) (by omega)
  rw [hQ] at hdiv
  obtain ⟨A, hA⟩ : ∃ A, N * 2 ^ n0 = A := ⟨_, rfl⟩
  rw [hA] at hdiv hr0 hr1 hrs
  obtain ⟨R, hR⟩ : ∃ R, A % M = R := ⟨_, rfl⟩
  rw [hR] at hdiv hr0 hr1 hrs
  obtain ⟨j, hj⟩ : ∃ j, nb QQ - pr = j := ⟨_, rfl⟩
  have down : cutX QQ pr false rs * 2 ^ j * M ≤ A := by
    have h := (cutX_down pr rs hQ0).1
    rw [hj] at h
    have h2 := Int.mul_le_mul_of_nonneg_right h (show 0 ≤ M by omega)
    rw [Int.mul_comm QQ M] at h2
    omega
  have up : A ≤ cutX QQ pr true rs * 2 ^ j * M := by
    have h := cutX_up (N := QQ) pr rs
    rw [hj] at h
    have h2 := Int.mul_le_mul_of_nonneg_right h (show 0 ≤ M by omega)
    refine Int.le_trans ?_ h2
    rw [Int.add_mul, Int.mul_comm QQ M]
    by_cases hz : R = 0
    · rw [← hdiv, hz, hrs, hz]; simp
    · rw [hrs]; simp [hz]; omega
  rw [hj]
  have hP : (0 : Int) < 2 ^ (e0 + G0) := Int.pow_pos (by decide)
  have hG : (0 : Int) < 2 ^ G0 := Int.pow_pos (by decide)
  have habs : absI Zy = M * 2 ^ G0 := by
    have hpos : 0 < M * 2 ^ G0 := Int.mul_pos hM hG
    rw [h2]
    unfold absI sg
    cases q
    · simp only [Bool.false_eq_true, if_false]
      rw [if_neg (by omega)]
    · simp only [if_true]
      rw [Int.neg_mul, if_pos (by omega)]
      omega
  have hsx : (if Zy < 0 then -Zx else Zx) = sg (p != q) N * 2 ^ E0 := by
    have hpos : 0 < M * 2 ^ G0 := Int.mul_pos hM hG
    rw [h1, h2]
    cases p <;> cases q <;> simp only [sg, bne_self_eq_false, Bool.true_bne, Bool.false_bne, Bool.not_false, if_true, if_false, Bool.false_eq_true, Int.neg_mul]
    · rw [if_neg (by omega)]
    · rw [if_pos (by omega)]
    · rw [if_neg (by omega)]
    · rw [if_pos (by omega)]; omega
  have lhs : ∀ C : Int, sg (p != q) C * 2 ^ (e0 + j) * (M * 2 ^ G0) = sg (p != q) (C * 2 ^ j * M) * 2 ^ (e0 + G0) := by
    intro C
    rw [Int.pow_add, Int.pow_add]
    cases (p != q) <;> simp only [sg, if_true, if_false, Bool.false_eq_true] <;> grind
  have rhs : sg (p != q) N * 2 ^ E0 * 2 ^ Lq = sg (p != q) A * 2 ^ (e0 + G0) := by
    rw [Int.mul_assoc, ← Int.pow_add, ← hexp, ← hA, show n0 + e0 + G0 = n0 + (e0 + G0) by omega, Int.pow_add]
    cases (p != q) <;> simp only [sg, if_true, if_false, Bool.false_eq_true] <;> grind
  unfold QuoSide
  rw [habs, hsx, lhs, rhs]
  constructor
  · intro hd
    rw [decide_eq_true hd]
    refine Int.mul_le_mul_of_nonneg_right ?_ (by omega)
    cases (p != q)
    · simp only [sg, if_false, Bool.false_eq_true]
      exact down
    · simp only [sg, if_true]
      exact Int.neg_le_neg up
  · intro hd
    rw [decide_eq_false (by omega)]
    refine Int.mul_le_mul_of_nonneg_right ?_ (by omega)
    cases (p != q)
    · simp only [sg, if_false, Bool.false_eq_true]
      exact up
    · simp only [sg, if_true]
      exact Int.neg_le_neg down
end Go.Proofs.Ytjmipbljoblnnaa

namespace Go.Proofs.Ytjmipbljoblnnaa
open Go.RowKit

theorem neg_lt {b : Nat} (hb : b < 18446744073709551616) : Op.negFloat .f64 b < 18446744073709551616 := by
  have e : Op.negFloat .f64 b = b ^^^ 2 ^ 63 := rfl
  rw [e]
  exact Nat.xor_lt_two_pow (n := 64) hb (by decide)
theorem neg_val {b : Nat} (hb : b < 18446744073709551616) : Op.negFloat .f64 b = if b < 9223372036854775808 then 9223372036854775808 + b else b - 9223372036854775808 := by
  obtain ⟨h1, h2⟩ := neg_word hb
  have h3 := neg_lt hb
  generalize Op.negFloat .f64 b = n at h1 h2 h3
  unfold rg at h1
  have e1 : fneg b = decide (9223372036854775808 ≤ b) := by
    unfold fneg
    by_cases h : 9223372036854775808 ≤ b
    · rw [decide_eq_true h, show b / 9223372036854775808 % 2 = 1 by omega]; rfl
    · rw [decide_eq_false h, show b / 9223372036854775808 % 2 = 0 by omega]; rfl
  have e2 : fneg n = decide (9223372036854775808 ≤ n) := by
    unfold fneg
    by_cases h : 9223372036854775808 ≤ n
    · rw [decide_eq_true h, show n / 9223372036854775808 % 2 = 1 by omega]; rfl
    · rw [decide_eq_false h, show n / 9223372036854775808 % 2 = 0 by omega]; rfl
  rw [e1, e2] at h2
  by_cases h : b < 9223372036854775808
  · rw [if_pos h]
    rw [decide_eq_false (show ¬ 9223372036854775808 ≤ b by omega)] at h2
    have : 9223372036854775808 ≤ n := by simpa using h2
    omega
  · rw [if_neg h]
    rw [decide_eq_true (show 9223372036854775808 ≤ b by omega)] at h2
    have : ¬ 9223372036854775808 ≤ n := by simpa using h2
    omega
theorem step_neg {b : Nat} (hb : b < 18446744073709551616) (h : rg b ≤ INF) : Op.negFloat .f64 (stepW (Op.negFloat .f64 b) false) = stepW b true := by
  have hI : INF = 9218868437227405312 := rfl
  have hn := neg_val hb
  obtain ⟨hr, -⟩ := neg_word hb
  by_cases h0 : rg b = 0
  · rw [stepW_zero (by rw [hr]; exact h0), stepW_zero h0]
    decide
  · rcases word_cases hb with ⟨e1, -⟩ | ⟨e1, -⟩
    · have hlt := rg_lt b
      rw [e1] at hn hlt
      rw [if_pos (rg_lt b)] at hn
      rw [e1, hn, stepW_neg h0 (rg_lt b), stepW_pos h0 (rg_lt b), if_neg (by decide), if_pos rfl, neg_val (by omega), if_neg (by omega)]
      omega
    · have hlt := rg_lt b
      rw [e1] at hn
      rw [if_neg (by omega)] at hn
      rw [show 9223372036854775808 + rg b - 9223372036854775808 = rg b by omega] at hn
      rw [e1, hn, stepW_neg h0 (rg_lt b), stepW_pos h0 (rg_lt b), if_neg (by decide), if_pos rfl]
      by_cases hi : rg b = INF
      · rw [if_pos hi, if_pos hi, neg_val (by omega), if_pos (by omega)]
      · rw [if_neg hi, if_neg hi, neg_val (by omega), if_pos (by omega)]
        omega
theorem feq_nan {b : Nat} (h : INF < rg b) : (FloatKind.f64.format.order b b == some Ordering.eq) = false := by
  show (Ieee.double.order b b == some Ordering.eq) = false
  rw [order_nan_left h]; rfl
theorem fne_nan {b : Nat} (h : INF < rg b) : (FloatKind.f64.format.order b b != some Ordering.eq) = true := by
  show (!(FloatKind.f64.format.order b b == some Ordering.eq)) = true
  rw [feq_nan h]; rfl
theorem fne_not {b : Nat} (h : rg b ≤ INF) : (FloatKind.f64.format.order b b != some Ordering.eq) = false := by
  show (!(FloatKind.f64.format.order b b == some Ordering.eq)) = false
  rw [feq_num h h, decide_eq_true rfl]; rfl
theorem feq_zero {b : Nat} (h : rg b ≤ INF) : (FloatKind.f64.format.order b 0 == some Ordering.eq) = decide (rg b = 0) := by
  have f0 : fv 0 = 0 := by decide
  rw [feq_num h (by decide), f0]
  by_cases e : rg b = 0
  · rw [decide_eq_true e, fv_def, e]
    exact decide_eq_true (by split <;> rfl)
  · rw [decide_eq_false e]
    refine decide_eq_false fun h0 => e (un_eq_zero ?_)
    rw [fv_def] at h0
    split at h0 <;> omega
set_option maxRecDepth 100000 in
theorem rfin_num (b : Nat) (w : World) (hb : b < 18446744073709551616) : Calls Try.prog 9 #[.float .f64 b] w fun e w' => RetB w (.bool (decide (rg b < INF))) e w' := by
  have h1 : (b : Int) / 4503599627370496 % 2048 = ((b / 4503599627370496 % 2048 : Nat) : Int) := by omega
  have hf : ((((b / 4503599627370496 % 2048 : Nat) : Int)) != 2047) = decide (rg b < INF) := by
    have h := field_inf (b := b)
    by_cases e : rg b < INF
    · rw [decide_eq_true e]
      simp only [bne_iff_ne, ne_eq]
      omega
    · rw [decide_eq_false e]
      simp only [bne_eq_false_iff_eq]
      omega
  obtain ⟨F, hF⟩ : ∃ F, b / 4503599627370496 % 2048 = F := ⟨_, rfl⟩
  rw [hF] at h1 hf
  obtain ⟨r, hr⟩ : ∃ r, decide (rg b < INF) = r := ⟨_, rfl⟩
  rw [hr] at hf ⊢
  clear hF hr
  go_enter Try.func9, Try.ntmps9
  go_wp2_with (simp only [bits_run])
  go_ret
  exact ⟨rfl, rfl⟩
set_option maxRecDepth 100000 in
theorem isnan_yes (b : Nat) (w : World) (h : INF < rg b) : Calls Try.prog 22 #[.float .f64 b] w fun e w' => RetB w (.bool true) e w' := by
  have h1 := fne_nan h
  clear h
  go_enter Try.func22, Try.ntmps22
  go_wp2_with fail
  go_ret
  exact ⟨rfl, rfl⟩
set_option maxRecDepth 100000 in
theorem step_nan (b : Nat) (dir : Int) (w : World) (h : INF < rg b) : Calls Try.prog 21 #[.float .f64 b, .int .i64 dir] w fun e w' => RetB w (.float .f64 b) e w' := by
  have HN := Lib.hid (isnan_yes b w h)
  clear h
  go_enter Try.func21, Try.ntmps21
  go_wp2_with fail
  refine HN.out.mono ?_
  rintro e w' ⟨rfl, rfl⟩
  go_wp2_with fail
  go_ret
  exact ⟨rfl, rfl⟩
end Go.Proofs.Ytjmipbljoblnnaa

namespace Go.Proofs.Ytjmipbljoblnnaa
open Go.RowKit

def sgn (neg : Bool) (r : Nat) : Nat := if neg then 9223372036854775808 + r else r
theorem neg_sgn {neg : Bool} {r : Nat} (h : r < 9223372036854775808) : (if neg then Op.negFloat .f64 r else r) = sgn neg r := by
  unfold sgn
  cases neg
  · rfl
  · rw [if_pos rfl, if_pos rfl, neg_val (by omega), if_pos h]
theorem sgW_sgn {neg : Bool} {R : Nat} (h : R ≠ 0) : sgW neg R = sgn neg R := by
  cases neg
  · rfl
  · exact if_neg h
/-- A word's step away from nought. -/
theorem step_away {neg : Bool} {R : Nat} (h : R < INF) : stepW (sgW neg R) neg = sgn neg (R + 1) := by
  have hI : INF = 9218868437227405312 := rfl
  by_cases h0 : R = 0
  · subst h0; cases neg <;> decide
  · cases neg
    · show stepW R false = R + 1
      rw [stepW_pos h0 (by omega), if_neg (by decide), if_neg (by omega)]
    · show stepW (if R = 0 then 0 else 9223372036854775808 + R) true = 9223372036854775808 + (R + 1)
      rw [if_neg h0, stepW_neg h0 (by omega), if_pos rfl, if_neg (by omega)]
      omega
theorem tz_tiny {N E : Int} (hN : 0 < N) (hT : (nb N : Int) + E ≤ -1074) : TZ 0 false N E := by
  refine ⟨by decide, fun h => (by cases h), fun _ K hK hEK => ?_⟩
  have e0 : (un (0 + 1) : Int) = 1 := by decide
  rw [un_zero, e0, Int.one_mul]
  have hp := pow2_pos (E + K).toNat
  have h0 : 0 < N * 2 ^ (E + K).toNat := Int.mul_pos hN hp
  refine ⟨by simpa using h0, fun _ => ?_⟩
  obtain ⟨-, h2, -⟩ := nb_spec hN
  have h3 : N * 2 ^ (E + K).toNat < 2 ^ nb N * 2 ^ (E + K).toNat := Int.mul_lt_mul_of_pos_right h2 hp
  rw [← Int.pow_add] at h3
  have h4 : (2 : Int) ^ (nb N + (E + K).toNat) ≤ 2 ^ (K - 1074) := pow_le_pow (by decide) (by omega)
  omega
theorem flo_small {neg : Bool} {N E : Int} {R : Nat} {ex down : Bool} (hN : 0 < N) (hT : (nb N : Int) + E ≤ -1074) (h : TZ R ex N E) : floW neg R ex down = if (neg == down) = true then sgn neg 1 else 0 := by
  obtain ⟨rfl, rfl⟩ := h.unique (tz_tiny hN hT)
  cases neg <;> cases down <;> decide
theorem tz_exact {N E : Int} {r L : Nat} (hr : r < INF) (hL : (L : Int) = E + 1074) (hu : (un r : Int) = N * 2 ^ L) : TZ r true N E := by
  refine ⟨hr, fun _ K hK hEK => ?_, fun h => by cases h⟩
  rw [hu, Int.mul_assoc, ← Int.pow_add]
  exact congrArg (fun n : Nat => N * (2 : Int) ^ n) (by omega)
theorem un_eq {r s : Nat} (h : (un r : Int) = (un s : Int)) : r = s := un_inj (by omega)
/-- The number at p bits: below, and just. -/
theorem cut_tz {N E : Int} {p j Lj : Nat} (hN : 0 < N) (hp : (p : Int) = min 53 ((nb N : Int) + E + 1074)) (hp1 : 1 ≤ p) (hj : nb N = p + j) (hj0 : 0 < j) (hL : (Lj : Int) = E + j + 1074) (hT : (nb N : Int) + E ≤ 1024) :
    ∃ man : Nat, (man : Int) = N / 2 ^ j ∧ man < 9007199254740992 ∧ (4503599627370496 ≤ man ∨ Lj = 0) ∧ 0 < man ∧ Lj ≤ 2045 ∧ ∃ ex, TZ (Lj * 4503599627370496 + man) ex N E ∧ (ex = true ↔ N / 2 ^ j * 2 ^ j = N) := by
  obtain ⟨h1, h2, -⟩ := nb_spec hN
  have hpj := pow2_pos j
  have h0 : 0 ≤ N / 2 ^ j := Int.ediv_nonneg (by omega) (by omega)
  obtain ⟨man, hm⟩ := Int.eq_ofNat_of_zero_le h0
  have hlo : (2 : Int) ^ (p - 1) ≤ N / 2 ^ j := by
    rw [Int.le_ediv_iff_mul_le hpj, ← Int.pow_add, show p - 1 + j = nb N - 1 by omega]
    exact h1
  have hhi : N / 2 ^ j < 2 ^ p := by
    rw [Int.ediv_lt_iff_lt_mul hpj, ← Int.pow_add, ← hj]
    exact h2
  have hp53 : p ≤ 53 := by omega
  have h53 : (2 : Int) ^ p ≤ 2 ^ 53 := pow_le_pow (by decide) hp53
  have e53 : (2 : Int) ^ 53 = 9007199254740992 := by decide
  have hpp := pow2_pos (p - 1)
  have hm2 : 4503599627370496 ≤ man ∨ Lj = 0 := by
    by_cases h : p = 53
    · left
      rw [h] at hlo
      have e52 : (2 : Int) ^ (53 - 1) = 4503599627370496 := by decide
      omega
    · right; omega
  have hL2 : Lj ≤ 2045 := by omega
  have hml : man < 9007199254740992 := by omega
  obtain ⟨t, ht⟩ := low_exists N (by omega)
  have hTZ := tz_cut (E := E) (t := t) hN hm.symm (by omega : (Lj : Int) = j + E + 1074) hml hm2 hL2 (Or.inr ⟨by omega, ht⟩)
  refine ⟨man, hm.symm, hml, hm2, by omega, hL2, _, hTZ, ?_⟩
  have hu : (un (Lj * 4503599627370496 + man) : Int) = (man : Int) * 2 ^ Lj := by
    rw [un_pack (by omega) hm2, cast_pow2]
  obtain ⟨K, hK⟩ : ∃ K : Nat, K = 1074 + E.natAbs := ⟨_, rfl⟩
  have hpw : (2 : Int) ^ Lj * 2 ^ (K - 1074) = 2 ^ j * 2 ^ (E + K).toNat := by
    rw [← Int.pow_add, ← Int.pow_add]
    exact congrArg (fun n : Nat => (2 : Int) ^ n) (by omega)
  have hq := pow2_pos (E + K).toNat
  rw [hm]
  constructor
  · intro h
    have h1 := hTZ.eq h K (by omega) (by omega)
    rw [hu, Int.mul_assoc, hpw, ← Int.mul_assoc] at h1
    exact Int.eq_of_mul_eq_mul_right (by omega) h1
  · intro h
    by_cases hx : decide (j ≤ t) = true
    · exact hx
    · have h1 := (hTZ.gt (by simpa using hx) K (by omega) (by omega)).1
      rw [hu, Int.mul_assoc, hpw, ← Int.mul_assoc] at h1
      change (man : Int) * 2 ^ j = N at h
      rw [h] at h1
      omega
theorem un_inf (L : Nat) (hL : L = 2046) : (un INF : Int) = 4503599627370496 * 2 ^ L := by
  have e : INF = L * 4503599627370496 + 4503599627370496 := by subst hL; decide
  rw [e, un_pack (by decide) (Or.inl (Nat.le_refl _)), cast_pow2]
  rfl
theorem flo_mid {neg down : Bool} {N E V : Int} {R p Lj r : Nat} {ex : Bool} (hN : 0 < N) (hp : (p : Int) = min 53 ((nb N : Int) + E + 1074)) (hp1 : 1 ≤ p) (hT : (nb N : Int) + E ≤ 1024) (h : TZ R ex N E) (hV : cutV N p (neg == down) = V) (hL : (Lj : Int) = E + ((nb N - p : Nat) : Int) + 1074) (hr : r ≤ INF) (hu : (un r : Int) = V * 2 ^ Lj) :
    floW neg R ex down = sgn neg r ∧ r ≠ 0 := by
  have hpL := pow2_pos Lj
  unfold cutV at hV
  by_cases hs : nb N ≤ p
  · rw [if_pos hs] at hV
    subst hV
    have e0 : nb N - p = 0 := by omega
    rw [e0] at hL
    have hrI : r < INF := by
      rcases Nat.lt_or_eq_of_le hr with h1 | h1
      · exact h1
      · exfalso
        obtain ⟨M, hM⟩ : ∃ M : Nat, M = 2046 := ⟨_, rfl⟩
        rw [h1, un_inf M hM] at hu
        obtain ⟨-, h2, -⟩ := nb_spec hN
        have h3 : N * 2 ^ Lj < 2 ^ nb N * 2 ^ Lj := Int.mul_lt_mul_of_pos_right h2 hpL
        rw [← Int.pow_add, ← hu] at h3
        have h4 : (2 : Int) ^ (nb N + Lj) ≤ 2 ^ (52 + M) := pow_le_pow (by decide) (by omega)
        rw [Int.pow_add 2 52 M, show (2 : Int) ^ 52 = 4503599627370496 by decide] at h4
        omega
    have hTZ := tz_exact (E := E) hrI (by omega) hu
    obtain ⟨rfl, rfl⟩ := h.unique hTZ
    have hr0 : R ≠ 0 := by
      rintro rfl
      have := Int.mul_pos hN hpL
      rw [← hu, un_zero] at this
      exact absurd this (by decide)
    refine ⟨?_, hr0⟩
    unfold floW
    rw [Bool.true_or, if_pos rfl]
    exact sgW_sgn hr0
  · rw [if_neg hs] at hV
    obtain ⟨j, hj⟩ : ∃ j, nb N - p = j := ⟨_, rfl⟩
    rw [hj] at hV hL
    obtain ⟨man, hm, hml, hm2, hm0, hL2, ex', hTZ, hex⟩ := cut_tz hN hp hp1 (by omega : nb N = p + j) (by omega) hL hT
    obtain ⟨rfl, rfl⟩ := h.unique hTZ
    have hu0 : (un (Lj * 4503599627370496 + man) : Int) = (man : Int) * 2 ^ Lj := by
      rw [un_pack (by omega) hm2, cast_pow2]
    have hu1 : (un (Lj * 4503599627370496 + man + 1) : Int) = ((man : Int) + 1) * 2 ^ Lj := by
      rw [Nat.add_assoc, un_pack (by omega) (by omega), cast_pow2]; rfl
    obtain ⟨R, hR⟩ : ∃ R, Lj * 4503599627370496 + man = R := ⟨_, rfl⟩
    rw [hR] at hu0 hu1 hTZ ⊢
    rw [← hm] at hV hex
    by_cases hx : ex = true
    · rw [decide_eq_false (show ¬ ¬ (man : Int) * 2 ^ j = N from fun hn => hn (hex.1 hx)), Bool.false_and, if_neg (by decide), Int.add_zero] at hV
      rw [← hV] at hu
      obtain rfl := un_eq (hu.trans hu0.symm)
      have hr0 : r ≠ 0 := by omega
      refine ⟨?_, hr0⟩
      unfold floW
      rw [hx, Bool.true_or, if_pos rfl]
      exact sgW_sgn hr0
    · rw [decide_eq_true (show ¬ (man : Int) * 2 ^ j = N from fun he => hx (hex.2 he)), Bool.true_and] at hV
      have hx' : ex = false := by simpa using hx
      by_cases ha : neg = down
      · subst ha
        rw [beq_self_eq_true, if_pos rfl] at hV
        rw [← hV] at hu
        obtain rfl := un_eq (hu.trans hu1.symm)
        refine ⟨?_, by omega⟩
        unfold floW
        have e1 : (neg != neg) = false := by cases neg <;> rfl
        rw [hx', e1, Bool.false_or, if_neg (by decide)]
        exact step_away hTZ.lt
      · have e1 : (neg == down) = false := by cases neg <;> cases down <;> first | rfl | exact absurd rfl ha
        have e2 : (neg != down) = true := by cases neg <;> cases down <;> first | rfl | exact absurd rfl ha
        rw [e1, if_neg (by decide), Int.add_zero] at hV
        rw [← hV] at hu
        obtain rfl := un_eq (hu.trans hu0.symm)
        have hr0 : r ≠ 0 := by omega
        refine ⟨?_, hr0⟩
        unfold floW
        rw [e2, Bool.or_true, if_pos rfl]
        exact sgW_sgn hr0
theorem cutV_pos {N : Int} {p : Nat} {aw : Bool} (hN : 0 < N) (hp1 : 1 ≤ p) : 0 < cutV N p aw ∧ (nb N ≤ p → cutV N p aw = N) ∧ (p < nb N → 2 ^ (p - 1) ≤ cutV N p aw ∧ cutV N p aw ≤ 2 ^ p ∧ (aw = false → cutV N p aw < 2 ^ p)) := by
  unfold cutV
  by_cases hs : nb N ≤ p
  · rw [if_pos hs]
    exact ⟨hN, fun _ => rfl, fun h => by omega⟩
  · rw [if_neg hs]
    obtain ⟨h1, h2, -⟩ := nb_spec hN
    obtain ⟨j, hj⟩ : ∃ j, nb N - p = j := ⟨_, rfl⟩
    rw [hj]
    have hpj := pow2_pos j
    have hlo : (2 : Int) ^ (p - 1) ≤ N / 2 ^ j := by
      rw [Int.le_ediv_iff_mul_le hpj, ← Int.pow_add, show p - 1 + j = nb N - 1 by omega]
      exact h1
    have hhi : N / 2 ^ j < 2 ^ p := by
      rw [Int.ediv_lt_iff_lt_mul hpj, ← Int.pow_add, show p + j = nb N by omega]
      exact h2
    have hpp := pow2_pos (p - 1)
    refine ⟨by split <;> omega, fun h => absurd h hs, fun _ => ⟨by split <;> omega, by split <;> omega, fun h => ?_⟩⟩
    rw [h, Bool.and_false, if_neg (by decide)]
    omega
theorem flo_big {neg down : Bool} {N E V : Int} {R p : Nat} {ex : Bool} (hN : 0 < N) (hp : (p : Int) = min 53 ((nb N : Int) + E + 1074)) (hp1 : 1 ≤ p) (h : TZ R ex N E) (hV : cutV N p (neg == down) = V) (hb : 1024 < (nb V : Int) + ((nb N - p : Nat) : Int) + E) :
    floW neg R ex down = if (neg == down) = true then sgn neg INF else sgn neg 9218868437227405311 := by
  obtain ⟨v0, v1, v2⟩ := cutV_pos (N := N) (p := p) (aw := neg == down) hN hp1
  rw [hV] at v0 v1 v2
  by_cases hT : 1024 < (nb N : Int) + E
  · obtain ⟨rfl, rfl⟩ := h.unique (tz_big hN (by omega))
    cases neg <;> cases down <;> decide
  · have hlt : p < nb N := by
      rcases Nat.lt_or_ge p (nb N) with h1 | h1
      · exact h1
      · rw [v1 h1] at hb; omega
    obtain ⟨q1, q2, q3⟩ := v2 hlt
    obtain ⟨n1, n2, -⟩ := nb_spec v0
    have hnV : nb V ≤ p + 1 := by
      have : (2 : Int) ^ (nb V - 1) < 2 ^ (p + 1) := by
        have := pow2_pos p
        rw [Int.pow_succ]; omega
      have := two_pow_lt_of this
      omega
    have hVp : V = 2 ^ p := by
      have : (2 : Int) ^ p ≤ 2 ^ (nb V - 1) := pow_le_pow (by decide) (by omega)
      omega
    have haw : (neg == down) = true := by
      cases hh : (neg == down)
      · have := q3 hh; omega
      · rfl
    have hp53 : p = 53 := by omega
    obtain ⟨Lj, hL⟩ := Int.eq_ofNat_of_zero_le (show 0 ≤ E + ((nb N - p : Nat) : Int) + 1074 by omega)
    rw [haw, if_pos rfl]
    refine (flo_mid (r := INF) hN hp hp1 (by omega) h hV hL.symm (Nat.le_refl _) ?_).1
    obtain ⟨M, hM⟩ : ∃ M : Nat, M = 2046 := ⟨_, rfl⟩
    rw [un_inf M hM, hVp, ← Int.pow_add, show (4503599627370496 : Int) = 2 ^ 52 by decide, ← Int.pow_add]
    exact congrArg (fun n : Nat => (2 : Int) ^ n) (by omega)
end Go.Proofs.Ytjmipbljoblnnaa

namespace Go.Proofs.Ytjmipbljoblnnaa
open Go.RowKit

theorem Num.var {w w' : World} {a : Option Addr} {n c : Nat} {N : Int} {m g lo hi : Nat} (h : Num w (.slice a n c) N m) {p : Bool} {a1 : Option Addr} {n1 c1 : Nat} {t : TypeId} (hv : w.heap[g]? = some (.cells #[.bool p, .slice a1 n1 c1] t (0, 0))) (ho : Only g lo hi w w') : Num w' (.slice a n c) N m := by
  obtain ⟨l, ⟨a', c', he, h1, h2, h3, h4⟩, h5, h6⟩ := h
  simp only [Value.slice.injEq] at he
  obtain ⟨rfl, rfl, rfl⟩ := he
  refine ⟨l, ⟨a, c, rfl, h1, h2, ?_, h4⟩, h5, h6⟩
  rcases h3 with h3 | ⟨b, o, rfl, hat⟩
  · exact Or.inl h3
  · by_cases hl : l = []
    · exact Or.inl hl
    · refine Or.inr ⟨b, o, rfl, ho.at' hat ?_⟩
      rintro rfl
      have hat0 := hat 0 (List.length_pos_iff.2 hl)
      rw [cell_of_row w b _ _ t _ hv] at hat0
      match o, hat0 with
      | 0, hat0 => simp at hat0
      | 1, hat0 => simp at hat0
      | o + 2, hat0 => simp at hat0
def dtop (N E : Int) : Int := if N = 0 then 0 else (nb N : Int) + E
theorem sign_zero_iff {p : Bool} {N : Int} (h : 0 ≤ N) : (cmpI (sg p N) 0 == 0) = decide (N = 0) := by
  by_cases e : N = 0
  · rw [decide_eq_true e, e, cmpI_eq (by cases p <;> rfl)]; rfl
  · rw [decide_eq_false e]
    cases p
    · rw [sg_false, cmpI_gt (by omega)]; rfl
    · rw [sg_true, cmpI_lt (by omega)]; rfl
/-- Two integers and a number have been returned. -/
def IsI (w : World) (v : Value) (Z : Int) (m : Nat) : Prop := ∃ p a n c N, v = .agg #[.bool p, .slice a n c] ∧ Num w (.slice a n c) N m ∧ Z = sg p N
def RetAl (w : World) (X Y e0 : Int) (m : Nat) (e : Ending) (w' : World) : Prop := ∃ p a n c N q b k d M, e = .returned (.tuple #[.agg #[.bool p, .slice a n c], .agg #[.bool q, .slice b k d], .int .i64 e0]) ∧ Num w' (.slice a n c) N m ∧ X = sg p N ∧ Num w' (.slice b k d) M m ∧ Y = sg q M ∧ Below w.heap.size w w'
theorem results_cells2 {fn : Func} {p q u : Tmp} {ty : TypeId} (h : fn.results = #[.cell p ty, .cell q ty, .tmp u]) (tmps : Array Value) (P : Program) (w : World) (g g' : Nat) (t t' : TypeId) (cs cs' : Array Value) (fr fr' : Nat × Nat) (fs : Array Field)
    (hp : tmps.getD p undef = .pointer (some ⟨g, 0, none⟩)) (hq : tmps.getD q undef = .pointer (some ⟨g', 0, none⟩)) (hg : w.heap[g]? = some (.cells cs t fr)) (hg' : w.heap[g']? = some (.cells cs' t' fr'))
    (hu : P.underlying ty = some (.struct fs)) (hi : (P.info? ty).map (·.size) = some cs.size) (hi' : (P.info? ty).map (·.size) = some cs'.size) :
    (results fn tmps).run P w = .ok (.tuple #[.agg cs, .agg cs', tmps.getD u undef]) w := by
  have hp' : tmps[p]?.getD undef = .pointer (some ⟨g, 0, none⟩) := by simpa using hp
  have hq' : tmps[q]?.getD undef = .pointer (some ⟨g', 0, none⟩) := by simpa using hq
  simp [results, h, hp', hq', asAddr, run_loadVar_row w g t ty cs fr (.struct fs) hg hu rfl hi, run_loadVar_row w g' t' ty cs' fr' (.struct fs) hg' hu rfl hi', Result.andThen]
theorem slot2_apart {w : World} {g h : Nat} {o : Obj} {u v : Value} (hg : w.heap[g]? = some o) (hne : g ≠ h) :
    ((w.setCell ⟨h, 0, none⟩ u).setCell ⟨h, 1, none⟩ v).heap[g]? = some o := by
  rw [heap_setCell_other _ _ _ _ hne, heap_setCell_other _ _ _ _ hne]
  exact hg
end Go.Proofs.Ytjmipbljoblnnaa

namespace Go.Proofs.Ytjmipbljoblnnaa
open Go.RowKit

theorem cmpI_scale {x y c : Int} (hc : 0 < c) : cmpI (x * c) (y * c) = cmpI x y := by
  rcases Int.lt_trichotomy x y with h | h | h
  · rw [cmpI_lt h, cmpI_lt (Int.mul_lt_mul_of_pos_right h hc)]
  · rw [cmpI_eq h, cmpI_eq (by rw [h])]
  · rw [cmpI_gt h, cmpI_gt (Int.mul_lt_mul_of_pos_right h hc)]
theorem cmpI_zero_scale {x c : Int} (hc : 0 < c) : cmpI (x * c) 0 = cmpI x 0 := by
  have := cmpI_scale (x := x) (y := 0) hc
  rwa [Int.zero_mul] at this
/-- Numbers of different size are told apart by how great they are. -/
theorem cmp_dtops {p q : Bool} {A B E G : Int} {K : Nat} {s : Int} (hA : 0 ≤ A) (hB : 0 ≤ B) (hEK : 0 ≤ E + K) (hGK : 0 ≤ G + K) (hs : cmpI (sg p A) 0 = s) (ht : cmpI (sg q B) 0 = s) (hne : cmpI (dtop A E) (dtop B G) ≠ 0) :
    cmpI (sg p A * 2 ^ (E + K).toNat) (sg q B * 2 ^ (G + K).toNat) = s * cmpI (dtop A E) (dtop B G) := by
  have h1 := sign_tri hs
  have h2 := sign_tri ht
  have hp1 := pow2_pos (E + K).toNat
  have hp2 := pow2_pos (G + K).toNat
  have key : ∀ {A B E G : Int}, 0 < A → 0 < B → 0 ≤ E + K → 0 ≤ G + K → dtop A E < dtop B G → A * 2 ^ (E + K).toNat < B * 2 ^ (G + K).toNat := by
    intro A B E G hA hB h1 h2 h
    unfold dtop at h
    rw [if_neg (by omega), if_neg (by omega)] at h
    refine nb_lt (Int.mul_pos hA (pow2_pos _)) (Int.mul_pos hB (pow2_pos _)) ?_
    rw [nb_shift _ hA, nb_shift _ hB]
    omega
  rcases h1 with ⟨h3, rfl⟩ | ⟨h3, rfl⟩ | ⟨h3, rfl⟩
  · have hpt : p = true ∧ 0 < A := by
      cases p
      · rw [sg_false] at h3; omega
      · rw [sg_true] at h3; exact ⟨rfl, by omega⟩
    have hqt : q = true ∧ 0 < B := by
      cases q
      · rw [sg_false] at h2; omega
      · rw [sg_true] at h2; exact ⟨rfl, by omega⟩
    obtain ⟨rfl, hA'⟩ := hpt
    obtain ⟨rfl, hB'⟩ := hqt
    rw [sg_true, sg_true, Int.neg_mul, Int.neg_mul]
    rcases Int.lt_trichotomy (dtop A E) (dtop B G) with h | h | h
    · have := key hA' hB' hEK hGK h
      rw [cmpI_lt h, cmpI_gt (by omega)]; rfl
    · rw [cmpI_eq h] at hne; exact absurd rfl hne
    · have := key hB' hA' hGK hEK h
      rw [cmpI_gt h, cmpI_lt (by omega)]; rfl
  · have hA' : A = 0 := by cases p <;> simp only [sg_true, sg_false] at h3 <;> omega
    have hB' : B = 0 := by
      rcases h2 with ⟨_, h4⟩ | ⟨h4, _⟩ | ⟨_, h4⟩
      · exact absurd h4 (by decide)
      · cases q <;> simp only [sg_true, sg_false] at h4 <;> omega
      · exact absurd h4 (by decide)
    subst hA' hB'
    exact absurd (cmpI_eq rfl) hne
  · have hpt : p = false ∧ 0 < A := by
      cases p
      · rw [sg_false] at h3; exact ⟨rfl, h3⟩
      · rw [sg_true] at h3; omega
    have hqt : q = false ∧ 0 < B := by
      rcases h2 with ⟨_, h4⟩ | ⟨_, h4⟩ | ⟨h4, _⟩
      · exact absurd h4 (by decide)
      · exact absurd h4 (by decide)
      · cases q
        · rw [sg_false] at h4; exact ⟨rfl, h4⟩
        · rw [sg_true] at h4; omega
    obtain ⟨rfl, hA'⟩ := hpt
    obtain ⟨rfl, hB'⟩ := hqt
    rw [sg_false, sg_false]
    rcases Int.lt_trichotomy (dtop A E) (dtop B G) with h | h | h
    · rw [cmpI_lt h, cmpI_lt (key hA' hB' hEK hGK h)]; rfl
    · rw [cmpI_eq h] at hne; exact absurd rfl hne
    · rw [cmpI_gt h, cmpI_gt (key hB' hA' hGK hEK h)]; rfl
theorem cmp_dsigns {x y s t c d : Int} (hc : 0 < c) (hd : 0 < d) (hs : cmpI x 0 = s) (ht : cmpI y 0 = t) (hne : s ≠ t) : cmpI (x * c) (y * d) = cmpI s t := by
  have h1 : cmpI (x * c) 0 = s := by rw [cmpI_zero_scale hc]; exact hs
  have h2 : cmpI (y * d) 0 = t := by rw [cmpI_zero_scale hd]; exact ht
  rcases Int.lt_trichotomy s t with h | h | h
  · rw [cmpI_lt h, zcmp_signs h1 h2 h]
  · exact absurd h hne
  · rw [cmpI_gt h, zcmp_signs' h1 h2 h]

end Go.Proofs.Ytjmipbljoblnnaa

namespace Go.Proofs.Ytjmipbljoblnnaa
open Go.RowKit

theorem odd_pow_unique {N N' : Int} {s t : Nat} (h : N * 2 ^ s = N' * 2 ^ t) (hN : ∃ z, N = 2 * z + 1) (hN' : ∃ z, N' = 2 * z + 1) : s = t ∧ N = N' := by
  obtain ⟨z, rfl⟩ := hN
  obtain ⟨y, rfl⟩ := hN'
  have e : s = t := isLow_unique (N := (2 * z + 1) * 2 ^ s) ⟨z, by rw [Int.mul_comm]⟩ ⟨y, by rw [h, Int.mul_comm]⟩
  subst e
  have hp := pow2_pos s
  exact ⟨rfl, Int.eq_of_mul_eq_mul_right (by omega) h⟩
/-- The dyad of an odd number is that number itself. -/
theorem RetDy.odd {w w' : World} {p : Bool} {N E : Int} {m : Nat} {e : Ending} (h : RetDy w p N E m e w') (hz : ∃ z, N = 2 * z + 1) : ∃ a n c, e = .returned (.agg #[.bool p, .slice a n c, .int .i64 E]) ∧ NewN w.heap.size w' (.slice a n c) N m ∧ Below w.heap.size w w' := by
  obtain ⟨p', a, n, c, N', E', t, rfl, hN, hv, hb⟩ := h
  rcases hv with ⟨h0, -⟩ | ⟨-, rfl, h2, rfl, -, hz'⟩
  · obtain ⟨z, hz⟩ := hz; omega
  · obtain ⟨h3, h4⟩ := odd_pow_unique (s := t) (t := 0) (by rw [h2, Int.pow_zero, Int.mul_one]) hz' hz
    subst h3 h4
    exact ⟨a, n, c, by simp, hN, hb⟩
set_option maxRecDepth 100000 in
theorem inf_num (w : World) : Calls Try.prog 14 #[.int .i64 1] w fun e w' => RetB w (.float .f64 9218868437227405312) e w' := by
  go_enter Try.func14, Try.ntmps14
  go_wp2_with (simp only [frombits_run])
  go_ret
  exact ⟨rfl, rfl⟩
theorem un_075 (L : Nat) (hL : L = 1021) : (un (rg 4604930618986332160) : Int) = 3 * 2 ^ (51 + L) := by
  have h := un_pack (L := L) (man := 6755399441055744) (by decide) (Or.inl (by decide))
  have e : rg 4604930618986332160 = L * 4503599627370496 + 6755399441055744 := by rw [hL]; decide
  rw [e, h, cast_pow2, Int.pow_add, ← Int.mul_assoc]
  congr 1
theorem tz_five : TZ 4617315517961601024 true 5 0 := by
  have h := tz_whole (N := 5) (E := 0) (j := 50) (L := 1024) (man := 5629499534213120) (by decide) (by decide) (by decide) (Or.inl (by decide)) (by decide)
  exact h
end Go.Proofs.Ytjmipbljoblnnaa

namespace Go.Proofs.Ytjmipbljoblnnaa
open Go.RowKit

theorem rqtop_val {neg : Bool} {N : Int} {e0 L : Nat} (hN : 0 < N) : rqtop L (sg neg N * 2 ^ e0) = (nb N : Int) + (e0 : Int) - (L : Int) := by
  have hp := pow2_pos e0
  have h1 : 0 < N * 2 ^ e0 := Int.mul_pos hN hp
  have ha := rz_abs (neg := neg) (N := N) (E := e0) (by omega) rfl
  unfold rqtop
  rw [if_neg (by rw [← sg_scale]; cases neg <;> simp only [sg_true, sg_false] <;> omega), ha, nb_shift _ hN]
  omega
theorem rz_pos {p q : Bool} {V N : Int} {a b : Nat} (hV : 0 < V) (hN : 0 ≤ N) (h : sg p V * 2 ^ a = sg q N * 2 ^ b) : V * 2 ^ a = N * 2 ^ b ∧ p = q ∧ 0 < N := by
  have h1 := rz_abs (neg := p) (N := V) (E := a) (by omega) rfl
  have h2 := rz_abs (neg := q) (N := N) (E := b) hN rfl
  rw [h] at h1
  have h3 := h1.symm.trans h2
  have hpa := Int.mul_pos hV (pow2_pos a)
  have hpb := pow2_pos b
  have hN0 : 0 < N := by
    rcases Int.lt_or_eq_of_le hN with h4 | h4
    · exact h4
    · rw [← h4, Int.zero_mul] at h3; omega
  refine ⟨h3, ?_, hN0⟩
  have hpn := Int.mul_pos hN0 hpb
  rw [← sg_scale, ← sg_scale] at h
  cases p <;> cases q <;> first | rfl | (simp only [sg_true, sg_false] at h; omega)
theorem odd_le {N V : Int} {a b : Nat} (hz : ∃ z, N = 2 * z + 1) (h : V * 2 ^ a = N * 2 ^ b) : a ≤ b := by
  rcases Nat.lt_or_ge b a with h1 | h1
  · exfalso
    obtain ⟨d, rfl⟩ := Nat.le.dest (show b + 1 ≤ a by omega)
    obtain ⟨z, rfl⟩ := hz
    have hp := pow2_pos b
    have e : V * 2 ^ (b + 1 + d) = V * 2 ^ d * 2 * 2 ^ b := by rw [Int.pow_add, Int.pow_succ]; grind
    rw [e] at h
    have := Int.eq_of_mul_eq_mul_right (by omega) h
    omega
  · exact h1
/-- What the rounded number's digits and exponent are, from the least place on. -/
theorem rf_scale {neg q : Bool} {V N E E' : Int} {j L E0 E0' Lj : Nat} (hV : 0 < V) (hV53 : V ≤ 9007199254740992) (hN : 0 ≤ N) (hz : ∃ z, N = 2 * z + 1) (h : sg neg V * 2 ^ (E0 + j) = sg q N * 2 ^ E0') (hE : E + (L : Int) = (E0 : Int)) (hE' : E' + (L : Int) = (E0' : Int)) (hL : (Lj : Int) = E + (j : Int) + 1074) (h1074 : 1074 ≤ L) :
    -1074 ≤ E' ∧ 0 < N ∧ N < 9007199254740992 ∧ N * 2 ^ (E' + 1074).toNat = V * 2 ^ Lj := by
  obtain ⟨h1, -, h3⟩ := rz_pos hV hN h
  have h4 := odd_le hz h1
  obtain ⟨M, hM⟩ : ∃ M, L - 1074 = M := ⟨_, rfl⟩
  have e1 : E0 + j = Lj + M := by omega
  have e2 : E0' = (E' + 1074).toNat + M := by omega
  have h5 : N * 2 ^ (E' + 1074).toNat = V * 2 ^ Lj := by
    rw [e1, e2, Int.pow_add, Int.pow_add, ← Int.mul_assoc, ← Int.mul_assoc] at h1
    have hp := pow2_pos M
    exact (Int.eq_of_mul_eq_mul_right (by omega) h1).symm
  refine ⟨by omega, h3, ?_, h5⟩
  obtain ⟨d, hd⟩ := Nat.le.dest (show Lj ≤ (E' + 1074).toNat by omega)
  rw [← hd, Int.pow_add, Int.mul_comm (2 ^ Lj), ← Int.mul_assoc] at h5
  have hp := pow2_pos Lj
  have h6 := Int.eq_of_mul_eq_mul_right (by omega) h5
  have hpd := pow2_pos d
  have h7 : N * 1 ≤ N * 2 ^ d := Int.mul_le_mul_of_nonneg_left (by omega) (by omega)
  obtain ⟨z, rfl⟩ := hz
  omega
theorem un_low {x : Nat} (h : x < 4503599627370496) : (un x : Int) = (x : Int) := by
  unfold un; rw [if_pos h]

end Go.Proofs.Ytjmipbljoblnnaa

namespace Go.Proofs.Ytjmipbljoblnnaa
open Go.RowKit

def IsSL (N : Int) (k : Nat) (v : Value) (w : World) : Prop := ∃ a n c, v = .slice a n c ∧ ∃ base, NewN base w (.slice a n c) N k
theorem IsSL.keeps (N : Int) (k : Nat) : Keeps (IsSL N k) := fun _ _ _ hb ⟨a, n, c, h1, base, h2⟩ => ⟨a, n, c, h1, base, h2.below hb⟩
theorem RQ.parts {L : Nat} {w : World} {q : Bool} {a2 : Option Addr} {n2 c2 : Nat} {G Z : Int} {m b : Nat} (hr : RQ L w (.agg #[.bool q, .slice a2 n2 c2, .int .i64 G]) Z m b) {p : Bool} {N E : Int} {E0 : Nat} (hN : 0 ≤ N) (ho : N ≠ 0 → ∃ z, N = 2 * z + 1) (h0 : N = 0 → p = false ∧ E = 0) (hE : E + (L : Int) = (E0 : Int)) (hv : sg p N * 2 ^ E0 = Z) :
    RN w (.slice a2 n2 c2) N m ∧ p = q ∧ E = G := by
  obtain ⟨M, G0, h1, h2, h3, h4, h5, -⟩ := hr.open
  rw [h2] at hv
  by_cases hz : N = 0
  · have hM : M = 0 := by
      have := rz_abs (neg := q) (N := M) (E := G0) h1.nonneg rfl
      rw [← hv, hz] at this
      have e : sg p 0 = 0 := by cases p <;> rfl
      rw [e, Int.zero_mul] at this
      have hp := pow2_pos G0
      rcases Int.lt_or_eq_of_le h1.nonneg with h6 | h6
      · have := Int.mul_pos h6 hp
        unfold absI at *
        simp at *
        omega
      · exact h6.symm
    obtain ⟨h6, h7⟩ := h4 hM
    obtain ⟨h8, h9⟩ := h0 hz
    rw [hz, ← hM]
    exact ⟨h1, by rw [h8, h6], by rw [h9, h7]⟩
  · obtain ⟨h6, h7, h8⟩ := rz_pos (by omega : 0 < N) h1.nonneg hv
    obtain ⟨h9, h10⟩ := odd_pow_unique h6 (ho hz) (h5 (by omega))
    rw [h10]
    exact ⟨h1, h7, by omega⟩
theorem tz_shift {R : Nat} {ex : Bool} {N E : Int} {d : Nat} (h : TZ R ex N (E + (d : Int))) : TZ R ex (N * 2 ^ d) E := by
  have key : ∀ K : Nat, 0 ≤ E + K → N * 2 ^ d * 2 ^ (E + K).toNat = N * 2 ^ (E + (d : Int) + K).toNat := by
    intro K hK
    rw [Int.mul_assoc, ← Int.pow_add]
    exact congrArg (fun n : Nat => N * (2 : Int) ^ n) (by omega)
  refine ⟨h.lt, fun hx K h1 h2 => ?_, fun hx K h1 h2 => ?_⟩
  · rw [key K h2]; exact h.eq hx K h1 (by omega)
  · rw [key K h2]; exact h.gt hx K h1 (by omega)
end Go.Proofs.Ytjmipbljoblnnaa

namespace Go.Proofs.Ytjmipbljoblnnaa
open Go.RowKit

/-- A dyad of the program's that is the integer Z, L places up. -/
def DQ (L : Nat) (w : World) (v : Value) (Z : Int) (m b : Nat) : Prop :=
  ∃ p a n c N E E0, v = .agg #[.bool p, .slice a n c, .int .i64 E] ∧ Num w (.slice a n c) N m ∧ Z = sg p N * 2 ^ (E0 : Nat) ∧ E + (L : Int) = (E0 : Int) ∧ (N = 0 → p = false ∧ E = 0) ∧ E0 ≤ b
def RetDQ (L : Nat) (w : World) (Z : Int) (m b : Nat) (e : Ending) (w' : World) : Prop :=
  ∃ p a n c E, e = .returned (.agg #[.bool p, .slice a n c, .int .i64 E]) ∧ DQ L w' (.agg #[.bool p, .slice a n c, .int .i64 E]) Z m b ∧ Below w.heap.size w w'
theorem DQ.below {L : Nat} {w w' : World} {v : Value} {Z : Int} {m b : Nat} (h : DQ L w v Z m b) (hb : Below w.heap.size w w') : DQ L w' v Z m b := by
  obtain ⟨p, a, n, c, N, E, E0, h1, h2, h3⟩ := h
  exact ⟨p, a, n, c, N, E, E0, h1, h2.below hb, h3⟩
def IsS2 (p : Bool) (N : Int) (k : Nat) (v : Value) (w : World) : Prop := ∃ a n c, v = .agg #[.bool p, .slice a n c] ∧ ∃ base, NewN base w (.slice a n c) N k
def IsS3 (p : Bool) (E N : Int) (k : Nat) (v : Value) (w : World) : Prop := ∃ a n c, v = .agg #[.bool p, .slice a n c, .int .i64 E] ∧ ∃ base, NewN base w (.slice a n c) N k
theorem IsS2.keeps (p : Bool) (N : Int) (k : Nat) : Keeps (IsS2 p N k) := fun _ _ _ hb ⟨a, n, c, h1, base, h2⟩ => ⟨a, n, c, h1, base, h2.below hb⟩
theorem IsS3.keeps (p : Bool) (E N : Int) (k : Nat) : Keeps (IsS3 p E N k) := fun _ _ _ hb ⟨a, n, c, h1, base, h2⟩ => ⟨a, n, c, h1, base, h2.below hb⟩
theorem num_var3 {w w' : World} {a : Option Addr} {n c : Nat} {N : Int} {m g lo hi : Nat} (h : Num w (.slice a n c) N m) {p : Bool} {a1 : Option Addr} {n1 c1 : Nat} {E : Int} {t : TypeId} (hv : w.heap[g]? = some (.cells #[.bool p, .slice a1 n1 c1, .int .i64 E] t (0, 0))) (ho : Only g lo hi w w') : Num w' (.slice a n c) N m := by
  obtain ⟨l, ⟨a', c', he, h1, h2, h3, h4⟩, h5, h6⟩ := h
  simp only [Value.slice.injEq] at he
  obtain ⟨rfl, rfl, rfl⟩ := he
  refine ⟨l, ⟨a, c, rfl, h1, h2, ?_, h4⟩, h5, h6⟩
  rcases h3 with h3 | ⟨b, o, rfl, hat⟩
  · exact Or.inl h3
  · by_cases hl : l = []
    · exact Or.inl hl
    · refine Or.inr ⟨b, o, rfl, ho.at' hat ?_⟩
      rintro rfl
      have hat0 := hat 0 (List.length_pos_iff.2 hl)
      rw [cell_of_row w b _ _ t _ hv] at hat0
      match o, hat0 with
      | 0, hat0 => simp at hat0
      | 1, hat0 => simp at hat0
      | 2, hat0 => simp at hat0
      | o + 3, hat0 => simp at hat0
end Go.Proofs.Ytjmipbljoblnnaa

namespace Go.Proofs.Ytjmipbljoblnnaa
open Go.RowKit

/-- A word that is a number: its digits are at most 53. -/
theorem read_mag {b : Nat} (h : rg b < INF) : ∃ m p : Nat, Ieee.double.read b = .number (fneg b) m (Ieee.double.leastPlace + (p : Int)) ∧ m * 2 ^ p = un (rg b) ∧ m < 9007199254740992 := by
  unfold Ieee.Format.read
  have e1 : Ieee.double.signWeight = 9223372036854775808 := by decide
  have e2 : Ieee.double.binade = 4503599627370496 := by decide
  have e3 : Ieee.double.infRung = INF := by decide
  simp only [e1, e2, e3]
  change b % 9223372036854775808 < INF at h
  by_cases h1 : b % 9223372036854775808 < 4503599627370496
  · rw [if_pos h1]
    refine ⟨rg b, 0, by simp [fneg, rg], ?_, by unfold rg; omega⟩
    unfold un
    rw [if_pos (show rg b < _ from h1)]
    omega
  · rw [if_neg h1, if_pos h]
    refine ⟨4503599627370496 + rg b % 4503599627370496, rg b / 4503599627370496 - 1, by simp [fneg, rg], ?_, by omega⟩
    unfold un
    rw [if_neg (show ¬ rg b < _ from h1)]
theorem un_form (R : Nat) : ∃ man L, un R = man * 2 ^ L ∧ man < 9007199254740992 := by
  unfold un
  by_cases h : R < 4503599627370496
  · rw [if_pos h]
    exact ⟨R, 0, by rw [Nat.pow_zero, Nat.mul_one], by omega⟩
  · rw [if_neg h]
    exact ⟨4503599627370496 + R % 4503599627370496, _, rfl, by omega⟩
/-- Numbers of 53 digits lie no closer than two units where there are 55. -/
theorem coarse {R d k0 f : Nat} (hf : 9007199254740992 ≤ f) (h : 2 * f * 2 ^ k0 < un R * 2 ^ d) : (2 * f + 2) * 2 ^ k0 ≤ un R * 2 ^ d := by
  obtain ⟨man, L, e, hm⟩ := un_form R
  have e' : un R * 2 ^ d = man * 2 ^ (L + d) := by rw [e, Nat.mul_assoc, ← Nat.pow_add]
  rw [e'] at h ⊢
  have hk := Nat.two_pow_pos k0
  rcases Nat.lt_or_ge k0 (L + d) with hlt | hge
  · obtain ⟨i, hi⟩ : ∃ i, L + d = i + 1 + k0 := ⟨L + d - 1 - k0, by omega⟩
    obtain ⟨a, ha⟩ : ∃ a, man * 2 ^ i = a := ⟨_, rfl⟩
    have e2 : man * 2 ^ (L + d) = 2 * a * 2 ^ k0 := by
      rw [hi, Nat.pow_add, Nat.pow_succ, ← ha]; grind
    rw [e2] at h ⊢
    have h1 : 2 * f < 2 * a := Nat.lt_of_mul_lt_mul_right h
    exact Nat.mul_le_mul_right _ (by omega)
  · exfalso
    have h1 : man * 2 ^ (L + d) ≤ man * 2 ^ k0 := Nat.mul_le_mul_left _ (Nat.pow_le_pow_right (by decide) hge)
    have h2 : man * 2 ^ k0 ≤ 2 * f * 2 ^ k0 := Nat.mul_le_mul_right _ (by omega)
    omega
theorem opp_place {p q more : Nat} {lp : Int} (h : lp = -1074) : lp + (p : Int) - (lp + (q : Int)) - (more : Int) - 1 = lp + ((p + 1074 : Nat) : Int) - ((q + more + 1 : Nat) : Int) := by
  omega
/-- The quotient of two finite float64 lies beside the exact one. -/
theorem fquo_num {b c K : Nat} (hb : rg b < INF) (hc : rg c < INF) (h0 : un (rg c) ≠ 0) (hK : K = 1074) : ∃ x, floatBits .quo .f64 b c = some x ∧ NearR x ((if fneg c then -1 else 1) * fv b * (2 ^ K : Nat)) (un (rg c)) := by
  obtain ⟨m, p, e1, h1, hm53⟩ := read_mag hb
  obtain ⟨n, q, f1, g1⟩ := read_num hc
  show ∃ x, Ieee.double.div b c = some x ∧ _
  unfold Ieee.Format.div
  rw [e1, f1]
  have hn : n ≠ 0 := by
    rintro rfl
    rw [Nat.zero_mul] at g1
    exact h0 g1.symm
  have hfb : Ieee.double.fractionBits + 2 = 54 := rfl
  simp only [Ieee.Datum.quotient, if_neg hn, Option.map_some, hfb]
  refine ⟨_, rfl, ?_⟩
  obtain ⟨more, hmore⟩ : ∃ more, 54 + n.log2 - m.log2 = more := ⟨_, rfl⟩
  rw [hmore, Nat.shiftLeft_eq]
  show NearR (Ieee.double.nearest (fneg b ^^ fneg c) _ _) _ _
  rw [opp_place (lp := Ieee.double.leastPlace) (by decide), ← hK]
  have hS : (if fneg c then -1 else 1) * fv b * ((2 ^ K : Nat) : Int) = if (fneg b ^^ fneg c) then -((m * 2 ^ p * 2 ^ K : Nat) : Int) else ((m * 2 ^ p * 2 ^ K : Nat) : Int) := by
    rw [h1, fv_sign b, Int.natCast_mul]
    cases fneg b <;> cases fneg c <;> simp [Int.neg_mul, Int.mul_neg]
  rw [hS, ← g1]
  by_cases hm : m = 0
  · subst hm
    have e : (2 * (0 * 2 ^ more / n) + (0 * 2 ^ more % n != 0).toNat) = 0 := by simp
    rw [e, nearest_zero, Nat.zero_mul, Nat.zero_mul]
    have hpos : 0 < n * 2 ^ q := Nat.mul_pos (by omega) (Nat.two_pow_pos q)
    generalize (fneg b ^^ fneg c) = s
    cases s
    · exact near_zeroR false hpos
    · exact near_zeroR true hpos
  · obtain ⟨f, hf⟩ : ∃ f, m * 2 ^ more / n = f := ⟨_, rfl⟩
    obtain ⟨ρ, hρ⟩ : ∃ ρ, m * 2 ^ more % n = ρ := ⟨_, rfl⟩
    have hD : m * 2 ^ more = f * n + ρ := by
      have := Nat.div_add_mod (m * 2 ^ more) n
      rw [hf, hρ, Nat.mul_comm] at this
      exact this.symm
    have hρn : ρ < n := by rw [← hρ]; exact Nat.mod_lt _ (by omega)
    rw [hf, hρ]
    -- the quotient has more than 53 digits
    have hmlog : m.log2 ≤ 54 + n.log2 := by
      have := (Nat.log2_lt hm).2 (show m < 2 ^ 53 from hm53)
      omega
    have hbig : 9007199254740992 ≤ f := by
      have a1 : 2 ^ m.log2 ≤ m := Nat.log2_self_le hm
      have a2 : n < 2 ^ (n.log2 + 1) := Nat.lt_log2_self
      have a3 : 2 ^ (54 + n.log2) ≤ m * 2 ^ more := by
        rw [show 54 + n.log2 = m.log2 + more by omega, Nat.pow_add]
        exact Nat.mul_le_mul_right _ a1
      rw [← hf, Nat.le_div_iff_mul_le (by omega), show (9007199254740992 : Nat) = 2 ^ 53 from rfl]
      refine Nat.le_trans (Nat.mul_le_mul_left _ (Nat.le_of_lt a2)) ?_
      rw [← Nat.pow_add, show 53 + (n.log2 + 1) = 54 + n.log2 by omega]
      exact a3
    obtain ⟨t, ht⟩ : ∃ t, (ρ != 0).toNat = t := ⟨_, rfl⟩
    rw [ht]
    have htc : (t = 0 ∧ ρ = 0) ∨ (t = 1 ∧ ρ ≠ 0) := by
      by_cases h : ρ = 0
      · subst h; left; exact ⟨ht.symm, rfl⟩
      · right; refine ⟨?_, h⟩; rw [← ht]; simp [h]
    obtain ⟨r, hr, e, hup, hdn⟩ := nearest_gen (fneg b ^^ fneg c) (T := 2 * f + t) (k0 := p + K) (d := q + more + 1) (by omega)
    rw [e]
    -- what an amount compares with, in the units of the division
    obtain ⟨Z, hZ⟩ : ∃ Z, 2 ^ (p + K) = Z := ⟨_, rfl⟩
    have hZ0 : 0 < Z := by rw [← hZ]; exact Nat.two_pow_pos _
    have key : ∀ R, un R * (n * 2 ^ q) * 2 ^ (more + 1) = un R * 2 ^ (q + more + 1) * n := fun R => by
      rw [show q + more + 1 = q + (more + 1) by omega, Nat.pow_add]; grind
    have key2 : m * 2 ^ p * 2 ^ K * 2 ^ (more + 1) = (2 * f * n + 2 * ρ) * Z := by
      have : m * 2 ^ p * 2 ^ K * 2 ^ (more + 1) = 2 * (m * 2 ^ more) * (2 ^ p * 2 ^ K) := by rw [Nat.pow_succ]; grind
      rw [this, hD, ← Nat.pow_add, hZ]; grind
    have hpm := Nat.two_pow_pos (more + 1)
    have hn0 : 0 < n := by omega
    rw [hZ] at hup hdn
    refine near_ofR hr (Nat.mul_ne_zero (Nat.mul_ne_zero hm (by have := Nat.two_pow_pos p; omega)) (by have := Nat.two_pow_pos K; omega)) (fun R hR h => ?_) (fun R h => ?_)
    · have h2 := Nat.mul_le_mul_right (2 ^ (more + 1)) h
      rw [key, key2] at h2
      refine hup R hR ?_
      obtain ⟨u, hu⟩ : ∃ u, un R * 2 ^ (q + more + 1) = u := ⟨_, rfl⟩
      rw [hu] at h2 ⊢
      rcases htc with ⟨rfl, rfl⟩ | ⟨rfl, hρ0⟩
      · have h3 : u * n ≤ 2 * f * Z * n := by rw [show 2 * f * Z * n = (2 * f * n + 2 * 0) * Z by grind]; exact h2
        have := Nat.le_of_mul_le_mul_right h3 hn0
        rw [Nat.add_zero]; exact this
      · have h3 : u * n < (2 * f + 2) * Z * n := by
          refine Nat.lt_of_le_of_lt h2 ?_
          rw [show (2 * f + 2) * Z * n = (2 * f * n + 2 * n) * Z by grind]
          exact Nat.mul_lt_mul_of_pos_right (by omega) hZ0
        have h4 := Nat.lt_of_mul_lt_mul_right h3
        rcases Nat.lt_or_ge (2 * f * Z) u with h5 | h5
        · rw [← hu, ← hZ] at h5
          have := coarse hbig h5
          rw [hu, hZ] at this
          omega
        · refine Nat.le_trans h5 (Nat.mul_le_mul_right _ (by omega))
    · have h2 := Nat.mul_le_mul_right (2 ^ (more + 1)) h
      rw [key, key2] at h2
      refine hdn R ?_
      obtain ⟨u, hu⟩ : ∃ u, un R * 2 ^ (q + more + 1) = u := ⟨_, rfl⟩
      rw [hu] at h2 ⊢
      rcases htc with ⟨rfl, rfl⟩ | ⟨rfl, hρ0⟩
      · have h3 : 2 * f * Z * n ≤ u * n := by rw [show 2 * f * Z * n = (2 * f * n + 2 * 0) * Z by grind]; exact h2
        have := Nat.le_of_mul_le_mul_right h3 hn0
        rw [Nat.add_zero]; exact this
      · have h3 : 2 * f * Z * n < u * n := by
          refine Nat.lt_of_lt_of_le ?_ h2
          rw [show 2 * f * Z * n = (2 * f * n) * Z by grind]
          exact Nat.mul_lt_mul_of_pos_right (by omega) hZ0
        have h4 := Nat.lt_of_mul_lt_mul_right h3
        rw [← hu, ← hZ] at h4
        have := coarse hbig h4
        rw [hu, hZ] at this
        exact Nat.le_trans (Nat.mul_le_mul_right _ (by omega)) this

theorem root_from (n : Nat) : ∀ (todo root : Nat), root * root ≤ n → n < (root + 2 ^ todo) * (root + 2 ^ todo) → Ieee.Datum.rootFrom n todo root * Ieee.Datum.rootFrom n todo root ≤ n ∧ n < (Ieee.Datum.rootFrom n todo root + 1) * (Ieee.Datum.rootFrom n todo root + 1) := by
  intro todo
  induction todo with
  | zero => intro root h1 h2; exact ⟨h1, h2⟩
  | succ todo ih =>
    intro root h1 h2
    have e : (1 <<< todo : Nat) = 2 ^ todo := by rw [Nat.shiftLeft_eq, Nat.one_mul]
    unfold Ieee.Datum.rootFrom
    simp only [e]
    by_cases hl : (root + 2 ^ todo) * (root + 2 ^ todo) ≤ n
    · rw [if_pos hl]
      refine ih _ hl ?_
      rw [show root + 2 ^ todo + 2 ^ todo = root + 2 ^ (todo + 1) by rw [Nat.pow_succ]; omega]
      exact h2
    · rw [if_neg hl]
      exact ih _ h1 (by omega)
theorem root_whole (n : Nat) : ∃ w, Ieee.Datum.rootFrom n (n.log2 / 2 + 1) 0 = w ∧ w * w ≤ n ∧ n < (w + 1) * (w + 1) := by
  refine ⟨_, rfl, root_from n _ 0 (Nat.zero_le _) ?_⟩
  rw [Nat.zero_add, ← Nat.pow_add]
  exact Nat.lt_of_lt_of_le Nat.lt_log2_self (Nat.pow_le_pow_right (by decide) (by omega))
theorem lt_of_sq {a b : Nat} (h : a * a < b * b) : a < b := Nat.lt_of_not_le fun h1 => by have := Nat.mul_le_mul h1 h1; omega
theorem le_of_sq {a b : Nat} (h : a * a ≤ b * b) : a ≤ b := Nat.le_of_not_lt fun h1 => by have := Nat.mul_lt_mul_of_lt_of_lt h1 h1; omega
/-- The root of a finite float64 above 0 lies beside the exact one. -/
theorem fsqrt_num {b K : Nat} (hb : rg b < INF) (hs : fneg b = false) (h0 : un (rg b) ≠ 0) (hK : K = 1074) : ∃ r, Ieee.double.sqrt b = some r ∧ r ≤ INF ∧
    (∀ R, R ≤ INF → un R * un R ≤ un (rg b) * 2 ^ K → R ≤ r) ∧ (∀ R, un (rg b) * 2 ^ K ≤ un R * un R → r ≤ R) := by
  obtain ⟨m, p, e1, h1, hm53⟩ := read_mag hb
  have hm : m ≠ 0 := by
    rintro rfl
    rw [Nat.zero_mul] at h1
    exact h0 h1.symm
  unfold Ieee.Format.sqrt
  rw [e1, hs]
  have hfb : 2 * (Ieee.double.fractionBits + 2) = 108 := rfl
  simp only [Ieee.Datum.root, if_neg hm, hfb, Bool.false_eq_true, if_false, Option.map_some]
  have hlp : Ieee.double.leastPlace = -1074 := by decide
  have hmlog : m.log2 < 53 := (Nat.log2_lt hm).2 (show m < 2 ^ 53 from hm53)
  obtain ⟨o, ho⟩ : ∃ o, 108 - m.log2 = o := ⟨_, rfl⟩
  rw [ho]
  obtain ⟨par, hpar⟩ : ∃ par, ((Ieee.double.leastPlace + (p : Int) - (o : Int)) % 2).toNat = par := ⟨_, rfl⟩
  rw [hpar]
  obtain ⟨more, hmore⟩ : ∃ more, o + par = more := ⟨_, rfl⟩
  rw [hmore, Nat.shiftLeft_eq]
  obtain ⟨N, hN⟩ : ∃ N, m * 2 ^ more = N := ⟨_, rfl⟩
  rw [hN]
  obtain ⟨w, hw, w1, w2⟩ := root_whole N
  rw [hw]
  obtain ⟨t, ht⟩ : ∃ t, (w * w != N).toNat = t := ⟨_, rfl⟩
  rw [ht]
  have htc : (t = 0 ∧ w * w = N) ∨ (t = 1 ∧ w * w < N) := by
    by_cases h : w * w = N
    · left; refine ⟨?_, h⟩; rw [← ht]; simp [h]
    · right; refine ⟨?_, by omega⟩; rw [← ht]; simp [h]
  have hbig : 9007199254740992 ≤ w := by
    have a1 : 2 ^ m.log2 ≤ m := Nat.log2_self_le hm
    have a3 : 2 ^ 108 ≤ N := by
      rw [← hN]
      refine Nat.le_trans (Nat.pow_le_pow_right (by decide) (show 108 ≤ m.log2 + more by omega)) ?_
      rw [Nat.pow_add]
      exact Nat.mul_le_mul_right _ a1
    have a4 : 18014398509481984 * 18014398509481984 < (w + 1) * (w + 1) := Nat.lt_of_le_of_lt a3 w2
    have := lt_of_sq a4
    omega
  obtain ⟨e, he⟩ : ∃ e : Int, (Ieee.double.leastPlace + (p : Int) - (more : Int)) / 2 = e := ⟨_, rfl⟩
  rw [he]
  obtain ⟨k0, hk0⟩ : ∃ k0 : Nat, (e + 1073).toNat = k0 := ⟨_, rfl⟩
  obtain ⟨d, hd⟩ : ∃ d : Nat, (-(e + 1073)).toNat = d := ⟨_, rfl⟩
  have hpl : e - 1 = Ieee.double.leastPlace + (k0 : Int) - (d : Int) := by omega
  have hbal : p + K + 2 * d = more + 2 + 2 * k0 := by omega
  rw [hpl]
  obtain ⟨r, hr, er, hup, hdn⟩ := nearest_gen false (T := 2 * w + t) (k0 := k0) (d := d) (by omega)
  refine ⟨r, ?_, hr, ?_, ?_⟩
  · show some (Ieee.double.nearest false _ _) = _
    rw [er]
    rfl
  all_goals
    obtain ⟨Z, hZ⟩ : ∃ Z, 2 ^ k0 = Z := ⟨_, rfl⟩
    have hZ0 : 0 < Z := by rw [← hZ]; exact Nat.two_pow_pos _
    obtain ⟨Y, hY⟩ : ∃ Y, 2 ^ d = Y := ⟨_, rfl⟩
    have hY0 : 0 < Y := by rw [← hY]; exact Nat.two_pow_pos _
    have key : un (rg b) * 2 ^ K * (Y * Y) = 4 * N * (Z * Z) := by
      rw [← h1, ← hN, ← hY, ← hZ]
      have e1 : m * 2 ^ p * 2 ^ K * (2 ^ d * 2 ^ d) = m * 2 ^ (p + K + 2 * d) := by
        rw [show p + K + 2 * d = p + K + (d + d) by omega, Nat.pow_add, Nat.pow_add, Nat.pow_add]; grind
      have e2 : 4 * (m * 2 ^ more) * (2 ^ k0 * 2 ^ k0) = m * 2 ^ (more + 2 + 2 * k0) := by
        rw [show more + 2 + 2 * k0 = more + 2 + (k0 + k0) by omega, Nat.pow_add, Nat.pow_add, Nat.pow_add]; grind
      rw [e1, e2, hbal]
    rw [hZ, hY] at hup hdn
  · intro R hR h
    refine hup R hR ?_
    have h2 := Nat.mul_le_mul_right (Y * Y) h
    rw [key] at h2
    obtain ⟨a, ha⟩ : ∃ a, un R * Y = a := ⟨_, rfl⟩
    rw [show un R * un R * (Y * Y) = a * a by rw [← ha]; grind] at h2
    rw [ha]
    rcases htc with ⟨rfl, hwN⟩ | ⟨rfl, hwN⟩
    · refine le_of_sq (Nat.le_trans h2 (Nat.le_of_eq ?_))
      rw [← hwN]; grind
    · rcases Nat.lt_or_ge (2 * w * Z) a with h5 | h5
      · exfalso
        rw [← ha, ← hZ, ← hY] at h5
        have h6 := coarse hbig h5
        rw [hZ, hY, ha] at h6
        have h7 := Nat.mul_le_mul h6 h6
        have h8 : 4 * N * (Z * Z) < (2 * w + 2) * Z * ((2 * w + 2) * Z) := by
          rw [show (2 * w + 2) * Z * ((2 * w + 2) * Z) = 4 * ((w + 1) * (w + 1)) * (Z * Z) by grind]
          exact Nat.mul_lt_mul_of_pos_right (by omega) (Nat.mul_pos hZ0 hZ0)
        omega
      · exact Nat.le_trans h5 (Nat.mul_le_mul_right _ (by omega))
  · intro R h
    refine hdn R ?_
    have h2 := Nat.mul_le_mul_right (Y * Y) h
    rw [key] at h2
    obtain ⟨a, ha⟩ : ∃ a, un R * Y = a := ⟨_, rfl⟩
    rw [show un R * un R * (Y * Y) = a * a by rw [← ha]; grind] at h2
    rw [ha]
    rcases htc with ⟨rfl, hwN⟩ | ⟨rfl, hwN⟩
    · refine le_of_sq (Nat.le_trans (Nat.le_of_eq ?_) h2)
      rw [← hwN]; grind
    · have h5 : 2 * w * Z < a := by
        refine lt_of_sq (Nat.lt_of_lt_of_le ?_ h2)
        rw [show 2 * w * Z * (2 * w * Z) = 4 * (w * w) * (Z * Z) by grind]
        exact Nat.mul_lt_mul_of_pos_right (by omega) (Nat.mul_pos hZ0 hZ0)
      rw [← ha, ← hZ, ← hY] at h5
      have h6 := coarse hbig h5
      rw [hZ, hY, ha] at h6
      exact Nat.le_trans (Nat.mul_le_mul_right _ (by omega)) h6
end Go.Proofs.Ytjmipbljoblnnaa

namespace Go.Proofs.Ytjmipbljoblnnaa

/-- A float64 below one that is next to S / D lies below S / D, too. -/
theorem near_under {x S D y} (h : NearR x S D) (hy : y < 18446744073709551616) (hr : rg y ≤ INF) (hlt : fv y < fv x) : fv y * (D : Int) ≤ S := by
  rcases Int.lt_or_le S (fv y * (D : Int)) with h1 | h1
  · have := h.down y hy hr (Int.le_of_lt h1)
    omega
  · exact h1
theorem near_over {x S D y} (h : NearR x S D) (hy : y < 18446744073709551616) (hr : rg y ≤ INF) (hlt : fv x < fv y) : S ≤ fv y * (D : Int) := by
  rcases Int.lt_or_le (fv y * (D : Int)) S with h1 | h1
  · have := h.up y hy hr (Int.le_of_lt h1)
    omega
  · exact h1
theorem near_under1 {x : Nat} {S : Int} {y : Nat} (h : NearTo x S) (hy : y < 18446744073709551616) (hr : rg y ≤ INF) (hlt : fv y < fv x) : fv y ≤ S := by
  rcases Int.lt_or_le S (fv y) with h1 | h1
  · have := h.down y hy hr (Int.le_of_lt h1)
    omega
  · exact h1
theorem near_over1 {x : Nat} {S : Int} {y : Nat} (h : NearTo x S) (hy : y < 18446744073709551616) (hr : rg y ≤ INF) (hlt : fv x < fv y) : S ≤ fv y := by
  rcases Int.lt_or_le (fv y) S with h1 | h1
  · have := h.up y hy hr (Int.le_of_lt h1)
    omega
  · exact h1
/-- The product of two numbers lies between the products of the corners. -/
theorem mul_corners_low {a b c d X Y L : Int} (hX : a ≤ X ∧ X ≤ b) (hY : c ≤ Y ∧ Y ≤ d) (h1 : L ≤ a * c) (h2 : L ≤ a * d) (h3 : L ≤ b * c) (h4 : L ≤ b * d) : L ≤ X * Y := by
  have line : ∀ z : Int, L ≤ a * z → L ≤ b * z → L ≤ X * z := by
    intro z ha hb
    rcases Int.le_total 0 z with hz | hz
    · have := Int.mul_le_mul_of_nonneg_right hX.1 hz; omega
    · have := Int.mul_le_mul_of_nonpos_right hX.2 hz; omega
  have hc := line c h1 h3
  have hd := line d h2 h4
  rcases Int.le_total 0 X with hx | hx
  · have := Int.mul_le_mul_of_nonneg_left hY.1 hx; omega
  · have := Int.mul_le_mul_of_nonpos_left hx hY.2; omega
theorem mul_corners_high {a b c d X Y H : Int} (hX : a ≤ X ∧ X ≤ b) (hY : c ≤ Y ∧ Y ≤ d) (h1 : a * c ≤ H) (h2 : a * d ≤ H) (h3 : b * c ≤ H) (h4 : b * d ≤ H) : X * Y ≤ H := by
  have h := mul_corners_low (a := -b) (b := -a) (X := -X) (L := -H) ⟨Int.neg_le_neg hX.2, Int.neg_le_neg hX.1⟩ hY (by rw [Int.neg_mul]; omega) (by rw [Int.neg_mul]; omega) (by rw [Int.neg_mul]; omega) (by rw [Int.neg_mul]; omega)
  rw [Int.neg_mul] at h
  omega
/-- The quotient of a number by one above 0 lies between the quotients of the corners (T: a power of two, the places). -/
theorem quo_corners_low {a c d X Y L T : Int} (hT : 0 ≤ T) (hX : a ≤ X) (hY : c ≤ Y ∧ Y ≤ d) (h1 : L * c ≤ a * T) (h2 : L * d ≤ a * T) : L * Y ≤ X * T := by
  have hx := Int.mul_le_mul_of_nonneg_right hX hT
  rcases Int.le_total 0 L with hl | hl
  · have := Int.mul_le_mul_of_nonneg_left hY.2 hl; omega
  · have := Int.mul_le_mul_of_nonpos_left hl hY.1; omega
theorem quo_corners_high {b c d X Y H T : Int} (hT : 0 ≤ T) (hX : X ≤ b) (hY : c ≤ Y ∧ Y ≤ d) (h1 : b * T ≤ H * c) (h2 : b * T ≤ H * d) : X * T ≤ H * Y := by
  have hx := Int.mul_le_mul_of_nonneg_right hX hT
  rcases Int.le_total 0 H with hl | hl
  · have := Int.mul_le_mul_of_nonneg_left hY.1 hl; omega
  · have := Int.mul_le_mul_of_nonpos_left hl hY.2; omega
end Go.Proofs.Ytjmipbljoblnnaa

namespace Go.Proofs.Ytjmipbljoblnnaa
open Go.RowKit

theorem signed_un_not {b m p : Nat} (h : m * 2 ^ p = un (rg b)) : Ieee.signed (!fneg b) m p = -fv b := by
  rw [← signed_un h]
  unfold Ieee.signed
  cases fneg b <;> simp
end Go.Proofs.Ytjmipbljoblnnaa
