/-
  Flo1: Contracts of package flo on words: cut, Finite, Step; of package math: IsNaN, IsInf.
  Dyad1: Contracts of package dyad: Make, Of, Sign, Top, on numbers of any exponent.
  Flo2: flo.shorten: a number cut to one word.
  Flo3: flo.towardsZero: the float64 next to a number towards zero.
  Flo4: flo.Float and flo.Dyad.
  FloC: Steps of float64 words there and back; the two words about a number. No program is spoken of here.
  FloAdd: The sum of two float64: it lies between the float64 beside the exact sum.
  FloGen: The float64 word nearest to a number with places below the least one.
  FloMul: Products, quotients and roots of float64: each lies between the float64 beside the exact one.
  RefQR: The document's dyads of any exponent: Same; of a real number, of a float64.
  RefFlt: The reference's cut, bits, Round.
  RefQM: The reference's product of dyads with exponents from -L on; a dyad's integer at more places.
  RefDQ: The reference's cut where something is lost already, and of 0.
-/
import Derived.Test.YtjmipbljoblnnaaDoorPk5
import Derived.Test.YtjmipbljoblnnaaDoorPk25
import Derived.Test.YtjmipbljoblnnaaDoorPk21
import Derived.WalkLawsBesides
import Derived.Test.YtjmipbljoblnnaaDoorPk26

namespace Go.Proofs.YtjmipbljoblnnaaDoor
open Go.RowKit
theorem bits_run (b : Nat) (w : World) : (callFunc 26 #[.float .f64 b]).run Tryd.prog w = .ok (.value (.int .u64 (b : Int))) w := by
  rw [run_callFunc_extern Tryd.func26 (by kernel_rfl) (by kernel_rfl) (by kernel_rfl) (e := Extern.MathFloatBits.float64bits) (by kernel_rfl)]
  rfl
theorem frombits_run (x : Int) (w : World) : (callFunc 54 #[.int .u64 x]).run Tryd.prog w = .ok (.value (.float .f64 x.toNat)) w := by
  rw [run_callFunc_extern Tryd.func54 (by kernel_rfl) (by kernel_rfl) (by kernel_rfl) (e := Extern.MathFloatBits.float64frombits) (by kernel_rfl)]
  rfl
/-- A function has returned a float64's word and turned nothing. -/
def RetB (w : World) (v : Value) (e : Ending) (w' : World) : Prop := e = .returned v ∧ w = w'
set_option maxRecDepth 100000 in
theorem cut_num (b : Nat) (w : World) (hb : b < 18446744073709551616) : Calls Tryd.prog 25 #[.float .f64 b] w fun e w' => RetB w (.tuple #[.bool (fneg b), .int .i64 ((b / 4503599627370496 % 2048 : Nat) : Int), .int .u64 ((b % 4503599627370496 : Nat) : Int)]) e w' := by
  have h1 : bits .and .u64 ((b : Int) / 4503599627370496) 2047 = ((b / 4503599627370496 % 2048 : Nat) : Int) := by
    have := and_mask ((b : Int) / 4503599627370496) 11 (by decide) (by omega) (by omega)
    rw [show (2 : Int) ^ 11 - 1 = 2047 by decide, show (2 : Int) ^ 11 = 2048 by decide] at this
    rw [this]; omega
  have h2 : bits .and .u64 (b : Int) 4503599627370495 = ((b % 4503599627370496 : Nat) : Int) := by
    have := and_mask (b : Int) 52 (by decide) (by omega) (by omega)
    rw [show (2 : Int) ^ 52 - 1 = 4503599627370495 by decide, show (2 : Int) ^ 52 = 4503599627370496 by decide] at this
    rw [this]; omega
  have h3 : ((b : Int) / 9223372036854775808 == 1) = fneg b := by
    unfold fneg
    by_cases e : b < 9223372036854775808
    · have e1 : (b : Int) / 9223372036854775808 = 0 := by omega
      have e2 : b / 9223372036854775808 % 2 = 0 := by omega
      rw [e1, e2]; rfl
    · have e1 : (b : Int) / 9223372036854775808 = 1 := by omega
      have e2 : b / 9223372036854775808 % 2 = 1 := by omega
      rw [e1, e2]; rfl
  obtain ⟨F, hF⟩ : ∃ F, b / 4503599627370496 % 2048 = F := ⟨_, rfl⟩
  have hF2 : F < 2048 := by rw [← hF]; exact Nat.mod_lt _ (by decide)
  obtain ⟨G, hG⟩ : ∃ G, b % 4503599627370496 = G := ⟨_, rfl⟩
  obtain ⟨p, hp⟩ : ∃ p, fneg b = p := ⟨_, rfl⟩
  rw [hF] at h1 ⊢
  rw [hG] at h2 ⊢
  rw [hp] at h3 ⊢
  clear hF hG hp
  go_enter Tryd.func25, Tryd.ntmps25
  go_wp2_with (simp only [bits_run])
  go_ret3
  exact ⟨rfl, rfl⟩
theorem field_inf {b : Nat} : (b / 4503599627370496 % 2048 = 2047) ↔ INF ≤ rg b := by
  unfold rg INF
  omega
set_option maxRecDepth 100000 in
theorem finite_num (b : Nat) (w : World) (hb : b < 18446744073709551616) : Calls Tryd.prog 6 #[.float .f64 b] w fun e w' => RetB w (.bool (decide (rg b < INF))) e w' := by
  have HC := Lib.hid (cut_num b w hb)
  have hf : ((((b / 4503599627370496 % 2048 : Nat) : Int)) != 2047) = decide (rg b < INF) := by
    have h := field_inf (b := b)
    by_cases e : rg b < INF
    · rw [decide_eq_true e]
      simp only [bne_iff_ne, ne_eq]
      omega
    · rw [decide_eq_false e]
      have : b / 4503599627370496 % 2048 = 2047 := h.2 (by omega)
      rw [this]; rfl
  obtain ⟨F, hF⟩ : ∃ F, b / 4503599627370496 % 2048 = F := ⟨_, rfl⟩
  obtain ⟨G, hG⟩ : ∃ G, b % 4503599627370496 = G := ⟨_, rfl⟩
  obtain ⟨p, hp⟩ : ∃ p, fneg b = p := ⟨_, rfl⟩
  obtain ⟨r, hr⟩ : ∃ r, decide (rg b < INF) = r := ⟨_, rfl⟩
  rw [hF, hG, hp] at HC
  rw [hF, hr] at hf
  rw [hr]
  clear hF hG hp hr
  go_enter Tryd.func6, Tryd.ntmps6
  go_wp2_with fail
  refine HC.out.mono ?_
  rintro e w' ⟨rfl, rfl⟩
  go_wp2_with fail
  go_ret
  exact ⟨rfl, rfl⟩
set_option maxRecDepth 100000 in
theorem isnan_no (b : Nat) (w : World) (h : rg b ≤ INF) : Calls Tryd.prog 55 #[.float .f64 b] w fun e w' => RetB w (.bool false) e w' := by
  have h1 : (FloatKind.f64.format.order b b != some Ordering.eq) = false := by
    show (Ieee.double.order b b != some Ordering.eq) = false
    rw [order_num h h, cmp_int_eq rfl]; rfl
  clear h
  go_enter Tryd.func55, Tryd.ntmps55
  go_wp2_with fail
  go_ret
  exact ⟨rfl, rfl⟩
/-- A float64 with the other sign. -/
theorem neg_word {b : Nat} (hb : b < 18446744073709551616) : rg (Op.negFloat .f64 b) = rg b ∧ fneg (Op.negFloat .f64 b) = !fneg b := by
  have e : Op.negFloat .f64 b = b ^^^ 2 ^ 63 := rfl
  have hx : Op.negFloat .f64 b = if b < 9223372036854775808 then 9223372036854775808 + b else b - 9223372036854775808 := by
    rw [e]
    by_cases h : b < 9223372036854775808
    · rw [if_pos h]
      apply Nat.eq_of_testBit_eq
      intro i
      rw [Nat.testBit_xor, Nat.testBit_two_pow]
      rcases Nat.lt_trichotomy i 63 with hi | hi | hi
      · rw [decide_eq_false (by omega), Bool.xor_false]
        exact (Nat.testBit_two_pow_add_gt hi b).symm
      · subst hi
        rw [decide_eq_true rfl, Bool.xor_true]
        exact (Nat.testBit_two_pow_add_eq b 63).symm
      · have hp : 2 ^ 64 ≤ 2 ^ i := Nat.pow_le_pow_right (by decide) hi
        rw [Nat.testBit_lt_two_pow (show b < 2 ^ i by omega), Nat.testBit_lt_two_pow (show 9223372036854775808 + b < 2 ^ i by omega), decide_eq_false (by omega)]
        rfl
    · rw [if_neg h]
      obtain ⟨c, rfl⟩ := Nat.le.dest (Nat.le_of_not_lt h)
      rw [Nat.add_sub_cancel_left]
      apply Nat.eq_of_testBit_eq
      intro i
      rw [Nat.testBit_xor, Nat.testBit_two_pow]
      rcases Nat.lt_trichotomy i 63 with hi | hi | hi
      · rw [decide_eq_false (by omega), Bool.xor_false]
        exact Nat.testBit_two_pow_add_gt hi c
      · subst hi
        rw [decide_eq_true rfl, Bool.xor_true]
        have := Nat.testBit_two_pow_add_eq c 63
        rw [show (9223372036854775808 : Nat) = 2 ^ 63 by decide, this, Bool.not_not]
      · have hp : 2 ^ 64 ≤ 2 ^ i := Nat.pow_le_pow_right (by decide) hi
        rw [Nat.testBit_lt_two_pow (show 9223372036854775808 + c < 2 ^ i by omega), Nat.testBit_lt_two_pow (show c < 2 ^ i by omega), decide_eq_false (by omega)]
        rfl
  rw [hx]
  unfold rg fneg
  by_cases h : b < 9223372036854775808
  · rw [if_pos h]
    refine ⟨by omega, ?_⟩
    have e1 : (9223372036854775808 + b) / 9223372036854775808 % 2 = 1 := by omega
    have e2 : b / 9223372036854775808 % 2 = 0 := by omega
    rw [e1, e2]; rfl
  · rw [if_neg h]
    refine ⟨by omega, ?_⟩
    have e1 : (b - 9223372036854775808) / 9223372036854775808 % 2 = 0 := by omega
    have e2 : b / 9223372036854775808 % 2 = 1 := by omega
    rw [e1, e2]; rfl
theorem fv_max : fv 9218868437227405311 = (un 9218868437227405311 : Int) := fv_pos (by decide)
theorem gt_max {b : Nat} (h : rg b ≤ INF) : (FloatKind.f64.format.order b 9218868437227405311 == some Ordering.gt) = (!fneg b && decide (rg b = INF)) := by
  rw [fgt_num h (by decide), fv_max]
  have hU := un_step 9218868437227405311
  cases hs : fneg b
  · rw [fv_def, hs]
    by_cases e : rg b = INF
    · rw [e]
      simp only [Bool.not_false, Bool.true_and, decide_true, Bool.false_eq_true, if_false]
      exact decide_eq_true (by exact_mod_cast hU)
    · have h1 := un_le (show rg b ≤ 9218868437227405311 by unfold INF at h e; omega)
      rw [decide_eq_false e, Bool.and_false]
      simp only [Bool.false_eq_true, if_false]
      exact decide_eq_false (by omega)
  · rw [fv_def, hs]
    simp only [Bool.not_true, Bool.false_and, if_true]
    exact decide_eq_false (by omega)
set_option maxRecDepth 100000 in
theorem isinf_pos (b : Nat) (w : World) (h : rg b ≤ INF) : Calls Tryd.prog 56 #[.float .f64 b, .int .i64 1] w fun e w' => RetB w (.bool (!fneg b && decide (rg b = INF))) e w' := by
  have h1 := gt_max h
  obtain ⟨x, hx⟩ : ∃ x, (!fneg b && decide (rg b = INF)) = x := ⟨_, rfl⟩
  rw [hx] at h1 ⊢
  clear h hx
  go_enter Tryd.func56, Tryd.ntmps56
  go_wp2_with fail
  go_ret
  exact ⟨rfl, rfl⟩
theorem unary_neg_float {P : Program} (b : Nat) (w : World) : (Op.unary .neg (.float .f64 b)).run P w = .ok (.float .f64 (Op.negFloat .f64 b)) w := rfl
set_option maxRecDepth 100000 in
theorem isinf_neg (b : Nat) (w : World) (hb : b < 18446744073709551616) (h : rg b ≤ INF) : Calls Tryd.prog 56 #[.float .f64 b, .int .i64 (-1)] w fun e w' => RetB w (.bool (fneg b && decide (rg b = INF))) e w' := by
  obtain ⟨n1, n2⟩ := neg_word hb
  have h1 := gt_max (b := Op.negFloat .f64 b) (by rw [n1]; exact h)
  rw [n1, n2, Bool.not_not] at h1
  obtain ⟨x, hx⟩ : ∃ x, (fneg b && decide (rg b = INF)) = x := ⟨_, rfl⟩
  rw [hx] at h1 ⊢
  obtain ⟨c, hc⟩ : ∃ c, Op.negFloat .f64 b = c := ⟨_, rfl⟩
  have hu := unary_neg_float (P := Tryd.prog) b w
  rw [hc] at h1 hu
  clear h hx n1 n2 hc
  go_enter Tryd.func56, Tryd.ntmps56
  go_wp2_with (simp only [hu])
  go_ret
  exact ⟨rfl, rfl⟩

/-- What Step gives for a word that is no NaN. -/
def stepW (b : Nat) (down : Bool) : Nat :=
  if rg b = 0 then (if down then 9223372036854775809 else 1)
  else if fneg b then (if down then (if rg b = INF then b else b + 1) else b - 1)
  else (if down then b - 1 else if rg b = INF then b else b + 1)
set_option maxRecDepth 100000 in
theorem step_walk (b : Nat) (dir : Int) (w : World) (vi vn z neg dn : Bool) (res : Nat) (hd : decide (dir < 0) = dn) (hnan : Hid (Calls Tryd.prog 55 #[.float .f64 b] w fun e w' => RetB w (.bool false) e w'))
    (hi : Hid (Calls Tryd.prog 56 #[.float .f64 b, .int .i64 1] w fun e w' => RetB w (.bool vi) e w')) (hn : Hid (Calls Tryd.prog 56 #[.float .f64 b, .int .i64 (-1)] w fun e w' => RetB w (.bool vn) e w'))
    (hz : (FloatKind.f64.format.order b 0 == some Ordering.eq) = z) (hl : (FloatKind.f64.format.order b 0 == some Ordering.lt) = neg) (hb : b + 1 < 18446744073709551616) (hb1 : 1 ≤ b ∨ z = true)
    (hres : Hid (res = if (vi && !dn || vn && dn) = true then b else if z = true then (if dn = true then 9223372036854775809 else 1) else if neg = dn then b + 1 else b - 1)) :
    Calls Tryd.prog 50 #[.float .f64 b, .int .i64 dir] w fun e w' => RetB w (.float .f64 res) e w' := by
  have h1 : ((b : Int) + 1).toNat = b + 1 := by omega
  have h2 : 1 ≤ b → ((b : Int) - 1).toNat = b - 1 := by omega
  have H1 := Lib.hid h1
  have H2 := Lib.hid h2
  clear h1 h2
  cases vi <;> cases vn <;> cases z <;> cases neg <;> cases dn
  all_goals
    first | (have hd' : dir < 0 := by simpa using hd) | (have hd' : ¬ dir < 0 := by simpa using hd)
    clear hd
    first | (have hb2 : 1 ≤ b := hb1.resolve_right (by decide); clear hb1) | clear hb1
    go_enter Tryd.func50, Tryd.ntmps50
    go_wp2_with fail
    refine hnan.out.mono ?_
    rintro e w' ⟨rfl, rfl⟩
    go_wp2_with fail
    refine hi.out.mono ?_
    rintro e w' ⟨rfl, rfl⟩
    go_wp2_with (first | (go_at_call 56; refine hn.out.mono ?_; rintro e w' ⟨rfl, rfl⟩) | simp only [bits_run] | simp only [frombits_run])
    go_ret
    refine ⟨?_, rfl⟩
    rw [hres.out]
    first
      | rfl
      | exact congrArg (fun n => Ending.returned (Value.float FloatKind.f64 n)) H1.out
      | exact congrArg (fun n => Ending.returned (Value.float FloatKind.f64 n)) (H2.out hb2)
theorem step_num (b : Nat) (dir : Int) (w : World) (hb : b < 18446744073709551616) (h : rg b ≤ INF) :
    Calls Tryd.prog 50 #[.float .f64 b, .int .i64 dir] w fun e w' => RetB w (.float .f64 (stepW b (decide (dir < 0)))) e w' := by
  have h0 : rg 0 = 0 := by decide
  have f0 : fv 0 = 0 := by decide
  have hz : (FloatKind.f64.format.order b 0 == some Ordering.eq) = decide (rg b = 0) := by
    rw [feq_num h (by decide), f0]
    by_cases e : rg b = 0
    · rw [decide_eq_true e, fv_def, e]
      exact decide_eq_true (by split <;> rfl)
    · rw [decide_eq_false e]
      refine decide_eq_false fun hh => e ?_
      rw [fv_def] at hh
      exact un_eq_zero (by split at hh <;> omega)
  have hl : (FloatKind.f64.format.order b 0 == some Ordering.lt) = (fneg b && !decide (rg b = 0)) := by
    rw [flt_num h (by decide), f0]
    by_cases e : rg b = 0
    · rw [decide_eq_true e, fv_def, e]
      exact (decide_eq_false (by split <;> decide)).trans (by simp)
    · rw [decide_eq_false e, fv_def]
      have hu : un (rg b) ≠ 0 := fun hh => e (un_eq_zero hh)
      cases hs : fneg b
      · rw [if_neg (by decide)]
        exact decide_eq_false (by omega)
      · rw [if_pos rfl]
        exact decide_eq_true (by omega)
  have hb2 : b + 1 < 18446744073709551616 := by unfold rg INF at h; omega
  have hb3 : 1 ≤ b ∨ decide (rg b = 0) = true := by
    by_cases e : b = 0
    · right; rw [e]; rfl
    · left; omega
  refine step_walk b dir w _ _ _ _ _ _ rfl (Lib.hid (isnan_no b w h)) (Lib.hid (isinf_pos b w h)) (Lib.hid (isinf_neg b w hb h)) hz hl hb2 hb3 ?_
  show _ = _
  have hI : INF ≠ 0 := by decide
  unfold stepW
  by_cases e0 : rg b = 0
  · have e1 : ¬ rg b = INF := by rw [e0]; exact Ne.symm hI
    rw [if_pos e0, decide_eq_false e1, decide_eq_true e0]
    cases decide (dir < 0) <;> cases fneg b <;> rfl
  · rw [if_neg e0, decide_eq_false e0]
    by_cases e1 : rg b = INF
    · rw [decide_eq_true e1, if_pos e1]
      cases decide (dir < 0) <;> cases fneg b <;> rfl
    · rw [decide_eq_false e1, if_neg e1]
      cases decide (dir < 0) <;> cases fneg b <;> rfl
end Go.Proofs.YtjmipbljoblnnaaDoor

namespace Go.Proofs.YtjmipbljoblnnaaDoor
open Go.RowKit

theorem drop_num {w : World} {b o n c : Nat} {N : Int} {m : Nat} (h : Num w (.slice (some ⟨b, o, none⟩) n c) N m) {k : Nat} (hk : k ≤ n) : Num w (.slice (some ⟨b, o + k, none⟩) (n - k) (c - k)) (N / B64 ^ k) m := by
  obtain ⟨a', n', c', l, he, h1, h2, h3, hrd, hl, hv, hm⟩ := h.open
  cases he
  have hs := vb_split B64 l k (by omega)
  have ht0 := vb_nonneg B64_pos (hl.take k)
  have ht1 := vb_lt B64_pos (hl.take k)
  have hlt : (l.take k).length = k := by rw [List.length_take]; omega
  rw [hlt] at ht1
  have hp := pow_pos' B64_pos k
  have e : N / B64 ^ k = vb B64 (l.drop k) := by
    rw [← hv, hs, Int.add_mul_ediv_left _ _ (by omega), Int.ediv_eq_zero_of_lt ht0 ht1, Int.zero_add]
  refine ⟨l.drop k, ⟨some ⟨b, o + k, none⟩, c - k, by rw [List.length_drop, ← h1], by rw [List.length_drop]; omega, by omega, Rd.of_at (hrd.at'.drop k), hl.drop k⟩, e.symm, by rw [List.length_drop]; omega⟩
theorem low_lt64 {N : Int} {t m : Nat} (h : LowOf N t) (hN0 : N ≠ 0) (h0 : 0 ≤ N) (hN : N < B64 ^ m) : t < 64 * m := by
  rcases h with ⟨h1, -⟩ | ⟨-, z, hz⟩
  · exact absurd h1 hN0
  · have hp := pow2_pos t
    have hz0 : 1 ≤ 2 * z + 1 := by
      rcases Int.lt_or_le (2 * z + 1) 1 with h3 | h3
      · exfalso
        have : 2 ^ t * (2 * z + 1) ≤ 2 ^ t * 0 := Int.mul_le_mul_of_nonneg_left (by omega) (by omega)
        omega
      · exact h3
    have h4 : (2 : Int) ^ t * 1 ≤ 2 ^ t * (2 * z + 1) := Int.mul_le_mul_of_nonneg_left hz0 (by omega)
    have h5 : (2 : Int) ^ t < 2 ^ (64 * m) := by
      rw [show (2 : Int) ^ (64 * m) = B64 ^ m by rw [Int.pow_mul]; rfl]
      omega
    exact two_pow_lt_of h5
/-- A dyad in its one form has been returned: that of a sign, an amount, an exponent. -/
def RetDy (w : World) (p : Bool) (N E : Int) (m : Nat) (e : Ending) (w' : World) : Prop :=
  ∃ p' a n c N' E', ∃ t : Nat, e = .returned (.agg #[.bool p', .slice a n c, .int .i64 E']) ∧ NewN w.heap.size w' (.slice a n c) N' m ∧
    ((N = 0 ∧ p' = false ∧ N' = 0 ∧ E' = 0 ∧ t = 0) ∨ (N ≠ 0 ∧ p' = p ∧ N' * 2 ^ t = N ∧ E' = E + t ∧ t ≤ 64 * m ∧ ∃ z, N' = 2 * z + 1)) ∧ Below w.heap.size w w'
theorem RetDy.mk {w w' : World} {p p' : Bool} {N E N' E' : Int} {m : Nat} {a : Option Addr} {n c t : Nat} (h : NewN w.heap.size w' (.slice a n c) N' m)
    (hv : (N = 0 ∧ p' = false ∧ N' = 0 ∧ E' = 0 ∧ t = 0) ∨ (N ≠ 0 ∧ p' = p ∧ N' * 2 ^ t = N ∧ E' = E + t ∧ t ≤ 64 * m ∧ ∃ z, N' = 2 * z + 1)) (hb : Below w.heap.size w w') :
    RetDy w p N E m (.returned (.agg #[.bool p', .slice a n c, .int .i64 E'])) w' := ⟨p', a, n, c, N', E', t, rfl, h, hv, hb⟩
theorem NewN.var3 {base : Nat} {w w' : World} {v : Value} {N : Int} {m g lo hi : Nat} (h : NewN base w v N m) (ho : Only g lo hi w w') (hb : g < base) : NewN base w' v N m := h.only ho hb

set_option maxRecDepth 100000 in
theorem dsign_num {w : World} (neg : Bool) {a : Option Addr} {n c : Nat} {N : Int} {m : Nat} (E : Int) (h : Num w (.slice a n c) N m) (hm : m ≤ 1000) :
    Calls Tryd.prog 52 #[.agg #[.bool neg, .slice a n c, .int .i64 E]] w fun e w' => RetV w (.int .i64 (cmpI (sg neg N) 0)) e w' := by
  obtain ⟨w1, hw1⟩ : ∃ w1, w.alloc (.cells #[.bool neg, .slice a n c, .int .i64 E] 37) = w1 := ⟨_, rfl⟩
  have hb1 : Below w.heap.size w w1 := hw1 ▸ below_alloc w _
  have hc1 : w1.heap[w.heap.size]? = some (.cells #[.bool neg, .slice a n c, .int .i64 E] 37 (0, 0)) := hw1 ▸ heap_alloc_new w _
  obtain ⟨⟨k0, k1, k2⟩, -⟩ := slot3 hc1
  go_enter Tryd.func52, Tryd.ntmps52
  go_wp2_with fail
  refine (sign_num neg (h.below hb1) (by omega)).mono ?_
  rintro e w2 ⟨rfl, hb⟩
  go_wp2_with fail
  go_ret
  exact ⟨rfl, hb1.trans (hb.mono hb1.size)⟩
end Go.Proofs.YtjmipbljoblnnaaDoor

namespace Go.Proofs.YtjmipbljoblnnaaDoor
open Go.RowKit

theorem one_word {base : Nat} {w : World} {a : Option Addr} {n c : Nat} {V : Int} {m : Nat} (h : NewN base w (.slice a n c) V m) (h0 : V ≠ 0) (hV : V < 18446744073709551616) : ∃ g, a = some ⟨g, 0, none⟩ ∧ n = 1 ∧ 1 ≤ c ∧ w.cell? ⟨g, 0, none⟩ = some (.int .u64 V) := by
  obtain ⟨l, hO, hC, hv, hlen⟩ := h
  have hne : l ≠ [] := by
    intro e
    rw [e] at hv
    exact h0 hv.symm
  have hl1 : l.length ≤ 1 := room_of B64_pos hC (by rw [hv]; exact hV)
  match l, hne, hl1, hO, hv with
  | [x], _, _, hO, hv =>
    obtain ⟨g, n', cap, he, hn', h1, h2, hA, -, -⟩ := ow_row hO (by simp)
    simp only [Value.slice.injEq] at he
    obtain ⟨rfl, rfl, rfl⟩ := he
    rw [vb_one] at hv
    subst hv
    have hc := hA.at'.get (j := 0) (by simp)
    rw [hn'] at h1
    exact ⟨g, rfl, by rw [hn']; rfl, h1, hc⟩

set_option maxRecDepth 100000 in
set_option maxHeartbeats 1200000 in
theorem shorten_down {w : World} {b o n c : Nat} {N V : Int} {m : Nat} (j : Nat) (h : Num w (.slice (some ⟨b, o, none⟩) n c) N m) (hm : m ≤ 1000) (hj0 : 0 < j) (hj : j ≤ 64 * n) (hV : N / 2 ^ j = V) (hV1 : V < 18446744073709551616) :
    Calls Tryd.prog 58 #[.slice (some ⟨b, o, none⟩) n c, .int .i64 (j : Int)] w fun e w' => RetV w (.int .u64 V) e w' := by
  have hnm : n ≤ c ∧ n ≤ m := by
    obtain ⟨a', n', c', l, he, h1, h2, h3, hrd, hl, hv, hm'⟩ := h.open
    cases he
    exact ⟨h2, hm'⟩
  obtain ⟨hnc, hnm⟩ := hnm
  obtain ⟨k, hk⟩ : ∃ k, j / 64 = k := ⟨_, rfl⟩
  obtain ⟨i, hi⟩ : ∃ i, j % 64 = i := ⟨_, rfl⟩
  have hkn : k ≤ n := by omega
  have hjI : (0 : Int) < (j : Int) := by omega
  have hjB : (j : Int) ≤ 64000 := by omega
  have hiI : (j : Int) % 64 = (i : Int) := by omega
  have hval : N / B64 ^ k / 2 ^ i = V := by
    have e : (2 : Int) ^ j = B64 ^ k * 2 ^ i := by
      rw [show j = 64 * k + i by omega, Int.pow_add, Int.pow_mul]; rfl
    rw [← hV, e, Int.ediv_ediv_of_nonneg (Int.le_of_lt (pow_pos' B64_pos k))]
  have hV0 : 0 ≤ V := by
    rw [← hV]; exact Int.ediv_nonneg h.nonneg (Int.le_of_lt (pow2_pos j))
  have key : ∀ ad : Option Addr, Num w (.slice ad (n - k) (c - k)) (N / B64 ^ k) m → Hid (Calls Tryd.prog 64 #[.slice ad (n - k) (c - k), .int .i64 (i : Int)] w fun e w' => RetN w V m e w') := by
    intro ad hh
    have := shr_num i hh (by omega) (by omega)
    rw [hval] at this
    exact Lib.hid this
  have hC := drop_num h hkn
  have H1 := key _ hC
  have hC2 : k = n → Num w (.slice (some ⟨b, o, none⟩) (n - k) (c - k)) (N / B64 ^ k) m := by
    intro e
    obtain ⟨a', n', c', l, he, h1, h2, h3, hrd, hl, hv, hm'⟩ := hC.open
    cases he
    have hl0 : l = [] := List.eq_nil_of_length_eq_zero (by omega)
    exact ⟨[], ⟨some ⟨b, o, none⟩, c - k, by rw [e, Nat.sub_self]; rfl, Nat.zero_le _, by omega, Rd.nil _ _, Lim.nil _⟩, by rw [← hv, hl0], Nat.zero_le _⟩
  have H2 : k = n → Hid (Calls Tryd.prog 64 #[.slice (some ⟨b, o, none⟩) (n - k) (c - k), .int .i64 (i : Int)] w fun e w' => RetN w V m e w') := fun e => key _ (hC2 e)
  clear hC hC2 key hval hV h hj hi hm
  have fin : ∀ (w3 : World) (a' : Option Addr) (n' c' : Nat), NewN w.heap.size w3 (.slice a' n' c') V m → (V = 0 ∧ n' = 0) ∨ (V ≠ 0 ∧ ∃ g, a' = some ⟨g, 0, none⟩ ∧ n' = 1 ∧ 1 ≤ c' ∧ w3.cell? ⟨g, 0, none⟩ = some (.int .u64 V)) := by
    intro w3 a' n' c' hS
    by_cases h0 : V = 0
    · exact Or.inl ⟨h0, hS.len.1.2 h0⟩
    · exact Or.inr ⟨h0, one_word hS h0 hV1⟩
  have HF := Lib.hid fin
  clear fin
  by_cases hck : c = k
  · have HH : Hid (Calls Tryd.prog 64 #[.slice (some ⟨b, o, none⟩) 0 0, .int .i64 (i : Int)] w fun e w' => RetN w V m e w') := by
      have := H2 (by omega)
      rwa [show n - k = 0 by omega, show c - k = 0 by omega] at this
    have hkn2 : k = n := by omega
    clear H1 H2
    go_enter Tryd.func58, Tryd.ntmps58
    go_wp2_with fail
    refine HH.out.mono ?_
    rintro e w3 ⟨a', n', c', rfl, hS, hb3⟩
    rcases HF.out w3 a' n' c' hS with ⟨rfl, rfl⟩ | ⟨-, g, rfl, rfl, hc1, hcl⟩
    · clear hS
      go_wp2_with fail
      go_ret
      exact ⟨rfl, hb3⟩
    · clear hS
      go_wp2_with fail
      go_ret
      exact ⟨rfl, hb3⟩
  · clear H2
    go_enter Tryd.func58, Tryd.ntmps58
    go_wp2_with fail
    refine H1.out.mono ?_
    rintro e w3 ⟨a', n', c', rfl, hS, hb3⟩
    rcases HF.out w3 a' n' c' hS with ⟨rfl, rfl⟩ | ⟨-, g, rfl, rfl, hc1, hcl⟩
    · clear hS
      go_wp2_with fail
      go_ret
      exact ⟨rfl, hb3⟩
    · clear hS
      go_wp2_with fail
      go_ret
      exact ⟨rfl, hb3⟩

set_option maxRecDepth 100000 in
set_option maxHeartbeats 1200000 in
theorem shorten_up {w : World} {a : Option Addr} {n c : Nat} {N V : Int} {m p : Nat} (j : Nat) (h : Num w (.slice a n c) N m) (hm : m ≤ 1000) (hj : j ≤ 100000) (hp : m + j / 64 + 1 ≤ p) (hV : N * 2 ^ j = V) (hV1 : V < 18446744073709551616) :
    Calls Tryd.prog 58 #[.slice a n c, .int .i64 (-(j : Int))] w fun e w' => RetV w (.int .u64 V) e w' := by
  have HH := Lib.hid (shr_neg_num (p := p) j h (by omega) hp (by omega))
  rw [hV] at HH
  have fin : ∀ (w3 : World) (a' : Option Addr) (n' c' : Nat), NewN w.heap.size w3 (.slice a' n' c') V p → (V = 0 ∧ n' = 0) ∨ (V ≠ 0 ∧ ∃ g, a' = some ⟨g, 0, none⟩ ∧ n' = 1 ∧ 1 ≤ c' ∧ w3.cell? ⟨g, 0, none⟩ = some (.int .u64 V)) := by
    intro w3 a' n' c' hS
    by_cases h0 : V = 0
    · exact Or.inl ⟨h0, hS.len.1.2 h0⟩
    · exact Or.inr ⟨h0, one_word hS h0 hV1⟩
  have HF := Lib.hid fin
  have hj0 : ¬ 0 < -(j : Int) := by omega
  clear fin hV h
  go_enter Tryd.func58, Tryd.ntmps58
  go_wp2_with fail
  refine HH.out.mono ?_
  rintro e w3 ⟨a', n', c', rfl, hS, hb3⟩
  rcases HF.out w3 a' n' c' hS with ⟨rfl, rfl⟩ | ⟨-, g, rfl, rfl, hc1, hcl⟩
  · clear hS
    go_wp2_with fail
    go_ret
    exact ⟨rfl, hb3⟩
  · clear hS
    go_wp2_with fail
    go_ret
    exact ⟨rfl, hb3⟩
end Go.Proofs.YtjmipbljoblnnaaDoor

namespace Go.Proofs.YtjmipbljoblnnaaDoor
open Go.RowKit

theorem un_pack {L man : Nat} (h : man ≤ 9007199254740992) (h2 : 4503599627370496 ≤ man ∨ L = 0) : un (L * 4503599627370496 + man) = man * 2 ^ L := by
  unfold un
  by_cases h1 : man < 4503599627370496
  · have hL : L = 0 := by omega
    subst hL
    rw [Nat.zero_mul, Nat.zero_add, if_pos h1, Nat.pow_zero, Nat.mul_one]
  · rw [if_neg (by omega)]
    by_cases h3 : man = 9007199254740992
    · subst h3
      have e1 : (L * 4503599627370496 + 9007199254740992) % 4503599627370496 = 0 := by omega
      have e2 : (L * 4503599627370496 + 9007199254740992) / 4503599627370496 - 1 = L + 1 := by omega
      rw [e1, e2, Nat.pow_succ]
      have := Nat.two_pow_pos L
      generalize 2 ^ L = P at *
      omega
    · have e1 : (L * 4503599627370496 + man) % 4503599627370496 = man - 4503599627370496 := by omega
      have e2 : (L * 4503599627370496 + man) / 4503599627370496 - 1 = L := by omega
      rw [e1, e2, show 4503599627370496 + (man - 4503599627370496) = man by omega]
/-- A rung lies next to an amount times a power of two, towards zero. -/
structure TZ (R : Nat) (ex : Bool) (N E : Int) : Prop where
  lt : R < INF
  eq : ex = true → ∀ K : Nat, 1074 ≤ K → 0 ≤ E + K → (un R : Int) * 2 ^ (K - 1074) = N * 2 ^ (E + K).toNat
  gt : ex = false → ∀ K : Nat, 1074 ≤ K → 0 ≤ E + K → (un R : Int) * 2 ^ (K - 1074) < N * 2 ^ (E + K).toNat ∧ (R + 1 < INF → N * 2 ^ (E + K).toNat < (un (R + 1) : Int) * 2 ^ (K - 1074))
def RetTZ (w : World) (N E : Int) (e : Ending) (w' : World) : Prop := ∃ (R : Nat) (ex : Bool), e = .returned (.tuple #[.float .f64 R, .bool ex]) ∧ TZ R ex N E ∧ Below w.heap.size w w'
theorem pow_split2 {a b c : Nat} (h : a + b = c) : (2 : Int) ^ c = 2 ^ a * 2 ^ b := by rw [← h, Int.pow_add]
theorem cast_pow2 (a q : Nat) : ((a * 2 ^ q : Nat) : Int) = (a : Int) * 2 ^ q := by rw [Int.natCast_mul, Int.natCast_pow]; rfl
theorem un_max (L : Nat) (hL : L = 2045) : (un 9218868437227405311 : Int) = 9007199254740991 * 2 ^ L := by
  have h := un_pack (L := L) (man := 9007199254740991) (by decide) (Or.inl (by decide))
  rw [show L * 4503599627370496 + 9007199254740991 = 9218868437227405311 by omega] at h
  rw [h, cast_pow2]
  exact congrArg (· * (2 : Int) ^ L) (rfl : ((9007199254740991 : Nat) : Int) = 9007199254740991)
/-- The cut of a number of more bits than a float64 holds. -/
theorem tz_cut {N E : Int} {j L man t : Nat} (hN : 0 < N) (hm0 : (man : Int) = N / 2 ^ j) (hL : (L : Int) = j + E + 1074) (hm1 : man < 9007199254740992) (hm2 : 4503599627370496 ≤ man ∨ L = 0) (hL2 : L ≤ 2045) (ht : LowOf N t) :
    TZ (L * 4503599627370496 + man) (decide (j ≤ t)) N E := by
  have e1 := Int.mul_ediv_add_emod N (2 ^ j)
  have e2 := Int.emod_lt_of_pos N (pow2_pos j)
  have e3 := Int.emod_nonneg N (by have := pow2_pos j; omega : (2 : Int) ^ j ≠ 0)
  rw [← hm0] at e1
  have hlow : N % 2 ^ j = 0 ↔ j ≤ t := by
    rcases ht with ⟨h1, -⟩ | ⟨-, z, hz⟩
    · omega
    · constructor
      · intro h0
        by_cases hk : j ≤ t
        · exact hk
        · exfalso
          obtain ⟨d, rfl⟩ := Nat.le.dest (show t + 1 ≤ j by omega)
          rw [h0, Int.add_zero] at e1
          have hp2 : (2 : Int) ^ (t + 1 + d) = 2 ^ t * (2 * 2 ^ d) := by rw [Int.pow_add, Int.pow_succ]; grind
          rw [hz, hp2, Int.mul_assoc] at e1
          have hpt := pow2_pos t
          have e4 := Int.eq_of_mul_eq_mul_left (by omega) e1
          rw [Int.mul_assoc] at e4
          omega
      · intro hk
        obtain ⟨d, rfl⟩ := Nat.le.dest hk
        rw [hz, Int.pow_add, Int.mul_assoc]
        exact Int.mul_emod_right _ _
  have hR : L * 4503599627370496 + man < INF := by unfold INF; omega
  have hu : (un (L * 4503599627370496 + man) : Int) = (man : Int) * 2 ^ L := by
    rw [un_pack (by omega) hm2, Int.natCast_mul, Int.natCast_pow]; rfl
  have hu1 : (un (L * 4503599627370496 + man + 1) : Int) = ((man : Int) + 1) * 2 ^ L := by
    rw [Nat.add_assoc, un_pack (by omega) (by omega), Int.natCast_mul, Int.natCast_pow, Int.natCast_add]; rfl
  have hpw : ∀ K : Nat, 1074 ≤ K → 0 ≤ E + K → (2 : Int) ^ L * 2 ^ (K - 1074) = 2 ^ j * 2 ^ (E + K).toNat := by
    intro K h1 h2
    rw [← Int.pow_add, ← Int.pow_add]
    exact congrArg (fun n : Nat => (2 : Int) ^ n) (by omega)
  refine ⟨hR, fun hx K h1 h2 => ?_, fun hx K h1 h2 => ?_⟩
  · have h0 := hlow.2 (by simpa using hx)
    rw [h0, Int.add_zero] at e1
    rw [hu, Int.mul_assoc, hpw K h1 h2, ← Int.mul_assoc, Int.mul_comm (man : Int), e1]
  · have h0 : N % 2 ^ j ≠ 0 := fun h => by
      have := hlow.1 h
      simp at hx; omega
    have hP := pow2_pos (E + K).toNat
    rw [hu, hu1, Int.mul_assoc, Int.mul_assoc, hpw K h1 h2, ← Int.mul_assoc, ← Int.mul_assoc, Int.mul_comm (man : Int), Int.mul_comm ((man : Int) + 1)]
    refine ⟨Int.mul_lt_mul_of_pos_right (by omega) hP, fun _ => Int.mul_lt_mul_of_pos_right ?_ hP⟩
    rw [Int.mul_add, Int.mul_one]; omega
/-- A number that a float64 holds with bits to spare. -/
theorem tz_whole {N E : Int} {j L man : Nat} (hm0 : (man : Int) = N * 2 ^ j) (hL : (L : Int) + j = E + 1074) (hm1 : man < 9007199254740992) (hm2 : 4503599627370496 ≤ man ∨ L = 0) (hL2 : L ≤ 2045) :
    TZ (L * 4503599627370496 + man) true N E := by
  have hR : L * 4503599627370496 + man < INF := by unfold INF; omega
  have hu : (un (L * 4503599627370496 + man) : Int) = (man : Int) * 2 ^ L := by
    rw [un_pack (by omega) hm2, Int.natCast_mul, Int.natCast_pow]; rfl
  refine ⟨hR, fun _ K h1 h2 => ?_, fun hx => by cases hx⟩
  rw [hu, hm0, Int.mul_assoc, Int.mul_assoc, ← Int.pow_add, ← Int.pow_add]
  exact congrArg (fun n : Nat => N * (2 : Int) ^ n) (by omega)
theorem tz_big {N E : Int} (hN : 0 < N) (hE : E > 1024 - (nb N : Int)) : TZ 9218868437227405311 false N E := by
  obtain ⟨h1, h2, h3⟩ := nb_spec hN
  refine ⟨by decide, fun h => (by cases h), fun _ K hK hEK => ⟨?_, fun h => absurd h (by decide)⟩⟩
  obtain ⟨L, hL⟩ : ∃ L : Nat, L = 2045 := ⟨_, rfl⟩
  rw [un_max L hL]
  obtain ⟨q, hq⟩ : ∃ q, (E + K).toNat = q := ⟨_, rfl⟩
  obtain ⟨s, hs⟩ : ∃ s, K - 1074 = s := ⟨_, rfl⟩
  have hge : 53 + (L + s) ≤ nb N - 1 + q := by omega
  rw [hq, hs]
  have e1 : (2 : Int) ^ (nb N - 1) * 2 ^ q ≤ N * 2 ^ q := Int.mul_le_mul_of_nonneg_right h1 (Int.le_of_lt (pow2_pos q))
  rw [← Int.pow_add] at e1
  have e2 : (2 : Int) ^ (53 + (L + s)) ≤ 2 ^ (nb N - 1 + q) := pow_le_pow (by decide) hge
  have e3 : (9007199254740991 : Int) * 2 ^ L * 2 ^ s < 2 ^ (53 + (L + s)) := by
    rw [Int.pow_add, Int.mul_assoc, ← Int.pow_add]
    exact Int.mul_lt_mul_of_pos_right (by decide) (pow2_pos _)
  omega
theorem tz_small {N E : Int} (hN : 0 < N) (hE : E < -1074 - (nb N : Int)) : TZ 0 false N E := by
  obtain ⟨h1, h2, h3⟩ := nb_spec hN
  refine ⟨by decide, fun h => (by cases h), fun _ K hK hEK => ?_⟩
  obtain ⟨q, hq⟩ : ∃ q, (E + K).toNat = q := ⟨_, rfl⟩
  obtain ⟨s, hs⟩ : ∃ s, K - 1074 = s := ⟨_, rfl⟩
  rw [hq, hs]
  refine ⟨?_, fun _ => ?_⟩
  · rw [un_zero]
    have := Int.mul_pos hN (pow2_pos q)
    simpa using this
  · have e0 : (un (0 + 1) : Int) = 1 := by decide
    rw [e0, Int.one_mul]
    have e1 : N * 2 ^ q < 2 ^ nb N * 2 ^ q := Int.mul_lt_mul_of_pos_right h2 (pow2_pos q)
    rw [← Int.pow_add] at e1
    have e2 : (2 : Int) ^ (nb N + q) ≤ 2 ^ s := pow_le_pow (by decide) (by omega)
    omega
theorem tz_zero (E : Int) : TZ 0 true 0 E := by
  refine ⟨by decide, fun _ K _ _ => ?_, fun h => by cases h⟩
  rw [un_zero]; simp

set_option maxRecDepth 100000 in
set_option maxHeartbeats 1200000 in
theorem tz_num {w : World} {a : Option Addr} {n c : Nat} {N : Int} {m : Nat} (E : Int) (h : Num w (.slice a n c) N m) (hm : m ≤ 1000) (hE0 : -1000000 ≤ E) (hE1 : E ≤ 1000000) (hT : Tab64 w) :
    Calls Tryd.prog 51 #[.slice a n c, .int .i64 E] w fun e w' => RetTZ w N E e w' := by
  have h0 := h.nonneg
  obtain ⟨B, hB⟩ : ∃ B, nb N = B := ⟨_, rfl⟩
  have HBits := Lib.hid (bits_num h (by omega))
  rw [hB] at HBits
  by_cases hN : N = 0
  · subst hN
    obtain rfl : B = 0 := by rw [← hB]; rfl
    have HR : Hid (TZ 0 true 0 E) := Lib.hid (tz_zero E)
    clear hB h
    go_enter Tryd.func51, Tryd.ntmps51
    go_wp2_with fail
    refine HBits.out.mono ?_
    rintro e w' ⟨rfl, rfl⟩
    go_wp2_with fail
    go_ret2
    exact ⟨0, true, rfl, HR.out, Below.refl _ _⟩
  · have hNp : 0 < N := by omega
    obtain ⟨g1, g2, g3⟩ := nb_spec hNp
    rw [hB] at g1 g2 g3
    have hBz : ((B : Int) == 0) = false := by simp; omega
    have hBm : B ≤ 64 * m := by
      rw [← hB]
      refine nb_le ?_
      have := h.lt
      rwa [show (B64 : Int) ^ m = 2 ^ (64 * m) by rw [Int.pow_mul]; rfl] at this
    by_cases hbig : E > 1024 - (B : Int)
    · have HR : Hid (TZ 9218868437227405311 false N E) := Lib.hid (tz_big hNp (by rw [hB]; exact hbig))
      clear hB h g1 g2 g3 hNp hN
      go_enter Tryd.func51, Tryd.ntmps51
      go_wp2_with fail
      refine HBits.out.mono ?_
      rintro e w' ⟨rfl, rfl⟩
      go_wp2_with fail
      go_ret2
      exact ⟨_, false, rfl, HR.out, Below.refl _ _⟩
    · by_cases hsm : E < -1074 - (B : Int)
      · have HR : Hid (TZ 0 false N E) := Lib.hid (tz_small hNp (by rw [hB]; exact hsm))
        clear hB h g1 g2 g3 hNp hN
        go_enter Tryd.func51, Tryd.ntmps51
        go_wp2_with fail
        refine HBits.out.mono ?_
        rintro e w' ⟨rfl, rfl⟩
        go_wp2_with fail
        go_ret2
        exact ⟨_, false, rfl, HR.out, Below.refl _ _⟩
      · have HG := Lib.hid (And.intro g1 (And.intro g2 (And.intro hNp hB)))
        clear hB g1 g2 hNp
        obtain ⟨last, hlast⟩ : ∃ last, max ((B : Int) + E - 53) (-1074) = last := ⟨_, rfl⟩
        have hl1 : -1074 ≤ last ∧ last ≤ 971 ∧ (B : Int) + E - 53 ≤ last ∧ (last = (B : Int) + E - 53 ∨ last = -1074) := by omega
        go_enter Tryd.func51, Tryd.ntmps51
        go_wp2_with fail
        refine HBits.out.mono ?_
        rintro e w' ⟨rfl, rfl⟩
        by_cases hn : 0 < last - E
        · obtain ⟨j, hj⟩ := Int.eq_ofNat_of_zero_le (show 0 ≤ last - E by omega)
          obtain ⟨L, hL⟩ := Int.eq_ofNat_of_zero_le (show 0 ≤ last + 1074 by omega)
          have hj0 : 0 < j := by omega
          obtain ⟨hG1, hG2, hG3, hG4⟩ := HG.out
          have hpj := pow2_pos j
          have hVlt : N / 2 ^ j < 9007199254740992 := by
            refine Int.ediv_lt_of_lt_mul hpj ?_
            have e1 : (2 : Int) ^ B ≤ 2 ^ (53 + j) := pow_le_pow (by decide) (by omega)
            rw [Int.pow_add] at e1
            have e2 : (2 : Int) ^ 53 = 9007199254740992 := by decide
            rw [e2] at e1
            omega
          have hVge : 4503599627370496 ≤ N / 2 ^ j ∨ L = 0 := by
            rcases hl1.2.2.2 with e | e
            · left
              refine Int.le_ediv_of_mul_le hpj ?_
              have e1 : (2 : Int) ^ (52 + j) ≤ 2 ^ (B - 1) := pow_le_pow (by decide) (by omega)
              rw [Int.pow_add] at e1
              have e2 : (2 : Int) ^ 52 = 4503599627370496 := by decide
              rw [e2] at e1
              omega
            · right; omega
          have hV0 : 0 ≤ N / 2 ^ j := Int.ediv_nonneg h0 (Int.le_of_lt hpj)
          obtain ⟨b, o, rfl⟩ : ∃ b o, a = some ⟨b, o, none⟩ := by
            obtain ⟨a', n', c', l, he, h1, h2, h3, hrd, hl, hv, hm'⟩ := h.open
            cases he
            have hne : l ≠ [] := by
              intro e
              rw [e] at hv
              exact hN hv.symm
            obtain ⟨b, o, rfl, -⟩ := hrd.cases hne
            exact ⟨b, o, rfl⟩
          have hBn : B ≤ 64 * n := by
            obtain ⟨a', n', c', l, he, h1, h2, h3, hrd, hl, hv, hm'⟩ := h.open
            cases he
            rw [← hG4]
            refine nb_le ?_
            have := vb_lt B64_pos hl
            rw [hv, ← h1] at this
            rwa [show (B64 : Int) ^ n = 2 ^ (64 * n) by rw [Int.pow_mul]; rfl] at this
          obtain ⟨V, hV⟩ := Int.eq_ofNat_of_zero_le hV0
          have HSH := Lib.hid (shorten_down j h hm hj0 (by omega) hV (by omega))
          have hV53 : V < 9007199254740992 := by omega
          have hL2 : L ≤ 2045 := by omega
          have HTZ : Hid (∀ t, LowOf N t → TZ (L * 4503599627370496 + V) (decide (j ≤ t)) N E) :=
            Lib.hid fun t ht => tz_cut hG3 hV.symm (by omega) hV53 (by omega) hL2 ht
          have hsub : last - -1074 = (L : Int) := by omega
          clear hG1 hG2 hG4 hpj hVlt hVge hV0 hV hBn hl1 hL
          go_wp2_with fail
          refine HSH.out.mono ?_
          rintro e w3 ⟨rfl, hb3⟩
          go_wp2_with (simp only [frombits_run])
          refine (lowall_num (h.below hb3) hm (hT.below hb3)).mono ?_
          rintro e w4 ⟨t, rfl, ht, rfl⟩
          have HR := Lib.hid (HTZ.out t ht)
          clear HTZ ht
          go_wp2_with fail
          go_ret2
          exact ⟨_, decide (j ≤ t), rfl, HR.out, hb3⟩
        · obtain ⟨j, hj⟩ := Int.eq_ofNat_of_zero_le (show 0 ≤ E - last by omega)
          have hj' : last - E = -(j : Int) := by omega
          obtain ⟨L, hL⟩ := Int.eq_ofNat_of_zero_le (show 0 ≤ last + 1074 by omega)
          obtain ⟨hG1, hG2, hG3, hG4⟩ := HG.out
          have hpj := pow2_pos j
          have hjs : j ≤ 53 := by omega
          have hVlt : N * 2 ^ j < 9007199254740992 := by
            have e1 : N * 2 ^ j < 2 ^ B * 2 ^ j := Int.mul_lt_mul_of_pos_right hG2 hpj
            rw [← Int.pow_add] at e1
            have e3 : (2 : Int) ^ (B + j) ≤ 2 ^ 53 := pow_le_pow (by decide) (by omega)
            have e2 : (2 : Int) ^ 53 = 9007199254740992 := by decide
            rw [e2] at e3
            omega
          have hVge : 4503599627370496 ≤ N * 2 ^ j ∨ L = 0 := by
            rcases hl1.2.2.2 with e | e
            · left
              have e1 : 2 ^ (B - 1) * 2 ^ j ≤ N * 2 ^ j := Int.mul_le_mul_of_nonneg_right hG1 (Int.le_of_lt hpj)
              rw [← Int.pow_add] at e1
              have e3 : (2 : Int) ^ 52 ≤ 2 ^ (B - 1 + j) := pow_le_pow (by decide) (by omega)
              have e2 : (2 : Int) ^ 52 = 4503599627370496 := by decide
              rw [e2] at e3
              omega
            · right; omega
          have hV0 : 0 ≤ N * 2 ^ j := Int.mul_nonneg h0 (Int.le_of_lt hpj)
          obtain ⟨V, hV⟩ := Int.eq_ofNat_of_zero_le hV0
          have HSH := Lib.hid (shorten_up (p := m + 2) j h hm (by omega) (by omega) hV (by omega))
          have hV53 : V < 9007199254740992 := by omega
          have hL2 : L ≤ 2045 := by omega
          have HTZ : Hid (TZ (L * 4503599627370496 + V) true N E) :=
            Lib.hid (tz_whole hV.symm (by omega) hV53 (by omega) hL2)
          have hsub : last - -1074 = (L : Int) := by omega
          clear hG1 hG2 hG3 hG4 hpj hVlt hVge hV0 hV hl1 hL hj
          go_wp2_with fail
          refine HSH.out.mono ?_
          rintro e w3 ⟨rfl, hb3⟩
          go_wp2_with (simp only [frombits_run])
          refine (lowall_num (h.below hb3) hm (hT.below hb3)).mono ?_
          rintro e w4 ⟨t, rfl, ht, rfl⟩
          have hdec : decide (-(j : Int) ≤ (t : Int)) = true := decide_eq_true (by omega)
          clear ht
          go_wp2_with fail
          go_ret2
          exact ⟨_, true, rfl, HTZ.out, hb3⟩
end Go.Proofs.YtjmipbljoblnnaaDoor

namespace Go.Proofs.YtjmipbljoblnnaaDoor
open Go.RowKit

theorem TZ.unique {R R' : Nat} {ex ex' : Bool} {N E : Int} (h : TZ R ex N E) (g : TZ R' ex' N E) : R = R' ∧ ex = ex' := by
  obtain ⟨K, hK⟩ : ∃ K : Nat, K = 1074 + E.natAbs := ⟨_, rfl⟩
  have h1 : 1074 ≤ K := by omega
  have h2 : 0 ≤ E + K := by omega
  have hs := pow2_pos (K - 1074)
  have mono : ∀ {a b : Nat}, a ≤ b → (un a : Int) * 2 ^ (K - 1074) ≤ (un b : Int) * 2 ^ (K - 1074) := fun {a b} hab => Int.mul_le_mul_of_nonneg_right (by have := un_le hab; omega) (Int.le_of_lt hs)
  have smono : ∀ {a b : Nat}, a < b → (un a : Int) * 2 ^ (K - 1074) < (un b : Int) * 2 ^ (K - 1074) := fun {a b} hab => Int.mul_lt_mul_of_pos_right (by have := un_lt hab; omega) hs
  cases ex <;> cases ex'
  · refine ⟨?_, rfl⟩
    obtain ⟨a1, a2⟩ := h.gt rfl K h1 h2
    obtain ⟨b1, b2⟩ := g.gt rfl K h1 h2
    rcases Nat.lt_trichotomy R R' with hr | hr | hr
    · have := a2 (by have := g.lt; omega)
      have := mono (show R + 1 ≤ R' from hr)
      omega
    · exact hr
    · have := b2 (by have := h.lt; omega)
      have := mono (show R' + 1 ≤ R from hr)
      omega
  · exfalso
    obtain ⟨a1, a2⟩ := h.gt rfl K h1 h2
    have b1 := g.eq rfl K h1 h2
    rcases Nat.lt_or_ge R R' with hr | hr
    · have := a2 (by have := g.lt; omega)
      have := mono (show R + 1 ≤ R' from hr)
      omega
    · have := mono hr
      omega
  · exfalso
    obtain ⟨a1, a2⟩ := g.gt rfl K h1 h2
    have b1 := h.eq rfl K h1 h2
    rcases Nat.lt_or_ge R' R with hr | hr
    · have := a2 (by have := h.lt; omega)
      have := mono (show R' + 1 ≤ R from hr)
      omega
    · have := mono hr
      omega
  · refine ⟨?_, rfl⟩
    have a1 := h.eq rfl K h1 h2
    have b1 := g.eq rfl K h1 h2
    rcases Nat.lt_trichotomy R R' with hr | hr | hr
    · have := smono hr; omega
    · exact hr
    · have := smono hr; omega

/-- The word that a rung stands for with a sign; nought has none. -/
def sgW (neg : Bool) (R : Nat) : Nat := match neg with
  | false => R
  | true => if R = 0 then 0 else 9223372036854775808 + R
/-- What Float gives. -/
def floW (neg : Bool) (R : Nat) (ex down : Bool) : Nat := if (ex || neg != down) = true then sgW neg R else stepW (sgW neg R) down
def RetF (w : World) (neg : Bool) (N E : Int) (down : Bool) (e : Ending) (w' : World) : Prop := ∃ (R : Nat) (ex : Bool), e = .returned (.float .f64 (floW neg R ex down)) ∧ TZ R ex N E ∧ Below w.heap.size w w'
theorem sgW_lt {neg : Bool} {R : Nat} (h : R < INF) : sgW neg R < 18446744073709551616 ∧ rg (sgW neg R) = R := by
  unfold INF at *
  cases neg
  · show R < 18446744073709551616 ∧ rg R = R
    exact ⟨by omega, (rg_pos (by omega)).1⟩
  · show (if R = 0 then 0 else 9223372036854775808 + R) < _ ∧ rg (if R = 0 then 0 else 9223372036854775808 + R) = R
    by_cases h0 : R = 0
    · rw [if_pos h0, h0]; exact ⟨by decide, by decide⟩
    · rw [if_neg h0]; exact ⟨by omega, (rg_neg (by omega)).1⟩
theorem fsub_run {P : Program} {t : TypeId} {R : Nat} (h : R < INF) (w : World) : (binOp .sub t (.float .f64 0) (.float .f64 R)).run P w = .ok (.float .f64 (sgW true R)) w := by
  by_cases h0 : R = 0
  · subst h0
    exact run_float_arith w .sub t .f64 0 0 0 sub_zero
  · rw [show sgW true R = 9223372036854775808 + R from if_neg h0]
    exact run_float_arith w .sub t .f64 0 R _ (sub_word h0 h)

set_option maxRecDepth 100000 in
set_option maxHeartbeats 1200000 in
theorem float_num {w : World} (p : Bool) {a : Option Addr} {n c : Nat} {N : Int} {m : Nat} (E dir : Int) (h : Num w (.slice a n c) N m) (hm : m ≤ 1000) (hE0 : -1000000 ≤ E) (hE1 : E ≤ 1000000) (hT : Tab64 w) :
    Calls Tryd.prog 38 #[.agg #[.bool p, .slice a n c, .int .i64 E], .int .i64 dir] w fun e w' => RetF w (p && decide (N ≠ 0)) N E (decide (dir < 0)) e w' := by
  obtain ⟨w1, hw1⟩ : ∃ w1, w.alloc (.cells #[.bool p, .slice a n c, .int .i64 E] 37) = w1 := ⟨_, rfl⟩
  have hb1 : Below w.heap.size w w1 := hw1 ▸ below_alloc w _
  have hc1 : w1.heap[w.heap.size]? = some (.cells #[.bool p, .slice a n c, .int .i64 E] 37 (0, 0)) := hw1 ▸ heap_alloc_new w _
  replace h := h.below hb1
  replace hT := hT.below hb1
  obtain ⟨neg, hneg⟩ : ∃ neg, (p && decide (N ≠ 0)) = neg := ⟨_, rfl⟩
  have hsg : decide (cmpI (sg p N) 0 < 0) = neg := by
    have h0 := h.nonneg
    rw [← hneg]
    by_cases e : N = 0
    · rw [e, cmpI_eq (by cases p <;> rfl)]; cases p <;> rfl
    · rw [decide_eq_true e, Bool.and_true]
      cases p
      · rw [sg_false, cmpI_gt (by omega)]; rfl
      · rw [sg_true, cmpI_lt (by omega)]; rfl
  obtain ⟨s, hs⟩ : ∃ s, cmpI (sg p N) 0 = s := ⟨_, rfl⟩
  rw [hneg]
  rw [hs] at hsg
  have HS := fun (w2 : World) (hb : Below w1.heap.size w1 w2) => Lib.hid (dsign_num (w := w2) p E (h.below hb) hm)
  rw [hs] at HS
  have HTZ := Lib.hid (tz_num E h hm hE0 hE1 hT)
  obtain ⟨⟨k0, k1, k2⟩, -⟩ := slot3 hc1
  obtain ⟨down, hdn⟩ : ∃ down, decide (dir < 0) = down := ⟨_, rfl⟩
  rw [hdn]
  have HDN := Lib.hid hdn
  clear hneg hs h hdn
  go_enter Tryd.func38, Tryd.ntmps38
  go_wp2_with fail
  refine HTZ.out.mono ?_
  rintro e w2 ⟨R, ex, rfl, htz, hb2⟩
  have HR := Lib.hid htz
  have hRI := htz.lt
  have hc2 := slot_kept hc1 hb2
  clear k0 k1 k2 htz HTZ
  obtain ⟨⟨k0, k1, k2⟩, -⟩ := slot3 hc2
  have hbw2 := hb1.trans (hb2.mono hb1.size)
  go_wp2_with fail
  refine (HS w2 hb2).out.mono ?_
  rintro e w3 ⟨rfl, hb3⟩
  have hbw3 := hbw2.trans (hb3.mono hbw2.size)
  have HST : ∀ b, b < 18446744073709551616 → rg b ≤ INF → Hid (Calls Tryd.prog 50 #[.float .f64 b, .int .i64 dir] w3 fun e w' => RetB w3 (.float .f64 (stepW b down)) e w') := by
    intro b h1 h2
    rw [← HDN.out]
    exact Lib.hid (step_num b dir w3 h1 h2)
  have hS1 := sgW_lt (neg := true) hRI
  have hS0 := sgW_lt (neg := false) hRI
  have H1 := HST _ hS1.1 (by rw [hS1.2]; exact Nat.le_of_lt hRI)
  have H0 := HST _ hS0.1 (by rw [hS0.2]; exact Nat.le_of_lt hRI)
  have e0 : sgW false R = R := rfl
  rw [e0] at H0
  have HRI := Lib.hid hRI
  have hdn := HDN.out
  clear HST hS1 hS0 e0 HS hc1 hc2 hRI HDN
  cases neg <;> cases ex <;> cases down
  · have hd' : ¬ dir < 0 := by simpa using hdn
    have hs' : ¬ s < 0 := by simpa using hsg
    have hfl : floW false R false false = (stepW R false) := by rfl
    have HFL := Lib.hid hfl
    clear hfl
    go_wp2_with ((go_at_call 50; refine H0.out.mono ?_; rintro e w' ⟨rfl, rfl⟩))
    go_ret
    exact ⟨R, _, (rfl : _ = Ending.returned (Value.float .f64 (stepW R false))).trans (congrArg (fun x => Ending.returned (Value.float FloatKind.f64 x)) HFL.out.symm), HR.out, hbw3⟩
  · have hd' : dir < 0 := by simpa using hdn
    have hs' : ¬ s < 0 := by simpa using hsg
    have hfl : floW false R false true = R := by rfl
    have HFL := Lib.hid hfl
    clear hfl
    go_wp2_with fail
    go_ret
    exact ⟨R, _, (rfl : _ = Ending.returned (Value.float .f64 R)).trans (congrArg (fun x => Ending.returned (Value.float FloatKind.f64 x)) HFL.out.symm), HR.out, hbw3⟩
  · have hd' : ¬ dir < 0 := by simpa using hdn
    have hs' : ¬ s < 0 := by simpa using hsg
    have hfl : floW false R true false = R := by rfl
    have HFL := Lib.hid hfl
    clear hfl
    go_wp2_with fail
    go_ret
    exact ⟨R, _, (rfl : _ = Ending.returned (Value.float .f64 R)).trans (congrArg (fun x => Ending.returned (Value.float FloatKind.f64 x)) HFL.out.symm), HR.out, hbw3⟩
  · have hd' : dir < 0 := by simpa using hdn
    have hs' : ¬ s < 0 := by simpa using hsg
    have hfl : floW false R true true = R := by rfl
    have HFL := Lib.hid hfl
    clear hfl
    go_wp2_with fail
    go_ret
    exact ⟨R, _, (rfl : _ = Ending.returned (Value.float .f64 R)).trans (congrArg (fun x => Ending.returned (Value.float FloatKind.f64 x)) HFL.out.symm), HR.out, hbw3⟩
  · have hd' : ¬ dir < 0 := by simpa using hdn
    have hs' : s < 0 := by simpa using hsg
    have hfl : floW true R false false = (sgW true R) := by rfl
    have HFL := Lib.hid hfl
    clear hfl
    go_wp2_with (simp only [fsub_run HRI.out])
    go_ret
    exact ⟨R, _, (rfl : _ = Ending.returned (Value.float .f64 (sgW true R))).trans (congrArg (fun x => Ending.returned (Value.float FloatKind.f64 x)) HFL.out.symm), HR.out, hbw3⟩
  · have hd' : dir < 0 := by simpa using hdn
    have hs' : s < 0 := by simpa using hsg
    have hfl : floW true R false true = (stepW (sgW true R) true) := by rfl
    have HFL := Lib.hid hfl
    clear hfl
    go_wp2_with (first | simp only [fsub_run HRI.out] | (go_at_call 50; refine H1.out.mono ?_; rintro e w' ⟨rfl, rfl⟩))
    go_ret
    exact ⟨R, _, (rfl : _ = Ending.returned (Value.float .f64 (stepW (sgW true R) true))).trans (congrArg (fun x => Ending.returned (Value.float FloatKind.f64 x)) HFL.out.symm), HR.out, hbw3⟩
  · have hd' : ¬ dir < 0 := by simpa using hdn
    have hs' : s < 0 := by simpa using hsg
    have hfl : floW true R true false = (sgW true R) := by rfl
    have HFL := Lib.hid hfl
    clear hfl
    go_wp2_with (simp only [fsub_run HRI.out])
    go_ret
    exact ⟨R, _, (rfl : _ = Ending.returned (Value.float .f64 (sgW true R))).trans (congrArg (fun x => Ending.returned (Value.float FloatKind.f64 x)) HFL.out.symm), HR.out, hbw3⟩
  · have hd' : dir < 0 := by simpa using hdn
    have hs' : s < 0 := by simpa using hsg
    have hfl : floW true R true true = (sgW true R) := by rfl
    have HFL := Lib.hid hfl
    clear hfl
    go_wp2_with (simp only [fsub_run HRI.out])
    go_ret
    exact ⟨R, _, (rfl : _ = Ending.returned (Value.float .f64 (sgW true R))).trans (congrArg (fun x => Ending.returned (Value.float FloatKind.f64 x)) HFL.out.symm), HR.out, hbw3⟩

/-- flo.Dyad has returned a finite float64's number. -/
def RetFD (w : World) (b : Nat) (e : Ending) (w' : World) : Prop := ∃ p a n c N E, e = .returned (.tuple #[.agg #[.bool p, .slice a n c, .int .i64 E], .bool true]) ∧ NewN w.heap.size w' (.slice a n c) N 1 ∧ -1074 ≤ E ∧ E ≤ 1100 ∧ N * 2 ^ (E + 1074).toNat = (un (rg b) : Int) ∧ (N ≠ 0 → p = fneg b ∧ ∃ z, N = 2 * z + 1) ∧ (N = 0 → p = false ∧ E = 0) ∧ Below w.heap.size w w'
theorem RetDy.of_sg {w w' : World} {p p' : Bool} {N N' E : Int} {m : Nat} {e : Ending} (h : RetDy w p' N' E m e w') (h0 : 0 ≤ N) (h1 : 0 ≤ N') (hs : sg p N = sg p' N') : RetDy w p N E m e w' := by
  have e1 : N = N' ∧ (N ≠ 0 → p' = p) := by
    cases p <;> cases p' <;> simp only [sg_true, sg_false] at hs
    · exact ⟨by omega, fun _ => rfl⟩
    · exact ⟨by omega, fun _ => by omega⟩
    · exact ⟨by omega, fun _ => by omega⟩
    · exact ⟨by omega, fun _ => rfl⟩
  obtain ⟨rfl, e2⟩ := e1
  obtain ⟨pR, a, n, c, NR, ER, t, h3, h4, h5, h6⟩ := h
  refine ⟨pR, a, n, c, NR, ER, t, h3, h4, ?_, h6⟩
  rcases h5 with h5 | ⟨h7, rfl, h8⟩
  · exact Or.inl h5
  · exact Or.inr ⟨h7, e2 h7, h8⟩
theorem field_parts {b : Nat} (hf : rg b < INF) : b / 4503599627370496 % 2048 ≤ 2046 ∧ un (rg b) = (if b / 4503599627370496 % 2048 = 0 then b % 4503599627370496 else 4503599627370496 + b % 4503599627370496) * 2 ^ (b / 4503599627370496 % 2048 - 1) := by
  unfold INF at hf
  have h1 : rg b / 4503599627370496 = b / 4503599627370496 % 2048 := by unfold rg; omega
  have h2 : rg b % 4503599627370496 = b % 4503599627370496 := by unfold rg; omega
  refine ⟨by rw [← h1]; omega, ?_⟩
  unfold un
  rw [h1, h2]
  by_cases h3 : rg b < 4503599627370496
  · have h4 : b / 4503599627370496 % 2048 = 0 := by rw [← h1]; omega
    rw [if_pos h3, h4, if_pos rfl, Nat.pow_zero, Nat.mul_one, ← h2]
    omega
  · have h4 : b / 4503599627370496 % 2048 ≠ 0 := by rw [← h1]; omega
    rw [if_neg h3, if_neg h4]
theorem or_one52 {c : Int} (h0 : 0 ≤ c) (h1 : c < 4503599627370496) : bits .or .u64 c 4503599627370496 = 4503599627370496 + c := by
  rw [or_comm64 c 4503599627370496 h0 (by omega) (by decide) (by decide)]
  have := or_parts 1 c 52 (by decide) h0 (by simpa using h1) (by have : (2 : Int) ^ 52 = 4503599627370496 := by decide
                                                                 omega)
  have e : (1 : Int) * 2 ^ 52 = 4503599627370496 := by decide
  rw [e] at this
  exact this

theorem low_exists (N : Int) (hN : N ≠ 0) : ∃ t, IsLow N t := by
  have key : ∀ (k : Nat) (M : Int), M.natAbs ≤ k → M ≠ 0 → ∃ t, IsLow M t := by
    intro k
    induction k with
    | zero => intro M h1 h2; omega
    | succ k ih =>
      intro M h1 h2
      by_cases h : M % 2 = 0
      · obtain ⟨t, z, hz⟩ := ih (M / 2) (by omega) (by omega)
        refine ⟨t + 1, z, ?_⟩
        rw [Int.pow_succ, Int.mul_comm (2 ^ t) 2, Int.mul_assoc, ← hz]
        omega
      · exact ⟨0, M / 2, by rw [Int.pow_zero, Int.one_mul]; omega⟩
  exact key _ N (Nat.le_refl _) hN
/-- Of every number there is a float64 next to it towards zero. -/
theorem tz_exists {N E : Int} (h0 : 0 ≤ N) : ∃ R ex, TZ R ex N E := by
  by_cases hN : N = 0
  · subst hN; exact ⟨0, true, tz_zero E⟩
  · have hNp : 0 < N := by omega
    obtain ⟨g1, g2, g3⟩ := nb_spec hNp
    by_cases hbig : E > 1024 - (nb N : Int)
    · exact ⟨_, _, tz_big hNp hbig⟩
    · by_cases hsm : E < -1074 - (nb N : Int)
      · exact ⟨_, _, tz_small hNp hsm⟩
      · obtain ⟨B, hB⟩ : ∃ B, nb N = B := ⟨_, rfl⟩
        rw [hB] at g1 g2 g3 hbig hsm
        obtain ⟨last, hlast⟩ : ∃ last, max ((B : Int) + E - 53) (-1074) = last := ⟨_, rfl⟩
        have hl1 : -1074 ≤ last ∧ last ≤ 971 ∧ (B : Int) + E - 53 ≤ last ∧ (last = (B : Int) + E - 53 ∨ last = -1074) := by omega
        obtain ⟨L, hL⟩ := Int.eq_ofNat_of_zero_le (show 0 ≤ last + 1074 by omega)
        by_cases hn : 0 < last - E
        · obtain ⟨j, hj⟩ := Int.eq_ofNat_of_zero_le (show 0 ≤ last - E by omega)
          have hpj := pow2_pos j
          have hVlt : N / 2 ^ j < 9007199254740992 := by
            refine Int.ediv_lt_of_lt_mul hpj ?_
            have e1 : (2 : Int) ^ B ≤ 2 ^ (53 + j) := pow_le_pow (by decide) (by omega)
            rw [Int.pow_add] at e1
            have e2 : (2 : Int) ^ 53 = 9007199254740992 := by decide
            rw [e2] at e1
            omega
          have hVge : 4503599627370496 ≤ N / 2 ^ j ∨ L = 0 := by
            rcases hl1.2.2.2 with e | e
            · left
              refine Int.le_ediv_of_mul_le hpj ?_
              have e1 : (2 : Int) ^ (52 + j) ≤ 2 ^ (B - 1) := pow_le_pow (by decide) (by omega)
              rw [Int.pow_add] at e1
              have e2 : (2 : Int) ^ 52 = 4503599627370496 := by decide
              rw [e2] at e1
              omega
            · right; omega
          have hV0 : 0 ≤ N / 2 ^ j := Int.ediv_nonneg h0 (Int.le_of_lt hpj)
          obtain ⟨V, hV⟩ := Int.eq_ofNat_of_zero_le hV0
          obtain ⟨t, ht⟩ := low_exists N hN
          exact ⟨_, _, tz_cut (j := j) (L := L) (man := V) hNp hV.symm (by omega) (by omega) (by omega) (by omega) (Or.inr ⟨hN, ht⟩)⟩
        · obtain ⟨j, hj⟩ := Int.eq_ofNat_of_zero_le (show 0 ≤ E - last by omega)
          have hpj := pow2_pos j
          have hVlt : N * 2 ^ j < 9007199254740992 := by
            have e1 : N * 2 ^ j < 2 ^ B * 2 ^ j := Int.mul_lt_mul_of_pos_right g2 hpj
            rw [← Int.pow_add] at e1
            have e3 : (2 : Int) ^ (B + j) ≤ 2 ^ 53 := pow_le_pow (by decide) (by omega)
            have e2 : (2 : Int) ^ 53 = 9007199254740992 := by decide
            rw [e2] at e3
            omega
          have hVge : 4503599627370496 ≤ N * 2 ^ j ∨ L = 0 := by
            rcases hl1.2.2.2 with e | e
            · left
              have e1 : 2 ^ (B - 1) * 2 ^ j ≤ N * 2 ^ j := Int.mul_le_mul_of_nonneg_right g1 (Int.le_of_lt hpj)
              rw [← Int.pow_add] at e1
              have e3 : (2 : Int) ^ 52 ≤ 2 ^ (B - 1 + j) := pow_le_pow (by decide) (by omega)
              have e2 : (2 : Int) ^ 52 = 4503599627370496 := by decide
              rw [e2] at e3
              omega
            · right; omega
          have hV0 : 0 ≤ N * 2 ^ j := Int.mul_nonneg h0 (Int.le_of_lt hpj)
          obtain ⟨V, hV⟩ := Int.eq_ofNat_of_zero_le hV0
          exact ⟨_, _, tz_whole (j := j) (L := L) (man := V) hV.symm (by omega) (by omega) (by omega) (by omega)⟩
end Go.Proofs.YtjmipbljoblnnaaDoor

namespace Go.Proofs.YtjmipbljoblnnaaDoor
open Go.RowKit

theorem word_cases {b : Nat} (hb : b < 18446744073709551616) : (b = rg b ∧ fneg b = false) ∨ (b = 9223372036854775808 + rg b ∧ fneg b = true) := by
  rcases Nat.lt_or_ge b 9223372036854775808 with h | h
  · exact Or.inl ⟨(rg_pos h).1.symm, (rg_pos h).2⟩
  · right
    have e : b = 9223372036854775808 + (b - 9223372036854775808) := by omega
    have h2 := rg_neg (r := b - 9223372036854775808) (by omega)
    rw [← e] at h2
    exact ⟨by rw [h2.1]; exact e, h2.2⟩
theorem rg_lt (b : Nat) : rg b < 9223372036854775808 := Nat.mod_lt _ (by decide)
/-- A word's step up and down, and back. -/
structure Steps (b : Nat) : Prop where
  up_lt : stepW b false < 18446744073709551616
  up_rg : rg (stepW b false) ≤ INF
  dn_lt : stepW b true < 18446744073709551616
  dn_rg : rg (stepW b true) ≤ INF
  up : fv b < fv (stepW b false)
  dn : fv (stepW b true) < fv b
  ub_rg : rg (stepW (stepW b false) true) ≤ INF
  ub : fv (stepW (stepW b false) true) = fv b
  db_rg : rg (stepW (stepW b true) false) ≤ INF
  db : fv (stepW (stepW b true) false) = fv b
theorem stepW_pos {r : Nat} (h0 : r ≠ 0) (h : r < 9223372036854775808) (dn : Bool) : stepW r dn = if dn then r - 1 else if r = INF then r else r + 1 := by
  unfold stepW
  rw [(rg_pos h).1, (rg_pos h).2, if_neg h0]
  rfl
theorem stepW_neg {r : Nat} (h0 : r ≠ 0) (h : r < 9223372036854775808) (dn : Bool) : stepW (9223372036854775808 + r) dn = if dn then (if r = INF then 9223372036854775808 + r else 9223372036854775808 + r + 1) else 9223372036854775808 + r - 1 := by
  unfold stepW
  rw [(rg_neg h).1, (rg_neg h).2, if_neg h0, if_pos rfl]
theorem stepW_zero {b : Nat} (h0 : rg b = 0) (dn : Bool) : stepW b dn = if dn then 9223372036854775809 else 1 := by
  unfold stepW
  rw [if_pos h0]
theorem steps {b : Nat} (hb : b < 18446744073709551616) (hf : rg b < INF) : Steps b := by
  have hI : INF = 9218868437227405312 := rfl
  have f1 : fv 1 = 1 := by decide
  have f0 : fv 0 = 0 := by decide
  have fm : fv 9223372036854775809 = -1 := by decide
  have fz : fv 9223372036854775808 = 0 := by decide
  by_cases h0 : rg b = 0
  · have e1 : stepW b false = 1 := stepW_zero h0 false
    have e2 : stepW b true = 9223372036854775809 := stepW_zero h0 true
    have e3 : stepW 1 true = 0 := by decide
    have e4 : stepW 9223372036854775809 false = 9223372036854775808 := by decide
    have fb : fv b = 0 := by rw [fv_def, h0]; split <;> rfl
    refine ⟨?_, ?_, ?_, ?_, ?_, ?_, ?_, ?_, ?_, ?_⟩
    · rw [e1]; decide
    · rw [e1]; decide
    · rw [e2]; decide
    · rw [e2]; decide
    · rw [e1, fb, f1]; decide
    · rw [e2, fb, fm]; decide
    · rw [e1, e3]; decide
    · rw [e1, e3, fb, f0]
    · rw [e2, e4]; decide
    · rw [e2, e4, fb, fz]
  · obtain ⟨r, hr⟩ : ∃ r, rg b = r := ⟨_, rfl⟩
    have hrl := rg_lt b
    rw [hr] at h0 hf hrl
    have l1 := un_step (r - 1)
    rw [show r - 1 + 1 = r by omega] at l1
    have l2 := un_step r
    rcases word_cases hb with ⟨e, -⟩ | ⟨e, -⟩
    · rw [hr] at e
      subst e
      have e1 : stepW b false = b + 1 := by rw [stepW_pos h0 hrl, if_neg (by decide), if_neg (by omega)]
      have e2 : stepW b true = b - 1 := by rw [stepW_pos h0 hrl, if_pos rfl]
      have e3 : stepW (b + 1) true = b := by rw [stepW_pos (by omega) (by omega), if_pos rfl]; omega
      have e4 : stepW (b - 1) false = b := by
        by_cases h1 : b = 1
        · subst h1; decide
        · rw [stepW_pos (by omega) (by omega), if_neg (by decide), if_neg (by omega)]; omega
      have r1 := (rg_pos (r := b + 1) (by omega)).1
      have r2 := (rg_pos (r := b - 1) (by omega)).1
      refine ⟨by omega, by rw [e1, r1]; omega, by omega, by rw [e2, r2]; omega, ?_, ?_, by rw [e1, e3, hr]; omega, by rw [e1, e3], by rw [e2, e4, hr]; omega, by rw [e2, e4]⟩
      · rw [e1, fv_pos (by omega), fv_pos (by omega)]; omega
      · rw [e2, fv_pos (by omega), fv_pos (by omega)]; omega
    · rw [hr] at e
      subst e
      have e1 : stepW (9223372036854775808 + r) false = 9223372036854775808 + (r - 1) := by rw [stepW_neg h0 hrl, if_neg (by decide)]; omega
      have e2 : stepW (9223372036854775808 + r) true = 9223372036854775808 + (r + 1) := by rw [stepW_neg h0 hrl, if_pos rfl, if_neg (by omega)]; omega
      have e3 : stepW (9223372036854775808 + (r - 1)) true = 9223372036854775808 + r := by
        by_cases h1 : r = 1
        · subst h1; decide
        · rw [stepW_neg (by omega) (by omega), if_pos rfl, if_neg (by omega)]; omega
      have e4 : stepW (9223372036854775808 + (r + 1)) false = 9223372036854775808 + r := by rw [stepW_neg (by omega) (by omega), if_neg (by decide)]; omega
      have r1 := (rg_neg (r := r - 1) (by omega)).1
      have r2 := (rg_neg (r := r + 1) (by omega)).1
      refine ⟨by omega, by rw [e1, r1]; omega, by omega, by rw [e2, r2]; omega, ?_, ?_, by rw [e1, e3, hr]; omega, by rw [e1, e3], by rw [e2, e4, hr]; omega, by rw [e2, e4]⟩
      · rw [e1, fv_neg (by omega), fv_neg (by omega)]; omega
      · rw [e2, fv_neg (by omega), fv_neg (by omega)]; omega

/-- The words about a number: what they are. -/
structure Btw (lo hi : Nat) (neg : Bool) (N E : Int) : Prop where
  lo_lt : lo < 18446744073709551616
  lo_rg : rg lo ≤ INF
  hi_lt : hi < 18446744073709551616
  hi_rg : rg hi ≤ INF
  le : fv lo ≤ fv hi
  next : fv lo ≠ fv hi → fv (stepW lo false) = fv hi ∧ rg (stepW lo false) ≤ INF
  one : rg lo < INF ∨ rg hi < INF
  low : rg lo < INF → ∀ K : Nat, 1074 ≤ K → 0 ≤ E + K → fv lo * 2 ^ (K - 1074) ≤ sg neg N * 2 ^ (E + K).toNat
  high : rg hi < INF → ∀ K : Nat, 1074 ≤ K → 0 ≤ E + K → sg neg N * 2 ^ (E + K).toNat ≤ fv hi * 2 ^ (K - 1074)
theorem fv_sgW {neg : Bool} {R : Nat} (h : R < INF) : fv (sgW neg R) = sg neg (un R : Int) := by
  have hI : INF = 9218868437227405312 := rfl
  cases neg
  · show fv R = (un R : Int)
    exact fv_pos (by omega)
  · show fv (if R = 0 then 0 else 9223372036854775808 + R) = -(un R : Int)
    by_cases h0 : R = 0
    · subst h0; decide
    · rw [if_neg h0]; exact fv_neg (by omega)
theorem sg_mul_le {p : Bool} {a b c d : Int} (h : a * c ≤ b * d) : p = false → sg p a * c ≤ sg p b * d := by
  intro e; subst e; exact h
theorem btw {neg : Bool} {R : Nat} {ex : Bool} {N E : Int} (h : TZ R ex N E) : Btw (floW neg R ex true) (floW neg R ex false) neg N E := by
  have hI : INF = 9218868437227405312 := rfl
  have hR := h.lt
  cases ex with
  | true =>
    have e1 : ∀ d, floW neg R true d = sgW neg R := fun d => by unfold floW; simp
    rw [e1, e1]
    obtain ⟨s1, s2⟩ := sgW_lt (neg := neg) hR
    have hv := fv_sgW (neg := neg) hR
    have key : ∀ K : Nat, 1074 ≤ K → 0 ≤ E + K → fv (sgW neg R) * 2 ^ (K - 1074) = sg neg N * 2 ^ (E + K).toNat := by
      intro K h1 h2
      have := h.eq rfl K h1 h2
      rw [hv, ← sg_scale, ← sg_scale, this]
    exact ⟨s1, by rw [s2]; omega, s1, by rw [s2]; omega, Int.le_refl _, fun h => absurd rfl h, Or.inl (by rw [s2]; exact hR), fun _ K h1 h2 => Int.le_of_eq (key K h1 h2), fun _ K h1 h2 => Int.le_of_eq (key K h1 h2).symm⟩
  | false =>
    have l2 := un_step R
    cases neg with
    | false =>
      have e1 : floW false R false true = R := rfl
      have e2 : floW false R false false = R + 1 := by
        show stepW R false = R + 1
        by_cases h0 : R = 0
        · subst h0; decide
        · rw [stepW_pos h0 (by omega), if_neg (by decide), if_neg (by omega)]
      have e3 : stepW R false = R + 1 := e2
      rw [e1, e2]
      have r1 := (rg_pos (r := R) (by omega)).1
      have r2 := (rg_pos (r := R + 1) (by omega)).1
      have v1 := fv_pos (r := R) (by omega)
      have v2 := fv_pos (r := R + 1) (by omega)
      refine ⟨by omega, by rw [r1]; omega, by omega, by rw [r2]; omega, by rw [v1, v2]; omega, fun _ => ⟨by rw [e3], by rw [e3, r2]; omega⟩, Or.inl (by rw [r1]; exact hR), fun _ K h1 h2 => ?_, fun hh K h1 h2 => ?_⟩
      · rw [v1, sg_false]
        exact Int.le_of_lt (h.gt rfl K h1 h2).1
      · rw [v2, sg_false]
        rw [r2] at hh
        exact Int.le_of_lt ((h.gt rfl K h1 h2).2 hh)
    | true =>
      have e1 : floW true R false true = 9223372036854775808 + (R + 1) := by
        show stepW (sgW true R) true = _
        by_cases h0 : R = 0
        · subst h0; decide
        · rw [show sgW true R = 9223372036854775808 + R from if_neg h0, stepW_neg h0 (by omega), if_pos rfl, if_neg (by omega)]; omega
      have e2 : floW true R false false = sgW true R := rfl
      rw [e1, e2]
      obtain ⟨s1, s2⟩ := sgW_lt (neg := true) hR
      have v2 := fv_sgW (neg := true) hR
      rw [sg_true] at v2
      have r1 := (rg_neg (r := R + 1) (by omega)).1
      have v1 := fv_neg (r := R + 1) (by omega)
      have e3 : stepW (9223372036854775808 + (R + 1)) false = 9223372036854775808 + R := by rw [stepW_neg (by omega) (by omega), if_neg (by decide)]; omega
      refine ⟨by omega, by rw [r1]; omega, s1, by rw [s2]; omega, by rw [v1, v2]; omega, fun _ => ⟨by rw [e3, v2, fv_neg (by omega)], by rw [e3, (rg_neg (by omega)).1]; omega⟩, Or.inr (by rw [s2]; exact hR), fun hh K h1 h2 => ?_, fun _ K h1 h2 => ?_⟩
      · rw [r1] at hh
        have := (h.gt rfl K h1 h2).2 hh
        rw [v1, sg_true, Int.neg_mul, Int.neg_mul]
        omega
      · have := (h.gt rfl K h1 h2).1
        rw [v2, sg_true, Int.neg_mul, Int.neg_mul]
        omega
end Go.Proofs.YtjmipbljoblnnaaDoor

namespace Go.Proofs.YtjmipbljoblnnaaDoor
open Go.RowKit

/-- Where the word nearest to a whole number of least places lies. -/
theorem nearest_at (neg : Bool) {T k0 : Nat} (h0 : T ≠ 0) : ∃ r, r ≤ INF ∧ Ieee.double.nearest neg T (Ieee.double.leastPlace + (k0 : Int)) = Ieee.double.word neg r ∧
    (∀ R, R ≤ INF → un R ≤ T * 2 ^ k0 → R ≤ r) ∧ (∀ R, T * 2 ^ k0 ≤ un R → r ≤ R) := by
  unfold Ieee.Format.nearest
  rw [if_neg h0]
  have e2 : Ieee.double.binade = 4503599627370496 := by decide
  have e3 : Ieee.double.infRung = INF := by decide
  have e4 : (Ieee.double.fractionBits : Int) = 52 := rfl
  simp only [e2, e3]
  rw [e4]
  generalize Ieee.double.leastPlace = lp
  obtain ⟨g, hg⟩ : ∃ g, T.log2 = g := ⟨_, rfl⟩
  obtain ⟨q, hq⟩ : ∃ q, g + k0 - 52 = q := ⟨_, rfl⟩
  rw [hg]
  have hm : max (lp + (k0 : Int) + (g : Int) - 52) lp = lp + (q : Int) := by omega
  rw [hm]
  obtain ⟨i, hi⟩ : ∃ i, k0 - q = i := ⟨_, rfl⟩
  obtain ⟨j, hj⟩ : ∃ j, q - k0 = j := ⟨_, rfl⟩
  have z1 : (lp + (k0 : Int) - (lp + (q : Int))).toNat = i := by omega
  have z2 : (lp + (q : Int) - (lp + (k0 : Int))).toNat = j := by omega
  have z3 : (lp + (q : Int) - lp).toNat = q := by omega
  rw [z1, z2, z3, Nat.shiftLeft_eq]
  unfold Ieee.Toward.cut
  have hij : i = 0 ∨ j = 0 := by omega
  have hgap : (1 <<< min j ((T * 2 ^ i).log2 + 2) : Nat) = 2 ^ j := by
    have : j ≤ (T * 2 ^ i).log2 + 2 := by
      rcases hij with h | h
      · rw [h, Nat.pow_zero, Nat.mul_one, hg]; omega
      · omega
    rw [Nat.min_eq_left this, Nat.shiftLeft_eq, Nat.one_mul]
  simp only [hgap]
  have hp := Nat.two_pow_pos q
  have hpj := Nat.two_pow_pos j
  obtain ⟨k, hk⟩ : ∃ k, T * 2 ^ i / 2 ^ j = k := ⟨_, rfl⟩
  obtain ⟨s, hs⟩ : ∃ s, T * 2 ^ i % 2 ^ j = s := ⟨_, rfl⟩
  have hT : T * 2 ^ i = k * 2 ^ j + s := by rw [← hk, ← hs, Nat.mul_comm (T * 2 ^ i / 2 ^ j)]; exact (Nat.div_add_mod _ (2 ^ j)).symm
  have hsl : s < 2 ^ j := by rw [← hs]; exact Nat.mod_lt _ hpj
  rw [hk, hs]
  obtain ⟨M, hMd⟩ : ∃ M, T * 2 ^ k0 = M := ⟨_, rfl⟩
  rw [hMd]
  obtain ⟨s', hM, hsl', hss⟩ : ∃ s', M = k * 2 ^ q + s' ∧ s' < 2 ^ q ∧ (s ≠ 0 → s' ≠ 0) := by
    rcases hij with h | h
    · rw [h, Nat.pow_zero, Nat.mul_one] at hT
      have hk0 := Nat.two_pow_pos k0
      have e : 2 ^ q = 2 ^ j * 2 ^ k0 := by rw [← Nat.pow_add]; congr 1; omega
      refine ⟨s * 2 ^ k0, ?_, ?_, ?_⟩
      · rw [← hMd, hT, Nat.add_mul, Nat.mul_assoc, ← e]
      · rw [e]; exact Nat.mul_lt_mul_of_pos_right hsl hk0
      · intro h1; exact Nat.mul_ne_zero h1 (by omega)
    · rw [h] at hsl
      have hs0 : s = 0 := by rw [Nat.pow_zero] at hsl; omega
      rw [h, hs0, Nat.pow_zero, Nat.mul_one, Nat.add_zero] at hT
      refine ⟨0, ?_, hp, fun h1 => absurd hs0 h1⟩
      rw [← hMd, ← hT, Nat.add_zero, Nat.mul_assoc, ← Nat.pow_add]
      congr 2; omega
  obtain ⟨u, hu⟩ : ∃ u : Bool, (decide (2 ^ j < 2 * s) || 2 ^ j == 2 * s && k % 2 == 1) = u := ⟨_, rfl⟩
  rw [hu]
  have hus : u = true → s ≠ 0 := by
    rintro rfl rfl
    simp at hu
  have hpk := Nat.two_pow_pos k0
  have hl1 : 2 ^ (g + k0) ≤ M := by
    rw [← hMd, Nat.pow_add, ← hg]; exact Nat.mul_le_mul_right _ (Nat.log2_self_le h0)
  have hl2 : M < 2 ^ (g + k0 + 1) := by
    rw [← hMd, show g + k0 + 1 = (g + 1) + k0 by omega, Nat.pow_add, ← hg]; exact Nat.mul_lt_mul_of_pos_right Nat.lt_log2_self hpk
  have hkM : M / 2 ^ q = k := by
    rw [hM, Nat.mul_comm, Nat.mul_add_div hp, Nat.div_eq_of_lt hsl', Nat.add_zero]
  have hk1 : k < 9007199254740992 := by
    rw [← hkM, Nat.div_lt_iff_lt_mul hp]
    refine Nat.lt_of_lt_of_le hl2 ?_
    rw [show (9007199254740992 : Nat) = 2 ^ 53 from rfl, ← Nat.pow_add]
    exact Nat.pow_le_pow_right (by decide) (by omega)
  have hk2 : 4503599627370496 ≤ k ∨ q = 0 := by
    by_cases hq0 : q = 0
    · exact Or.inr hq0
    · left
      rw [← hkM, Nat.le_div_iff_mul_le hp, show (4503599627370496 : Nat) = 2 ^ 52 from rfl, ← Nat.pow_add, show 52 + q = g + k0 by omega]
      exact hl1
  have u0 := un_pack (L := q) (man := k) (by omega) hk2
  have u1 := un_pack (L := q) (man := k + 1) (by omega) (by omega)
  rw [Nat.add_mul, Nat.one_mul] at u1
  obtain ⟨t, ht⟩ : ∃ t, q * 4503599627370496 + k = t := ⟨_, rfl⟩
  rw [ht] at u0
  rw [show q * 4503599627370496 + (k + 1) = t + 1 by omega] at u1
  have hun : un t ≤ M := by omega
  have hun1 : M < un (t + 1) := by omega
  have hunu : u = true → un t < M := fun h => by have := hss (hus h); omega
  have lt_of : ∀ {a b : Nat}, un a < un b → a < b := fun {a b} h => by
    rcases Nat.lt_or_ge a b with h1 | h1
    · exact h1
    · have := un_le h1; omega
  have le_of : ∀ {a b : Nat}, un a ≤ un b → a ≤ b := fun {a b} h => by
    rcases Nat.lt_or_ge b a with h1 | h1
    · have := un_lt h1; omega
    · exact h1
  refine ⟨min (q * 4503599627370496 + (k + u.toNat)) INF, Nat.min_le_right _ _, rfl, fun R hR h => ?_, fun R h => ?_⟩
  · have h1 : R < t + 1 := lt_of (Nat.lt_of_le_of_lt h hun1)
    refine Nat.le_min.2 ⟨by omega, hR⟩
  · refine Nat.le_trans (Nat.min_le_left _ _) ?_
    cases u with
    | false =>
      have := le_of (Nat.le_trans hun h)
      show q * 4503599627370496 + (k + 0) ≤ R
      omega
    | true =>
      have := lt_of (Nat.lt_of_lt_of_le (hunu rfl) h)
      show q * 4503599627370496 + (k + 1) ≤ R
      omega

/-- A float64 beside a whole number S of least places: no float64 lies between. -/
structure NearTo (x : Nat) (S : Int) : Prop where
  lt : x < 18446744073709551616
  rg : rg x ≤ INF
  up : ∀ y, y < 18446744073709551616 → Go.Proofs.YtjmipbljoblnnaaDoor.rg y ≤ INF → fv y ≤ S → fv y ≤ fv x
  down : ∀ y, y < 18446744073709551616 → Go.Proofs.YtjmipbljoblnnaaDoor.rg y ≤ INF → S ≤ fv y → fv x ≤ fv y

theorem signed_un {b m p : Nat} (h : m * 2 ^ p = un (rg b)) : Ieee.signed (fneg b) m p = fv b := by
  rw [fv_def, ← h]
  unfold Ieee.signed
  rw [Nat.shiftLeft_eq]

theorem add_num {b c : Nat} (hb : rg b < INF) (hc : rg c < INF) : ∃ x, floatBits .add .f64 b c = some x ∧ NearTo x (fv b + fv c) := by
  obtain ⟨m, p, e1, h1⟩ := read_num hb
  obtain ⟨n, q, f1, g1⟩ := read_num hc
  have hI : INF = 9218868437227405312 := rfl
  show ∃ x, Ieee.double.add b c = some x ∧ _
  unfold Ieee.Format.add
  rw [e1, f1]
  simp only [Ieee.Datum.sum, Option.map_some]
  obtain ⟨k, hk⟩ : ∃ k, min p q = k := ⟨_, rfl⟩
  have hbase : min (Ieee.double.leastPlace + (p : Int)) (Ieee.double.leastPlace + (q : Int)) = Ieee.double.leastPlace + (k : Int) := by omega
  rw [hbase]
  obtain ⟨i, hi⟩ : ∃ i, p - k = i := ⟨_, rfl⟩
  obtain ⟨j, hj⟩ : ∃ j, q - k = j := ⟨_, rfl⟩
  have z1 : (Ieee.double.leastPlace + (p : Int) - (Ieee.double.leastPlace + (k : Int))).toNat = i := by omega
  have z2 : (Ieee.double.leastPlace + (q : Int) - (Ieee.double.leastPlace + (k : Int))).toNat = j := by omega
  rw [z1, z2]
  have s1 : Ieee.signed (fneg b) m i * 2 ^ k = fv b := by rw [← signed_scale, show i + k = p by omega]; exact signed_un h1
  have s2 : Ieee.signed (fneg c) n j * 2 ^ k = fv c := by rw [← signed_scale, show j + k = q by omega]; exact signed_un g1
  obtain ⟨D, hD⟩ : ∃ D, Ieee.signed (fneg b) m i + Ieee.signed (fneg c) n j = D := ⟨_, rfl⟩
  have hS : fv b + fv c = D * 2 ^ k := by rw [← s1, ← s2, ← Int.add_mul, hD]
  rw [hD, hS]
  have hp := pow2_pos k
  clear s1 s2 hD hS
  have bigger : ∀ y, y < 18446744073709551616 → rg y ≤ INF → (fneg y = false ∧ fv y = (un (rg y) : Int)) ∨ (fneg y = true ∧ fv y = -(un (rg y) : Int)) := by
    intro y _ _
    rw [fv_def]
    cases fneg y
    · exact Or.inl ⟨rfl, rfl⟩
    · exact Or.inr ⟨rfl, rfl⟩
  by_cases hD0 : D = 0
  · subst hD0
    rw [if_pos rfl, Int.zero_mul]
    refine ⟨_, rfl, ?_⟩
    show NearTo (Ieee.double.nearest _ 0 _) 0
    unfold Ieee.Format.nearest
    rw [if_pos rfl]
    have hz : ∀ s, Ieee.double.word s 0 < 18446744073709551616 ∧ rg (Ieee.double.word s 0) ≤ INF ∧ fv (Ieee.double.word s 0) = 0 := by
      intro s; cases s <;> decide
    obtain ⟨a1, a2, a3⟩ := hz (fneg b && fneg c)
    exact ⟨a1, a2, fun y _ _ h => by rw [a3]; exact h, fun y _ _ h => by rw [a3]; exact h⟩
  · rw [if_neg hD0]
    refine ⟨_, rfl, ?_⟩
    show NearTo (Ieee.double.nearest (decide (D < 0)) D.natAbs _) _
    obtain ⟨r, hr, e, hup, hdn⟩ := nearest_at (decide (D < 0)) (T := D.natAbs) (k0 := k) (by omega)
    rw [e]
    have hcast : ((D.natAbs * 2 ^ k : Nat) : Int) = (D.natAbs : Int) * 2 ^ k := cast_pow2 _ _
    rcases Int.lt_or_le D 0 with hneg | hpos
    · have hd : decide (D < 0) = true := by simp [hneg]
      rw [hd]
      have hw : Ieee.double.word true r = 9223372036854775808 + r := rfl
      rw [hw]
      have hx := fv_neg (r := r) (by omega)
      have hxr := (rg_neg (r := r) (by omega)).1
      have hSn : D * 2 ^ k = -((D.natAbs * 2 ^ k : Nat) : Int) := by
        rw [hcast, show (D.natAbs : Int) = -D by omega, Int.neg_mul, Int.neg_neg]
      refine ⟨by omega, by rw [hxr]; exact hr, fun y hy hyr h => ?_, fun y hy hyr h => ?_⟩
      · rw [hx]
        rcases bigger y hy hyr with ⟨-, b2⟩ | ⟨-, b2⟩
        · have hpos2 : 0 < D.natAbs * 2 ^ k := Nat.mul_pos (by omega) (Nat.two_pow_pos k)
          omega
        · have := un_le (hdn (rg y) (by omega))
          omega
      · rw [hx]
        rcases bigger y hy hyr with ⟨-, b2⟩ | ⟨-, b2⟩
        · omega
        · have := un_le (hup (rg y) hyr (by omega))
          omega
    · have hd : decide (D < 0) = false := by simp; omega
      rw [hd]
      have hw : Ieee.double.word false r = r := rfl
      rw [hw]
      have hx := fv_pos (r := r) (by omega)
      have hxr := (rg_pos (r := r) (by omega)).1
      have hSn : D * 2 ^ k = ((D.natAbs * 2 ^ k : Nat) : Int) := by
        rw [hcast, show (D.natAbs : Int) = D by omega]
      refine ⟨by omega, by rw [hxr]; exact hr, fun y hy hyr h => ?_, fun y hy hyr h => ?_⟩
      · rw [hx]
        rcases bigger y hy hyr with ⟨-, b2⟩ | ⟨-, b2⟩
        · have := un_le (hup (rg y) hyr (by omega))
          omega
        · omega
      · rw [hx]
        rcases bigger y hy hyr with ⟨-, b2⟩ | ⟨-, b2⟩
        · have := un_le (hdn (rg y) (by omega))
          omega
        · have hpos2 : 0 < D.natAbs * 2 ^ k := Nat.mul_pos (by omega) (Nat.two_pow_pos k)
          omega
end Go.Proofs.YtjmipbljoblnnaaDoor

namespace Go.Proofs.YtjmipbljoblnnaaDoor
open Go.RowKit

/-- Where the word nearest to T * 2^k0 / 2^d least places lies. -/
theorem nearest_gen (neg : Bool) {T k0 d : Nat} (h0 : T ≠ 0) : ∃ r, r ≤ INF ∧ Ieee.double.nearest neg T (Ieee.double.leastPlace + (k0 : Int) - (d : Int)) = Ieee.double.word neg r ∧
    (∀ R, R ≤ INF → un R * 2 ^ d ≤ T * 2 ^ k0 → R ≤ r) ∧ (∀ R, T * 2 ^ k0 ≤ un R * 2 ^ d → r ≤ R) := by
  unfold Ieee.Format.nearest
  rw [if_neg h0]
  have e2 : Ieee.double.binade = 4503599627370496 := by decide
  have e3 : Ieee.double.infRung = INF := by decide
  have e4 : (Ieee.double.fractionBits : Int) = 52 := rfl
  simp only [e2, e3]
  rw [e4]
  generalize Ieee.double.leastPlace = lp
  obtain ⟨g, hg⟩ : ∃ g, T.log2 = g := ⟨_, rfl⟩
  obtain ⟨q, hq⟩ : ∃ q, g + k0 - 52 - d = q := ⟨_, rfl⟩
  rw [hg]
  have hm : max (lp + (k0 : Int) - (d : Int) + (g : Int) - 52) lp = lp + (q : Int) := by omega
  rw [hm]
  obtain ⟨i, hi⟩ : ∃ i, k0 - d - q = i := ⟨_, rfl⟩
  obtain ⟨j, hj⟩ : ∃ j, q + d - k0 = j := ⟨_, rfl⟩
  have z1 : (lp + (k0 : Int) - (d : Int) - (lp + (q : Int))).toNat = i := by omega
  have z2 : (lp + (q : Int) - (lp + (k0 : Int) - (d : Int))).toNat = j := by omega
  have z3 : (lp + (q : Int) - lp).toNat = q := by omega
  rw [z1, z2, z3, Nat.shiftLeft_eq]
  have hij : i = 0 ∨ j = 0 := by omega
  have hpd := Nat.two_pow_pos d
  have hpk := Nat.two_pow_pos k0
  have lt_of : ∀ {a b : Nat}, un a < un b → a < b := fun {a b} h => by
    rcases Nat.lt_or_ge a b with h1 | h1
    · exact h1
    · have := un_le h1; omega
  have le_of : ∀ {a b : Nat}, un a ≤ un b → a ≤ b := fun {a b} h => by
    rcases Nat.lt_or_ge b a with h1 | h1
    · have := un_lt h1; omega
    · exact h1
  have hg1 : T < 2 ^ (g + 1) := by rw [← hg]; exact Nat.lt_log2_self
  by_cases hfar : g + 2 < j
  · -- all of it lies below half of a least place
    have hq0 : q = 0 := by omega
    have hi0 : i = 0 := by omega
    have hcut : Ieee.Toward.even.cut neg (T * 2 ^ i) j = 0 := by
      unfold Ieee.Toward.cut
      rw [hi0, Nat.pow_zero, Nat.mul_one, hg, Nat.min_eq_right (by omega : g + 2 ≤ j), Nat.shiftLeft_eq, Nat.one_mul]
      have h4 : 2 * T < 2 ^ (g + 2) := by rw [Nat.pow_succ]; omega
      have h5 : T / 2 ^ (g + 2) = 0 := Nat.div_eq_of_lt (by omega)
      have h6 : T % 2 ^ (g + 2) = T := Nat.mod_eq_of_lt (by omega)
      simp only [h5, h6]
      have h7 : decide (2 ^ (g + 2) < 2 * T) = false := by simp; omega
      have h8 : (2 ^ (g + 2) == 2 * T) = false := by simp; omega
      rw [h7, h8]
      rfl
    rw [hcut, hq0]
    refine ⟨0, Nat.zero_le _, by simp, fun R _ h => ?_, fun R _ => Nat.zero_le _⟩
    have h1 : T * 2 ^ k0 < 2 ^ (g + 1) * 2 ^ k0 := Nat.mul_lt_mul_of_pos_right hg1 hpk
    rw [← Nat.pow_add] at h1
    have h2 : 2 ^ (g + 1 + k0) ≤ 2 ^ d := Nat.pow_le_pow_right (by decide) (by omega)
    have h3 : un R = 0 := by
      rcases Nat.eq_zero_or_pos (un R) with h | h'
      · exact h
      · have : 1 * 2 ^ d ≤ un R * 2 ^ d := Nat.mul_le_mul_right _ h'
        omega
    have := un_eq_zero h3
    omega
  unfold Ieee.Toward.cut
  have hgap : (1 <<< min j ((T * 2 ^ i).log2 + 2) : Nat) = 2 ^ j := by
    have : j ≤ (T * 2 ^ i).log2 + 2 := by
      rcases hij with h | h
      · rw [h, Nat.pow_zero, Nat.mul_one, hg]; omega
      · omega
    rw [Nat.min_eq_left this, Nat.shiftLeft_eq, Nat.one_mul]
  simp only [hgap]
  have hp := Nat.two_pow_pos (q + d)
  have hpj := Nat.two_pow_pos j
  obtain ⟨k, hk⟩ : ∃ k, T * 2 ^ i / 2 ^ j = k := ⟨_, rfl⟩
  obtain ⟨s, hs⟩ : ∃ s, T * 2 ^ i % 2 ^ j = s := ⟨_, rfl⟩
  have hT : T * 2 ^ i = k * 2 ^ j + s := by rw [← hk, ← hs, Nat.mul_comm (T * 2 ^ i / 2 ^ j)]; exact (Nat.div_add_mod _ (2 ^ j)).symm
  have hsl : s < 2 ^ j := by rw [← hs]; exact Nat.mod_lt _ hpj
  rw [hk, hs]
  obtain ⟨M, hMd⟩ : ∃ M, T * 2 ^ k0 = M := ⟨_, rfl⟩
  rw [hMd]
  obtain ⟨s', hM, hsl', hss⟩ : ∃ s', M = k * 2 ^ (q + d) + s' ∧ s' < 2 ^ (q + d) ∧ (s ≠ 0 → s' ≠ 0) := by
    rcases hij with h | h
    · rw [h, Nat.pow_zero, Nat.mul_one] at hT
      have e : 2 ^ (q + d) = 2 ^ j * 2 ^ k0 := by rw [← Nat.pow_add]; congr 1; omega
      refine ⟨s * 2 ^ k0, ?_, ?_, ?_⟩
      · rw [← hMd, hT, Nat.add_mul, Nat.mul_assoc, ← e]
      · rw [e]; exact Nat.mul_lt_mul_of_pos_right hsl hpk
      · intro h1; exact Nat.mul_ne_zero h1 (by omega)
    · rw [h] at hsl
      have hs0 : s = 0 := by rw [Nat.pow_zero] at hsl; omega
      rw [h, hs0, Nat.pow_zero, Nat.mul_one, Nat.add_zero] at hT
      refine ⟨0, ?_, hp, fun h1 => absurd hs0 h1⟩
      rw [← hMd, ← hT, Nat.add_zero, Nat.mul_assoc, ← Nat.pow_add]
      congr 2; omega
  obtain ⟨u, hu⟩ : ∃ u : Bool, (decide (2 ^ j < 2 * s) || 2 ^ j == 2 * s && k % 2 == 1) = u := ⟨_, rfl⟩
  rw [hu]
  have hus : u = true → s ≠ 0 := by
    rintro rfl rfl
    simp at hu
  have hl1 : 2 ^ (g + k0) ≤ M := by
    rw [← hMd, Nat.pow_add, ← hg]; exact Nat.mul_le_mul_right _ (Nat.log2_self_le h0)
  have hl2 : M < 2 ^ (g + k0 + 1) := by
    rw [← hMd, show g + k0 + 1 = (g + 1) + k0 by omega, Nat.pow_add, ← hg]; exact Nat.mul_lt_mul_of_pos_right Nat.lt_log2_self hpk
  have hkM : M / 2 ^ (q + d) = k := by
    rw [hM, Nat.mul_comm, Nat.mul_add_div hp, Nat.div_eq_of_lt hsl', Nat.add_zero]
  have hk1 : k < 9007199254740992 := by
    rw [← hkM, Nat.div_lt_iff_lt_mul hp]
    refine Nat.lt_of_lt_of_le hl2 ?_
    rw [show (9007199254740992 : Nat) = 2 ^ 53 from rfl, ← Nat.pow_add]
    exact Nat.pow_le_pow_right (by decide) (by omega)
  have hk2 : 4503599627370496 ≤ k ∨ q = 0 := by
    by_cases hq0 : q = 0
    · exact Or.inr hq0
    · left
      rw [← hkM, Nat.le_div_iff_mul_le hp, show (4503599627370496 : Nat) = 2 ^ 52 from rfl, ← Nat.pow_add, show 52 + (q + d) = g + k0 by omega]
      exact hl1
  have u0 := un_pack (L := q) (man := k) (by omega) hk2
  have u1 := un_pack (L := q) (man := k + 1) (by omega) (by omega)
  obtain ⟨t, ht⟩ : ∃ t, q * 4503599627370496 + k = t := ⟨_, rfl⟩
  rw [ht] at u0
  rw [show q * 4503599627370496 + (k + 1) = t + 1 by omega] at u1
  have v0 : un t * 2 ^ d = k * 2 ^ (q + d) := by rw [u0, Nat.mul_assoc, ← Nat.pow_add]
  have v1 : un (t + 1) * 2 ^ d = k * 2 ^ (q + d) + 2 ^ (q + d) := by rw [u1, Nat.mul_assoc, ← Nat.pow_add, Nat.add_mul, Nat.one_mul]
  have hun : un t * 2 ^ d ≤ M := by omega
  have hun1 : M < un (t + 1) * 2 ^ d := by omega
  have hunu : u = true → un t * 2 ^ d < M := fun h => by have := hss (hus h); omega
  have dn : ∀ {a b : Nat}, a * 2 ^ d < b * 2 ^ d → a < b := fun {a b} h => Nat.lt_of_mul_lt_mul_right h
  have dnl : ∀ {a b : Nat}, a * 2 ^ d ≤ b * 2 ^ d → a ≤ b := fun {a b} h => Nat.le_of_mul_le_mul_right h hpd
  refine ⟨min (q * 4503599627370496 + (k + u.toNat)) INF, Nat.min_le_right _ _, rfl, fun R hR h => ?_, fun R h => ?_⟩
  · have h1 : R < t + 1 := lt_of (dn (Nat.lt_of_le_of_lt h hun1))
    refine Nat.le_min.2 ⟨by omega, hR⟩
  · refine Nat.le_trans (Nat.min_le_left _ _) ?_
    cases u with
    | false =>
      have := le_of (dnl (Nat.le_trans hun h))
      show q * 4503599627370496 + (k + 0) ≤ R
      omega
    | true =>
      have := lt_of (dn (Nat.lt_of_lt_of_le (hunu rfl) h))
      show q * 4503599627370496 + (k + 1) ≤ R
      omega
end Go.Proofs.YtjmipbljoblnnaaDoor

namespace Go.Proofs.YtjmipbljoblnnaaDoor
open Go.RowKit

/-- A float64 beside S / D least places: no float64 lies between. -/
structure NearR (x : Nat) (S : Int) (D : Nat) : Prop where
  lt : x < 18446744073709551616
  rg : rg x ≤ INF
  up : ∀ y, y < 18446744073709551616 → Go.Proofs.YtjmipbljoblnnaaDoor.rg y ≤ INF → fv y * (D : Int) ≤ S → fv y ≤ fv x
  down : ∀ y, y < 18446744073709551616 → Go.Proofs.YtjmipbljoblnnaaDoor.rg y ≤ INF → S ≤ fv y * (D : Int) → fv x ≤ fv y

theorem fv_cases (y : Nat) : (fneg y = false ∧ fv y = (un (rg y) : Int)) ∨ (fneg y = true ∧ fv y = -(un (rg y) : Int)) := by
  rw [fv_def]
  cases fneg y
  · exact Or.inl ⟨rfl, rfl⟩
  · exact Or.inr ⟨rfl, rfl⟩
theorem word_zero (s : Bool) : Ieee.double.word s 0 < 18446744073709551616 ∧ rg (Ieee.double.word s 0) ≤ INF ∧ fv (Ieee.double.word s 0) = 0 := by
  cases s <;> decide
theorem word_lt {s : Bool} {r : Nat} (h : r ≤ INF) : Ieee.double.word s r < 18446744073709551616 ∧ rg (Ieee.double.word s r) = r ∧ fv (Ieee.double.word s r) = if s then -(un r : Int) else (un r : Int) := by
  have hI : INF = 9218868437227405312 := rfl
  cases s
  · exact ⟨show r < _ by omega, (rg_pos (r := r) (by omega)).1, fv_pos (r := r) (by omega)⟩
  · exact ⟨show 9223372036854775808 + r < _ by omega, (rg_neg (r := r) (by omega)).1, fv_neg (r := r) (by omega)⟩
/-- A word whose amount lies between the amounts beside M / D. -/
theorem near_ofR {s : Bool} {r M D : Nat} (hr : r ≤ INF) (hM : M ≠ 0) (hup : ∀ R, R ≤ INF → un R * D ≤ M → R ≤ r) (hdn : ∀ R, M ≤ un R * D → r ≤ R) :
    NearR (Ieee.double.word s r) (if s then -(M : Int) else (M : Int)) D := by
  obtain ⟨w1, w2, w3⟩ := word_lt (s := s) hr
  have cast : ∀ k : Nat, ((un k : Int) * (D : Int)) = ((un k * D : Nat) : Int) := fun k => by rw [Int.natCast_mul]
  refine ⟨w1, by rw [w2]; exact hr, fun y _ hyr h => ?_, fun y _ hyr h => ?_⟩
  · rw [w3]
    rcases fv_cases y with ⟨-, b2⟩ | ⟨-, b2⟩
    · rw [b2, cast] at h
      rw [b2]
      cases s
      · have h2 : ((un (rg y) * D : Nat) : Int) ≤ (M : Int) := h
        have := un_le (hup _ hyr (by omega))
        show (un (rg y) : Int) ≤ (un r : Int)
        omega
      · have h1 : ((un (rg y) * D : Nat) : Int) ≤ -(M : Int) := h
        omega
    · rw [b2, Int.neg_mul, cast] at h
      rw [b2]
      cases s
      · show -(un (rg y) : Int) ≤ (un r : Int)
        omega
      · have h1 : -((un (rg y) * D : Nat) : Int) ≤ -(M : Int) := h
        have := un_le (hdn (rg y) (by omega))
        show -(un (rg y) : Int) ≤ -(un r : Int)
        omega
  · rw [w3]
    rcases fv_cases y with ⟨-, b2⟩ | ⟨-, b2⟩
    · rw [b2, cast] at h
      rw [b2]
      cases s
      · have h1 : (M : Int) ≤ ((un (rg y) * D : Nat) : Int) := h
        have := un_le (hdn (rg y) (by omega))
        show (un r : Int) ≤ (un (rg y) : Int)
        omega
      · show -(un r : Int) ≤ (un (rg y) : Int)
        omega
    · rw [b2, Int.neg_mul, cast] at h
      rw [b2]
      cases s
      · have h1 : (M : Int) ≤ -((un (rg y) * D : Nat) : Int) := h
        omega
      · have h1 : -(M : Int) ≤ -((un (rg y) * D : Nat) : Int) := h
        have := un_le (hup (rg y) hyr (by omega))
        show -(un r : Int) ≤ -(un (rg y) : Int)
        omega
theorem nearest_zero (s : Bool) (p : Int) : Ieee.double.nearest s 0 p = Ieee.double.word s 0 := by
  unfold Ieee.Format.nearest
  rw [if_pos rfl]
theorem near_zeroR (s : Bool) {D : Nat} (hD : 0 < D) : NearR (Ieee.double.word s 0) 0 D := by
  obtain ⟨a1, a2, a3⟩ := word_zero s
  have hp : (0 : Int) < (D : Int) := by omega
  refine ⟨a1, a2, fun y _ _ h => ?_, fun y _ _ h => ?_⟩
  · rw [a3]
    rcases Int.lt_or_le 0 (fv y) with h1 | h1
    · have := Int.mul_pos h1 hp; omega
    · exact h1
  · rw [a3]
    rcases Int.lt_or_le (fv y) 0 with h1 | h1
    · have := Int.mul_neg_of_neg_of_pos h1 hp; omega
    · exact h1
theorem fv_sign (b : Nat) : fv b = (if fneg b then -1 else 1) * (un (rg b) : Int) := by
  rw [fv_def]
  cases fneg b <;> simp
/-- The product of two finite float64 lies beside the exact product. -/
theorem fmul_num {b c K : Nat} (hb : rg b < INF) (hc : rg c < INF) (hK : K = 1074) : ∃ x, floatBits .mul .f64 b c = some x ∧ NearR x (fv b * fv c) (2 ^ K) := by
  obtain ⟨m, p, e1, h1⟩ := read_num hb
  obtain ⟨n, q, f1, g1⟩ := read_num hc
  show ∃ x, Ieee.double.mul b c = some x ∧ _
  unfold Ieee.Format.mul
  rw [e1, f1]
  simp only [Ieee.Datum.product, Option.map_some]
  refine ⟨_, rfl, ?_⟩
  show NearR (Ieee.double.nearest (fneg b ^^ fneg c) (m * n) _) _ _
  have hplace : Ieee.double.leastPlace + (p : Int) + (Ieee.double.leastPlace + (q : Int)) = Ieee.double.leastPlace + ((p + q : Nat) : Int) - (K : Int) := by
    have : Ieee.double.leastPlace = -1074 := by decide
    omega
  rw [hplace]
  have hS : fv b * fv c = if (fneg b ^^ fneg c) then -((m * n * 2 ^ (p + q) : Nat) : Int) else ((m * n * 2 ^ (p + q) : Nat) : Int) := by
    have e : m * n * 2 ^ (p + q) = un (rg b) * un (rg c) := by rw [← h1, ← g1, Nat.pow_add]; grind
    rw [e, fv_sign b, fv_sign c, Int.natCast_mul]
    cases fneg b <;> cases fneg c <;> simp [Int.neg_mul, Int.mul_neg]
  rw [hS]
  by_cases h0 : m * n = 0
  · rw [h0, nearest_zero, Nat.zero_mul]
    generalize (fneg b ^^ fneg c) = s
    cases s
    · exact near_zeroR false (Nat.two_pow_pos K)
    · exact near_zeroR true (Nat.two_pow_pos K)
  · obtain ⟨r, hr, e, hup, hdn⟩ := nearest_gen (fneg b ^^ fneg c) (T := m * n) (k0 := p + q) (d := K) h0
    rw [e]
    exact near_ofR hr (Nat.mul_ne_zero h0 (by have := Nat.two_pow_pos (p + q); omega)) hup hdn
end Go.Proofs.YtjmipbljoblnnaaDoor

namespace Go.Proofs.YtjmipbljoblnnaaDoor
open Go.RowKit
set_option maxRecDepth 100000 in
set_option maxHeartbeats 1200000 in
/-- compassref1.Of: the document's dyad of a float64. -/
theorem refof_num (b : Nat) (w : World) (hb : b < 18446744073709551616) (hf : rg b < INF) :
    Calls Tryd.prog 7 #[.float .f64 b] w fun e w' => RetQZ 1074 w (fv b) 2 2200 e w' := by
  obtain ⟨w1, hw1⟩ : ∃ w1, w.alloc (.cells #[.bool false, .slice none 0 0, .int .i64 0] 31) = w1 := ⟨_, rfl⟩
  have hb1 : Below w.heap.size w w1 := hw1 ▸ below_alloc w _
  have hc1 : w1.heap[w.heap.size]? = some (.cells #[.bool false, .slice none 0 0, .int .i64 0] 31 (0, 0)) := hw1 ▸ heap_alloc_new w _
  obtain ⟨hfl, hun⟩ := field_parts hf
  have hfv := fv_def b
  have h3 : ((b : Int) / 9223372036854775808 == 1) = fneg b := by
    unfold fneg
    by_cases e : b < 9223372036854775808
    · have e1 : (b : Int) / 9223372036854775808 = 0 := by omega
      have e2 : b / 9223372036854775808 % 2 = 0 := by omega
      rw [e1, e2]; rfl
    · have e1 : (b : Int) / 9223372036854775808 = 1 := by omega
      have e2 : b / 9223372036854775808 % 2 = 1 := by omega
      rw [e1, e2]; rfl
  have h1 : (b : Int) / 4503599627370496 % 2048 = ((b / 4503599627370496 % 2048 : Nat) : Int) := by omega
  have h2 : (b : Int) % 4503599627370496 = ((b % 4503599627370496 : Nat) : Int) := by omega
  obtain ⟨F, hF⟩ : ∃ F, b / 4503599627370496 % 2048 = F := ⟨_, rfl⟩
  obtain ⟨G, hG⟩ : ∃ G, b % 4503599627370496 = G := ⟨_, rfl⟩
  have hG2 : G < 4503599627370496 := by rw [← hG]; exact Nat.mod_lt _ (by decide)
  obtain ⟨p, hp⟩ : ∃ p, fneg b = p := ⟨_, rfl⟩
  rw [hF] at h1 hfl hun
  rw [hG] at h2 hun
  rw [hp] at h3 hfv
  have fin : ∀ (M f : Nat), un (rg b) = M * 2 ^ f → fv b = sg p (M : Int) * 2 ^ f := by
    intro M f hu
    rw [hfv, hu, cast_pow2]
    cases p
    · rfl
    · simp [sg, Int.neg_mul]
  have HFIN := Lib.hid fin
  have HU := Lib.hid hun
  clear hF hG hp hun hf fin hfv
  -- what is done behind the call of Make
  have rest : ∀ (w4 : World) (g : Nat) (Z : Int) (pR : Bool) (aR : Option Addr) (nR cR : Nat) (ER : Int), Below w1.heap.size w1 w4 → RQ 1074 w4 (.agg #[.bool pR, .slice aR nR cR, .int .i64 ER]) Z 2 2200 → Z = fv b → g = w.heap.size →
      w4.heap[w.heap.size]? = some (.cells #[.bool false, .slice none 0 0, .int .i64 0] 31 (0, 0)) ∧ Hid (RetQZ 1074 w (fv b) 2 2200 (.returned (.agg #[.bool pR, .slice aR nR cR, .int .i64 ER])) (((w4.setCell ⟨w.heap.size, 0, none⟩ (.bool pR)).setCell ⟨w.heap.size, 1, none⟩ (.slice aR nR cR)).setCell ⟨w.heap.size, 2, none⟩ (.int .i64 ER))) := by
    intro w4 g Z pR aR nR cR ER hb4 hr hz _
    have hblk := slot_kept hc1 hb4
    have hon := slot3_only (w := w4) (g := w.heap.size) (.bool pR) (.slice aR nR cR) (.int .i64 ER)
    have hbw := hb1.trans (hb4.mono hb1.size)
    exact ⟨hblk, Lib.hid ⟨pR, aR, nR, cR, ER, rfl, (hr.var hblk hon).eq hz, hbw.trans (hon.below (Nat.le_refl _) hbw.size)⟩⟩
  have HREST := Lib.hid rest
  clear rest hc1
  by_cases hF0 : F = 0
  · subst hF0
    have hu0 : un (rg b) = G * 2 ^ 0 := by rw [HU.out, if_pos rfl]
    have HZ := Lib.hid (HFIN.out G 0 hu0).symm
    clear hu0
    go_enter Tryd.func7, Tryd.ntmps7
    go_wp2_with (simp only [bits_run])
    refine (small_num (G : Int) w1 (by omega) (by omega)).mono ?_
    rintro e w2 ⟨a2, n2, c2, rfl, h2r, hb2⟩
    have HMK := Lib.hid (qmake_num (b := 2200) 1074 p (-1074) (e0 := 0) (by omega) (by omega) (by omega) h2r (by omega) (by omega) (by omega))
    go_wp2_with fail
    refine HMK.out.mono ?_
    rintro e w4 ⟨pR, aR, nR, cR, ER, rfl, hr, hb4⟩
    obtain ⟨hblk, HR⟩ := HREST.out w4 w.heap.size _ pR aR nR cR ER (hb2.trans (hb4.mono hb2.size)) hr HZ.out rfl
    obtain ⟨⟨k0, k1, k2⟩, f0, f1, f2⟩ := slot3 hblk
    have hend := slot3_set (u := .bool pR) (v := .slice aR nR cR) (s := .int .i64 ER) hblk
    clear hr
    go_wp2_with fail
    exact bodyPost_ret (results_cell_row rfl _ _ w.heap.size 31 _ (0, 0) _ rfl hend Tryd.underlying31 rfl (by kernel_rfl)) rfl HR.out
  · have hu0 : un (rg b) = (4503599627370496 + G) * 2 ^ (F - 1) := by rw [HU.out, if_neg hF0]
    obtain ⟨f, hf⟩ : ∃ f, F - 1 = f := ⟨_, rfl⟩
    rw [hf] at hu0
    have HZ := Lib.hid (HFIN.out _ f hu0).symm
    have hF1 : (0 : Int) < (F : Int) := by omega
    have hMI : (G : Int) + 4503599627370496 = ((4503599627370496 + G : Nat) : Int) := by omega
    obtain ⟨M, hM⟩ : ∃ M : Nat, 4503599627370496 + G = M := ⟨_, rfl⟩
    rw [hM] at hMI HZ
    have hMb : M < 9007199254740992 := by omega
    obtain ⟨e2, he2⟩ : ∃ e2 : Int, (F : Int) - 1075 = e2 := ⟨_, rfl⟩
    have he2f : e2 + ((1074 : Nat) : Int) = (f : Int) := by omega
    have hfb : f ≤ 2045 := by omega
    clear hu0 hf hF0
    go_enter Tryd.func7, Tryd.ntmps7
    go_wp2_with (simp only [bits_run])
    refine (small_num (M : Int) w1 (by omega) (by omega)).mono ?_
    rintro e w2 ⟨a2, n2, c2, rfl, h2r, hb2⟩
    have HMK := Lib.hid (qmake_num (b := 2200) 1074 p (e2) (e0 := f) he2f (by omega) (by omega) h2r (by omega) (by omega) (by omega))
    go_wp2_with fail
    refine HMK.out.mono ?_
    rintro e w4 ⟨pR, aR, nR, cR, ER, rfl, hr, hb4⟩
    obtain ⟨hblk, HR⟩ := HREST.out w4 w.heap.size _ pR aR nR cR ER (hb2.trans (hb4.mono hb2.size)) hr HZ.out rfl
    obtain ⟨⟨k0, k1, k2⟩, f0, f1, f2⟩ := slot3 hblk
    have hend := slot3_set (u := .bool pR) (v := .slice aR nR cR) (s := .int .i64 ER) hblk
    clear hr
    go_wp2_with fail
    exact bodyPost_ret (results_cell_row rfl _ _ w.heap.size 31 _ (0, 0) _ rfl hend Tryd.underlying31 rfl (by kernel_rfl)) rfl HR.out
end Go.Proofs.YtjmipbljoblnnaaDoor

namespace Go.Proofs.YtjmipbljoblnnaaDoor
open Go.RowKit

set_option maxRecDepth 100000 in
theorem rbitsp_num (p : Nat) (w : World) (h1 : 1 ≤ p) (h2 : p ≤ 65536) : Calls Tryd.prog 40 #[.int .i64 (p : Int)] w fun e w' => RetB w (.int .i64 (p : Int)) e w' := by
  have e1 : max (p : Int) 1 = (p : Int) := by omega
  have e2 : min (p : Int) 65536 = (p : Int) := by omega
  go_enter Tryd.func40, Tryd.ntmps40
  go_wp2_with fail
  go_ret
  exact ⟨rfl, rfl⟩
/-- The amount to which N is cut at so many bits. -/
def cutV (N : Int) (p : Nat) (away : Bool) : Int := if nb N ≤ p then N else N / 2 ^ (nb N - p) + if (decide (¬ N / 2 ^ (nb N - p) * 2 ^ (nb N - p) = N) && away) = true then 1 else 0
set_option maxRecDepth 100000 in
set_option maxHeartbeats 1200000 in
theorem rcut_num {w : World} (L : Nat) (neg : Bool) {a : Option Addr} {n c : Nat} {N : Int} {m E0 b : Nat} (E dir : Int) (p : Nat) (h : RN w (.slice a n c) N m) (hE : E + (L : Int) = (E0 : Int)) (hm : m ≤ 1000) (hm2 : 2 ≤ m) (heb : E0 + 64 * (m + 1) ≤ b) (hLb : L ≤ b) (hb : b ≤ 900000) (hp1 : 1 ≤ p) (hp2 : p ≤ 65536) (hN : 0 < N) :
    Calls Tryd.prog 43 #[.bool neg, .slice a n c, .int .i64 E, .bool false, .int .i64 (p : Int), .int .i64 dir] w fun e w' => RetQZ L w (sg neg (cutV N p (neg == decide (dir < 0))) * 2 ^ (E0 + (nb N - p))) (m + 1) b e w' := by
  obtain ⟨w1, hw1⟩ : ∃ w1, w.alloc (.cells #[.bool false, .slice none 0 0, .int .i64 0] 31) = w1 := ⟨_, rfl⟩
  have hb1 : Below w.heap.size w w1 := hw1 ▸ below_alloc w _
  have hc1 : w1.heap[w.heap.size]? = some (.cells #[.bool false, .slice none 0 0, .int .i64 0] 31 (0, 0)) := hw1 ▸ heap_alloc_new w _
  replace h := h.below hb1
  have hnl : nb N ≤ 32 * m := by
    have hlt := h.lt
    obtain ⟨q1, q2, q3⟩ := nb_spec hN
    have h5 : (2 : Int) ^ (nb N - 1) < 2 ^ (32 * m) := by
      rw [show (2 : Int) ^ (32 * m) = B32 ^ m by rw [Int.pow_mul]; rfl]
      omega
    have := two_pow_lt_of h5
    omega
  have HBLK := Lib.hid hc1
  obtain ⟨V, hV⟩ : ∃ V, cutV N p (neg == decide (dir < 0)) = V := ⟨_, rfl⟩
  rw [hV]
  unfold cutV at hV
  have HBI := Lib.hid (rbits_num h (by omega))
  obtain ⟨B, hB⟩ : ∃ B, nb N = B := ⟨_, rfl⟩
  rw [hB] at hV hnl HBI ⊢
  clear hc1
  by_cases hs : B ≤ p
  · rw [if_pos hs] at hV
    subst hV
    have hn : ¬ (0 : Int) < (B : Int) - (p : Int) := by omega
    have e0 : B - p = 0 := by omega
    rw [e0, Nat.add_zero]
    have HMK := Lib.hid (qmake_num (b := b) L neg E hE (by omega) hLb h (by omega) (by omega) (by omega))
    have HBW := Lib.hid hb1
    have HBT := Lib.hid (Below.refl w1.heap.size w1)
    obtain ⟨T, hT⟩ : ∃ T : Int, (B : Int) - (p : Int) = T := ⟨_, rfl⟩
    rw [hT] at hn
    have hTb : -70000 ≤ T ∧ T ≤ 70000 := by omega
    clear hs e0 hB hnl heb h hb1
    go_enter Tryd.func43, Tryd.ntmps43
    go_wp2_with fail
    refine HBI.out.mono ?_
    rintro e w' ⟨rfl, rfl⟩
    go_wp2_with fail
    refine HMK.out.mono ?_
    rintro e wz ⟨pR, aR, nR, cR, ER, rfl, hr, hbz⟩
    have hblk := slot_kept HBLK.out (HBT.out.trans (hbz.mono HBT.out.size))
    obtain ⟨⟨k0, k1, k2⟩, f0, f1, f2⟩ := slot3 hblk
    have hend := slot3_set (u := .bool pR) (v := .slice aR nR cR) (s := .int .i64 ER) hblk
    have hon := slot3_only (w := wz) (g := w.heap.size) (.bool pR) (.slice aR nR cR) (.int .i64 ER)
    have hbx := HBW.out.trans (hbz.mono HBW.out.size)
    have HR : Hid (RetQZ L w (sg neg N * 2 ^ (E0)) (m + 1) b (.returned (.agg #[.bool pR, .slice aR nR cR, .int .i64 ER])) (((wz.setCell ⟨w.heap.size, 0, none⟩ (.bool pR)).setCell ⟨w.heap.size, 1, none⟩ (.slice aR nR cR)).setCell ⟨w.heap.size, 2, none⟩ (.int .i64 ER))) :=
      Lib.hid ⟨pR, aR, nR, cR, ER, rfl, (hr.var hblk hon).mono (Nat.le_succ m) (Nat.le_refl b), hbx.trans (hon.below (Nat.le_refl _) hbx.size)⟩
    clear hr hbz hon hbx
    go_wp2_with fail
    exact bodyPost_ret (results_cell_row rfl _ _ w.heap.size 31 _ (0, 0) _ rfl hend Tryd.underlying31 rfl (by kernel_rfl)) rfl HR.out
  · rw [if_neg hs] at hV
    obtain ⟨j, hj⟩ : ∃ j, B - p = j := ⟨_, rfl⟩
    rw [hj] at hV ⊢
    have hn : (0 : Int) < (j : Int) := by omega
    have hT : (B : Int) - (p : Int) = (j : Int) := by omega
    obtain ⟨E2, hE2⟩ : ∃ E2 : Int, E + (j : Int) = E2 := ⟨_, rfl⟩
    have hE2L : E2 + (L : Int) = ((E0 + j : Nat) : Int) := by omega
    have hE2b : -1000000 ≤ E2 ∧ E2 ≤ 1000000 := by omega
    have hjb : j ≤ 32 * m := by omega
    obtain ⟨M, hM⟩ : ∃ M, N / 2 ^ j = M := ⟨_, rfl⟩
    rw [hM] at hV
    have HSR := Lib.hid (rshr_num j h (by omega) (by omega))
    rw [hM] at HSR
    have HM := Lib.hid hM
    obtain ⟨rs, hrs⟩ : ∃ rs, decide (¬ M * 2 ^ j = N) = rs := ⟨_, rfl⟩
    obtain ⟨aw, haw⟩ : ∃ aw, (neg == decide (dir < 0)) = aw := ⟨_, rfl⟩
    rw [hrs, haw] at hV
    have HV := Lib.hid hV
    have hcz : (cmpI (M * 2 ^ j) N != 0) = rs := by
      rw [← hrs]
      rcases Int.lt_trichotomy (M * 2 ^ j) N with h1 | h1 | h1
      · rw [cmpI_lt h1, decide_eq_true (by omega)]; rfl
      · rw [cmpI_eq h1, decide_eq_false (by omega)]; rfl
      · rw [cmpI_gt h1, decide_eq_true (by omega)]; rfl
    obtain ⟨o, ho⟩ : ∃ o, cmpI (M * 2 ^ j) N = o := ⟨_, rfl⟩
    rw [ho] at hcz
    have HO := Lib.hid ho
    have HB1 := Lib.hid hb1
    have HH := Lib.hid h
    have HNB : Hid (j ≤ 32 * m ∧ m ≤ 1000 ∧ E0 + 64 * (m + 1) ≤ b ∧ L ≤ b ∧ b ≤ 900000) := Lib.hid ⟨hjb, hm, heb, hLb, hb⟩
    clear hs hB hnl heb hM hrs hV hb1 h ho hj
    go_enter Tryd.func43, Tryd.ntmps43
    go_wp2_with fail
    refine HBI.out.mono ?_
    rintro e w' ⟨rfl, rfl⟩
    go_wp2_with fail
    refine HSR.out.mono ?_
    rintro e w2 ⟨a2, n2, c2, rfl, h2, hb2⟩
    have H2 := Lib.hid h2
    have HB2 := Lib.hid hb2
    have HSL := Lib.hid (rshl_num (p := 3000) j h2 (by have := HNB.out; omega) (by have := HNB.out; omega) (by have := HNB.out; omega))
    clear h2 hb2
    go_wp2_with fail
    refine HSL.out.mono ?_
    rintro e w3 ⟨a3, n3, c3, rfl, h3, hb3⟩
    have HB3 := Lib.hid (HB2.out.trans (hb3.mono HB2.out.size))
    have h23 := H2.out.below hb3
    have hcm := rcmp_num h3 (HH.out.below HB3.out)
    rw [HO.out] at hcm
    have HCM := Lib.hid hcm
    have H23 := Lib.hid h23
    clear h3 hb3 hcm h23 HSL
    go_wp2_with fail
    refine HCM.out.mono ?_
    rintro e w4 ⟨rfl, hb4⟩
    have HBT := Lib.hid (HB3.out.trans (hb4.mono HB3.out.size))
    have HBW := Lib.hid (HB1.out.trans (HBT.out.mono HB1.out.size))
    have h24 := H23.out.below hb4
    have H24 := Lib.hid h24
    clear hb4 h24
    have HMK : Hid (Calls Tryd.prog 27 #[.bool neg, .slice a2 n2 c2, .int .i64 E2] w4 fun e w' => RetQZ L w4 (sg neg M * 2 ^ (E0 + j)) m b e w') := Lib.hid (qmake_num (b := b) L neg E2 hE2L (by have := HNB.out; omega) hLb H24.out (by have := HNB.out; omega) (by have := HNB.out; omega) (by have := HNB.out; omega))
    have arm : (rs && aw) = false → V = M := fun h => by
      have := HV.out
      rw [h] at this
      simpa using this.symm
    have ARM := Lib.hid arm
    clear arm
    cases rs
    · obtain rfl := ARM.out rfl
      go_wp2_with fail
      refine HMK.out.mono ?_
      rintro e wz ⟨pR, aR, nR, cR, ER, rfl, hr, hbz⟩
      have hblk := slot_kept HBLK.out (HBT.out.trans (hbz.mono HBT.out.size))
      obtain ⟨⟨k0, k1, k2⟩, f0, f1, f2⟩ := slot3 hblk
      have hend := slot3_set (u := .bool pR) (v := .slice aR nR cR) (s := .int .i64 ER) hblk
      have hon := slot3_only (w := wz) (g := w.heap.size) (.bool pR) (.slice aR nR cR) (.int .i64 ER)
      have hbx := HBW.out.trans (hbz.mono HBW.out.size)
      have HR : Hid (RetQZ L w (sg neg V * 2 ^ (E0 + j)) (m + 1) b (.returned (.agg #[.bool pR, .slice aR nR cR, .int .i64 ER])) (((wz.setCell ⟨w.heap.size, 0, none⟩ (.bool pR)).setCell ⟨w.heap.size, 1, none⟩ (.slice aR nR cR)).setCell ⟨w.heap.size, 2, none⟩ (.int .i64 ER))) :=
        Lib.hid ⟨pR, aR, nR, cR, ER, rfl, (hr.var hblk hon).mono (Nat.le_succ m) (Nat.le_refl b), hbx.trans (hon.below (Nat.le_refl _) hbx.size)⟩
      clear hr hbz hon hbx
      go_wp2_with fail
      exact bodyPost_ret (results_cell_row rfl _ _ w.heap.size 31 _ (0, 0) _ rfl hend Tryd.underlying31 rfl (by kernel_rfl)) rfl HR.out
    · cases aw
      · obtain rfl := ARM.out rfl
        go_wp2_with fail
        refine HMK.out.mono ?_
        rintro e wz ⟨pR, aR, nR, cR, ER, rfl, hr, hbz⟩
        have hblk := slot_kept HBLK.out (HBT.out.trans (hbz.mono HBT.out.size))
        obtain ⟨⟨k0, k1, k2⟩, f0, f1, f2⟩ := slot3 hblk
        have hend := slot3_set (u := .bool pR) (v := .slice aR nR cR) (s := .int .i64 ER) hblk
        have hon := slot3_only (w := wz) (g := w.heap.size) (.bool pR) (.slice aR nR cR) (.int .i64 ER)
        have hbx := HBW.out.trans (hbz.mono HBW.out.size)
        have HR : Hid (RetQZ L w (sg neg V * 2 ^ (E0 + j)) (m + 1) b (.returned (.agg #[.bool pR, .slice aR nR cR, .int .i64 ER])) (((wz.setCell ⟨w.heap.size, 0, none⟩ (.bool pR)).setCell ⟨w.heap.size, 1, none⟩ (.slice aR nR cR)).setCell ⟨w.heap.size, 2, none⟩ (.int .i64 ER))) :=
          Lib.hid ⟨pR, aR, nR, cR, ER, rfl, (hr.var hblk hon).mono (Nat.le_succ m) (Nat.le_refl b), hbx.trans (hon.below (Nat.le_refl _) hbx.size)⟩
        clear hr hbz hon hbx
        go_wp2_with fail
        exact bodyPost_ret (results_cell_row rfl _ _ w.heap.size 31 _ (0, 0) _ rfl hend Tryd.underlying31 rfl (by kernel_rfl)) rfl HR.out
      · have HV1 : Hid (M + 1 = V) := Lib.hid (by have := HV.out; simpa using this)
        have HSM := Lib.hid (small_num 1 w4 (by decide) (by decide))
        clear ARM HV HMK
        go_wp2_with fail
        refine HSM.out.mono ?_
        rintro e w5 ⟨a5, n5, c5, rfl, h5, hb5⟩
        have HB5 := Lib.hid hb5
        have hAD := radd_num (p := m + 1) (H24.out.below hb5) h5 (by omega) (by omega) (by have := HNB.out; omega)
        rw [HV1.out] at hAD
        have HAD := Lib.hid hAD
        clear h5 hb5 hAD HSM
        go_wp2_with fail
        refine HAD.out.mono ?_
        rintro e w6 ⟨a6, n6, c6, rfl, h6, hb6⟩
        have HBW6 := Lib.hid (HBW.out.trans ((HB5.out.trans (hb6.mono HB5.out.size)).mono HBW.out.size))
        have HBT6 := Lib.hid (HBT.out.trans ((HB5.out.trans (hb6.mono HB5.out.size)).mono HBT.out.size))
        have HMK : Hid (Calls Tryd.prog 27 #[.bool neg, .slice a6 n6 c6, .int .i64 E2] w6 fun e w' => RetQZ L w6 (sg neg V * 2 ^ (E0 + j)) (m + 1) b e w') := Lib.hid (qmake_num (b := b) L neg E2 hE2L (by have := HNB.out; omega) hLb h6 (by have := HNB.out; omega) (by have := HNB.out; omega) (by have := HNB.out; omega))
        clear h6 hb6 HAD
        go_wp2_with fail
        refine HMK.out.mono ?_
        rintro e wz ⟨pR, aR, nR, cR, ER, rfl, hr, hbz⟩
        have hblk := slot_kept HBLK.out (HBT6.out.trans (hbz.mono HBT6.out.size))
        obtain ⟨⟨k0, k1, k2⟩, f0, f1, f2⟩ := slot3 hblk
        have hend := slot3_set (u := .bool pR) (v := .slice aR nR cR) (s := .int .i64 ER) hblk
        have hon := slot3_only (w := wz) (g := w.heap.size) (.bool pR) (.slice aR nR cR) (.int .i64 ER)
        have hbx := HBW6.out.trans (hbz.mono HBW6.out.size)
        have HR : Hid (RetQZ L w (sg neg V * 2 ^ (E0 + j)) (m + 1) b (.returned (.agg #[.bool pR, .slice aR nR cR, .int .i64 ER])) (((wz.setCell ⟨w.heap.size, 0, none⟩ (.bool pR)).setCell ⟨w.heap.size, 1, none⟩ (.slice aR nR cR)).setCell ⟨w.heap.size, 2, none⟩ (.int .i64 ER))) :=
          Lib.hid ⟨pR, aR, nR, cR, ER, rfl, (hr.var hblk hon).mono (Nat.le_refl _) (Nat.le_refl b), hbx.trans (hon.below (Nat.le_refl _) hbx.size)⟩
        clear hr hbz hon hbx
        go_wp2_with fail
        exact bodyPost_ret (results_cell_row rfl _ _ w.heap.size 31 _ (0, 0) _ rfl hend Tryd.underlying31 rfl (by kernel_rfl)) rfl HR.out
end Go.Proofs.YtjmipbljoblnnaaDoor

namespace Go.Proofs.YtjmipbljoblnnaaDoor
open Go.RowKit

theorem RQ.lift {L : Nat} {w : World} {v : Value} {Z : Int} {m b : Nat} (h : RQ L w v Z m b) (k : Nat) : RQ (L + k) w v (Z * 2 ^ k) m (b + k) := by
  obtain ⟨neg, a, n, c, N, E, E0, h1, h2, h3, h4, h5, h6, h7⟩ := h
  refine ⟨neg, a, n, c, N, E, E0 + k, h1, h2, ?_, by omega, h5, h6, by omega⟩
  rw [h3, Int.pow_add, Int.mul_assoc]
theorem RetQZ.lift {L : Nat} {w w' : World} {Z : Int} {m b : Nat} {e : Ending} (h : RetQZ L w Z m b e w') (k : Nat) : RetQZ (L + k) w (Z * 2 ^ k) m (b + k) e w' := by
  obtain ⟨neg, a, n, c, E, h1, h2, h3⟩ := h
  exact ⟨neg, a, n, c, E, h1, h2.lift k, h3⟩
theorem rq_mul {p q : Bool} {N M Zx Zy : Int} {E G T : Nat} (h1 : Zx = sg p N * 2 ^ E) (h2 : Zy = sg q M * 2 ^ G) (hT : E + G = T) : sg (p != q) (N * M) * 2 ^ T = Zx * Zy := by
  rw [h1, h2, ← hT, Int.pow_add]
  cases p <;> cases q <;> simp only [sg, bne_self_eq_false, Bool.true_bne, Bool.false_bne, Bool.not_false, if_true, if_false, Bool.false_eq_true] <;> grind
set_option maxRecDepth 100000 in
set_option maxHeartbeats 1200000 in
theorem qmul_num {L1 L2 : Nat} {w : World} {p q : Bool} {a a2 : Option Addr} {n c n2 c2 : Nat} {E G : Int} {Zx Zy : Int} {m k b d : Nat} (hX : RQ L1 w (.agg #[.bool p, .slice a n c, .int .i64 (E : Int)]) Zx m b) (hY : RQ L2 w (.agg #[.bool q, .slice a2 n2 c2, .int .i64 (G : Int)]) Zy k d) (hb : b ≤ 400000) (hd : d ≤ 400000) (hm : m ≤ 5000) (hk : k ≤ 5000) (hL1 : L1 ≤ b) (hL2 : L2 ≤ d) :
    Calls Tryd.prog 11 #[.agg #[.bool p, .slice a n c, .int .i64 (E : Int)], .agg #[.bool q, .slice a2 n2 c2, .int .i64 (G : Int)]] w fun e w' => RetQZ (L1 + L2) w (Zx * Zy) (m + k) (b + d + 32 * (m + k)) e w' := by
  obtain ⟨N, E0, h1, hz1, hEE, -, -, hE⟩ := hX.open
  obtain ⟨M, G0, h2, hz2, hGG, -, -, hG⟩ := hY.open
  obtain ⟨T0, hT⟩ : ∃ T, E0 + G0 = T := ⟨_, rfl⟩
  obtain ⟨T, hTI⟩ : ∃ T : Int, E + G = T := ⟨_, rfl⟩
  have HV := Lib.hid (rq_mul hz1 hz2 hT)
  have hTd : T0 ≤ b + d := by omega
  have hTs : T0 + 32 * (m + k) ≤ b + d + 32 * (m + k) := Nat.add_le_add_right hTd _
  have hLs : L1 + L2 ≤ T0 + 32 * (m + k) + (b + d) := by omega
  have hL9 : L1 + L2 ≤ 1000000 := by omega
  have hT9 : T0 ≤ 1000000 := by omega
  have hTL : T + ((L1 + L2 : Nat) : Int) = (T0 : Int) := by omega
  have hTb : -800000 ≤ T ∧ T ≤ 800000 := by omega
  have hsum : (E : Int) + (G : Int) = (T : Int) := hTI
  have hwr : IntKind.i64.wrap (T : Int) = (T : Int) := by rw [IntKind.wrap_i64]; omega
  obtain ⟨w1, hw1⟩ : ∃ w1, w.alloc (.cells #[.bool p, .slice a n c, .int .i64 (E : Int)] 31) = w1 := ⟨_, rfl⟩
  obtain ⟨w2, hw2⟩ : ∃ w2, w1.alloc (.cells #[.bool q, .slice a2 n2 c2, .int .i64 (G : Int)] 31) = w2 := ⟨_, rfl⟩
  obtain ⟨w3, hw3⟩ : ∃ w3, w2.alloc (.cells #[.bool false, .slice none 0 0, .int .i64 0] 31) = w3 := ⟨_, rfl⟩
  have hb1 : Below w.heap.size w w1 := hw1 ▸ below_alloc w _
  have hb12 : Below w1.heap.size w1 w2 := hw2 ▸ below_alloc w1 _
  have hb23 : Below w2.heap.size w2 w3 := hw3 ▸ below_alloc w2 _
  have hb2 : Below w.heap.size w w2 := hb1.trans (hb12.mono hb1.size)
  have hb3 : Below w.heap.size w w3 := hb2.trans (hb23.mono hb2.size)
  have hc1 : w3.heap[w.heap.size]? = some (.cells #[.bool p, .slice a n c, .int .i64 (E : Int)] 31 (0, 0)) := slot_kept (slot_kept (hw1 ▸ heap_alloc_new w _) hb12) hb23
  have hc2 : w3.heap[w1.heap.size]? = some (.cells #[.bool q, .slice a2 n2 c2, .int .i64 (G : Int)] 31 (0, 0)) := slot_kept (hw2 ▸ heap_alloc_new w1 _) hb23
  have hc3 : w3.heap[w2.heap.size]? = some (.cells #[.bool false, .slice none 0 0, .int .i64 0] 31 (0, 0)) := hw3 ▸ heap_alloc_new w2 _
  replace h1 := h1.below hb3
  replace h2 := h2.below hb3
  clear hX hY hz1 hz2 hT hTI hb12 hb23 hEE hGG
  go_enter Tryd.func11, Tryd.ntmps11
  go_upto_region 1 with fail
  refine wp_region_slots_tail (by kernel_rfl) 16 [5, 6, 7, 8, 9, 10, 11, 12, 13, 14, 15, 16, 17, 18, 19, 20] (fun w' => w'.heap[w.heap.size]? = some (.cells #[.bool p, .slice a n c, .int .i64 (E : Int)] 31 (0, 0)) ∧ w'.heap[w1.heap.size]? = some (.cells #[.bool q, .slice a2 n2 c2, .int .i64 (G : Int)] 31 (0, 0)) ∧ w'.heap[w2.heap.size]? = some (.cells #[.bool false, .slice none 0 0, .int .i64 0] 31 (0, 0)) ∧ RN w' (.slice a n c) N m ∧ RN w' (.slice a2 n2 c2) M k ∧ Below w3.heap.size w3 w') (Said [Is (.pointer (some ⟨w.heap.size, 0, none⟩)), Is (.bool p), Is (.pointer (some ⟨w1.heap.size, 0, none⟩)), Is (.bool q), Is (.bool (p != q)), Is (.pointer (some ⟨w.heap.size, 1, none⟩)), Is (.slice a n c), Is (.pointer (some ⟨w1.heap.size, 1, none⟩)), Is (.slice a2 n2 c2), IsRN (N * M) (m + k), Is (.pointer (some ⟨w.heap.size, 2, none⟩)), Is (.int .i64 (E : Int)), Is (.pointer (some ⟨w1.heap.size, 2, none⟩)), Is (.int .i64 (G : Int)), Is (.int .i64 (T : Int)), IsQZ (L1 + L2) (sg (p != q) (N * M) * 2 ^ T0) (m + k) (b + d + 32 * (m + k))]) (by kernel_rfl) (by kernel_rfl) (by kernel_rfl) (by kernel_rfl) (by kernel_rfl) (Said.keep ?keep) ⟨slot_kept hc1 (bdn (Below.refl _ _) 1), slot_kept hc2 (bdn (Below.refl _ _) 1), slot_kept hc3 (bdn (Below.refl _ _) 1), h1.below (bdn (Below.refl _ _) 1), h2.below (bdn (Below.refl _ _) 1), bdn (Below.refl _ _) 1⟩ (l := [0, 1, 2, 3, 4, 5, 6, 7, 8, 9, 10, 11, 12, 13, 14, 15]) (by kernel_rfl) ?step ?fin
  case keep =>
    refine List.forall_mem_cons.2 ⟨Is.keeps _, ?_⟩
    refine List.forall_mem_cons.2 ⟨Is.keeps _, ?_⟩
    refine List.forall_mem_cons.2 ⟨Is.keeps _, ?_⟩
    refine List.forall_mem_cons.2 ⟨Is.keeps _, ?_⟩
    refine List.forall_mem_cons.2 ⟨Is.keeps _, ?_⟩
    refine List.forall_mem_cons.2 ⟨Is.keeps _, ?_⟩
    refine List.forall_mem_cons.2 ⟨Is.keeps _, ?_⟩
    refine List.forall_mem_cons.2 ⟨Is.keeps _, ?_⟩
    refine List.forall_mem_cons.2 ⟨Is.keeps _, ?_⟩
    refine List.forall_mem_cons.2 ⟨IsRN.keeps _ _, ?_⟩
    refine List.forall_mem_cons.2 ⟨Is.keeps _, ?_⟩
    refine List.forall_mem_cons.2 ⟨Is.keeps _, ?_⟩
    refine List.forall_mem_cons.2 ⟨Is.keeps _, ?_⟩
    refine List.forall_mem_cons.2 ⟨Is.keeps _, ?_⟩
    refine List.forall_mem_cons.2 ⟨Is.keeps _, ?_⟩
    refine List.forall_mem_cons.2 ⟨IsQZ.keeps _ _ _ _, ?_⟩
    exact fun _ h => nomatch h
  case step =>
    refine List.forall_mem_cons.2 ⟨?_, ?_⟩
    · refine SlotStep.plain rfl rfl rfl ?_
      intro tm ws hsame hS hg K hK
      have e2 : tm[2]? = some (.pointer (some ⟨w.heap.size, 0, none⟩)) := hsame.2 2 rfl
      go_simp
      exact hK _ _ (Below.refl _ _) hS (rfl)
    refine List.forall_mem_cons.2 ⟨?_, ?_⟩
    · refine SlotStep.plain rfl rfl rfl ?_
      intro tm ws hsame hS hg K hK
      obtain ⟨v5, e5, rfl⟩ := hg 0 (by kernel_rfl) _ 5 rfl rfl
      obtain ⟨⟨k0, k1, k2⟩, -⟩ := slot3 hS.1
      go_simp
      exact hK _ _ (Below.refl _ _) hS (rfl)
    refine List.forall_mem_cons.2 ⟨?_, ?_⟩
    · refine SlotStep.plain rfl rfl rfl ?_
      intro tm ws hsame hS hg K hK
      have e3 : tm[3]? = some (.pointer (some ⟨w1.heap.size, 0, none⟩)) := hsame.2 3 rfl
      go_simp
      exact hK _ _ (Below.refl _ _) hS (rfl)
    refine List.forall_mem_cons.2 ⟨?_, ?_⟩
    · refine SlotStep.plain rfl rfl rfl ?_
      intro tm ws hsame hS hg K hK
      obtain ⟨v7, e7, rfl⟩ := hg 2 (by kernel_rfl) _ 7 rfl rfl
      obtain ⟨⟨k0, k1, k2⟩, -⟩ := slot3 hS.2.1
      go_simp
      exact hK _ _ (Below.refl _ _) hS (rfl)
    refine List.forall_mem_cons.2 ⟨?_, ?_⟩
    · refine SlotStep.plain rfl rfl rfl ?_
      intro tm ws hsame hS hg K hK
      obtain ⟨v6, e6, rfl⟩ := hg 1 (by kernel_rfl) _ 6 rfl rfl
      obtain ⟨v8, e8, rfl⟩ := hg 3 (by kernel_rfl) _ 8 rfl rfl
      go_simp
      exact hK _ _ (Below.refl _ _) hS (by first | rfl | (cases p <;> cases q <;> rfl))
    refine List.forall_mem_cons.2 ⟨?_, ?_⟩
    · refine SlotStep.plain rfl rfl rfl ?_
      intro tm ws hsame hS hg K hK
      have e2 : tm[2]? = some (.pointer (some ⟨w.heap.size, 0, none⟩)) := hsame.2 2 rfl
      go_simp
      exact hK _ _ (Below.refl _ _) hS (rfl)
    refine List.forall_mem_cons.2 ⟨?_, ?_⟩
    · refine SlotStep.plain rfl rfl rfl ?_
      intro tm ws hsame hS hg K hK
      obtain ⟨v10, e10, rfl⟩ := hg 5 (by kernel_rfl) _ 10 rfl rfl
      obtain ⟨⟨k0, k1, k2⟩, -⟩ := slot3 hS.1
      go_simp
      exact hK _ _ (Below.refl _ _) hS (rfl)
    refine List.forall_mem_cons.2 ⟨?_, ?_⟩
    · refine SlotStep.plain rfl rfl rfl ?_
      intro tm ws hsame hS hg K hK
      have e3 : tm[3]? = some (.pointer (some ⟨w1.heap.size, 0, none⟩)) := hsame.2 3 rfl
      go_simp
      exact hK _ _ (Below.refl _ _) hS (rfl)
    refine List.forall_mem_cons.2 ⟨?_, ?_⟩
    · refine SlotStep.plain rfl rfl rfl ?_
      intro tm ws hsame hS hg K hK
      obtain ⟨v12, e12, rfl⟩ := hg 7 (by kernel_rfl) _ 12 rfl rfl
      obtain ⟨⟨k0, k1, k2⟩, -⟩ := slot3 hS.2.1
      go_simp
      exact hK _ _ (Below.refl _ _) hS (rfl)
    refine List.forall_mem_cons.2 ⟨?_, ?_⟩
    · refine SlotStep.plain rfl rfl rfl ?_
      intro tm ws hsame hS hg K hK
      obtain ⟨v11, e11, rfl⟩ := hg 6 (by kernel_rfl) _ 11 rfl rfl
      obtain ⟨v13, e13, rfl⟩ := hg 8 (by kernel_rfl) _ 13 rfl rfl
      go_simp
      refine (rmul_num hS.2.2.2.1 hS.2.2.2.2.1 (Nat.le_refl _) (by omega)).mono ?_
      rintro e wm ⟨aR, nR, cR, rfl, hR, hb⟩
      exact hK _ _ hb (⟨slot_kept hS.1 (hb), slot_kept hS.2.1 (hb), slot_kept hS.2.2.1 (hb), hS.2.2.2.1.below (hb), hS.2.2.2.2.1.below (hb), hS.2.2.2.2.2.trans (Below.mono (hb) hS.2.2.2.2.2.size)⟩) ⟨aR, nR, cR, rfl, hR⟩
    refine List.forall_mem_cons.2 ⟨?_, ?_⟩
    · refine SlotStep.plain rfl rfl rfl ?_
      intro tm ws hsame hS hg K hK
      have e2 : tm[2]? = some (.pointer (some ⟨w.heap.size, 0, none⟩)) := hsame.2 2 rfl
      go_simp
      exact hK _ _ (Below.refl _ _) hS (rfl)
    refine List.forall_mem_cons.2 ⟨?_, ?_⟩
    · refine SlotStep.plain rfl rfl rfl ?_
      intro tm ws hsame hS hg K hK
      obtain ⟨v15, e15, rfl⟩ := hg 10 (by kernel_rfl) _ 15 rfl rfl
      obtain ⟨⟨k0, k1, k2⟩, -⟩ := slot3 hS.1
      go_simp
      exact hK _ _ (Below.refl _ _) hS (rfl)
    refine List.forall_mem_cons.2 ⟨?_, ?_⟩
    · refine SlotStep.plain rfl rfl rfl ?_
      intro tm ws hsame hS hg K hK
      have e3 : tm[3]? = some (.pointer (some ⟨w1.heap.size, 0, none⟩)) := hsame.2 3 rfl
      go_simp
      exact hK _ _ (Below.refl _ _) hS (rfl)
    refine List.forall_mem_cons.2 ⟨?_, ?_⟩
    · refine SlotStep.plain rfl rfl rfl ?_
      intro tm ws hsame hS hg K hK
      obtain ⟨v17, e17, rfl⟩ := hg 12 (by kernel_rfl) _ 17 rfl rfl
      obtain ⟨⟨k0, k1, k2⟩, -⟩ := slot3 hS.2.1
      go_simp
      exact hK _ _ (Below.refl _ _) hS (rfl)
    refine List.forall_mem_cons.2 ⟨?_, ?_⟩
    · refine SlotStep.plain rfl rfl rfl ?_
      intro tm ws hsame hS hg K hK
      obtain ⟨v16, e16, rfl⟩ := hg 11 (by kernel_rfl) _ 16 rfl rfl
      obtain ⟨v18, e18, rfl⟩ := hg 13 (by kernel_rfl) _ 18 rfl rfl
      go_simp
      exact hK _ _ (Below.refl _ _) hS (rfl)
    refine List.forall_mem_cons.2 ⟨?_, ?_⟩
    · refine SlotStep.plain rfl rfl rfl ?_
      intro tm ws hsame hS hg K hK
      obtain ⟨v9, e9, rfl⟩ := hg 4 (by kernel_rfl) _ 9 rfl rfl
      obtain ⟨v14, e14, ⟨a14, n14, c14, rfl, g14⟩⟩ := hg 9 (by kernel_rfl) _ 14 rfl rfl
      obtain ⟨v19, e19, rfl⟩ := hg 14 (by kernel_rfl) _ 19 rfl rfl
      go_simp
      refine (qmake_num (b := b + d + 32 * (m + k)) (L1 + L2) (p != q) T hTL hTs (by omega) g14 hT9 hL9 (by omega)).mono ?_
      rintro e wm ⟨pR, aR, nR, cR, ER, rfl, hR, hb⟩
      exact hK _ _ hb (⟨slot_kept hS.1 (hb), slot_kept hS.2.1 (hb), slot_kept hS.2.2.1 (hb), hS.2.2.2.1.below (hb), hS.2.2.2.2.1.below (hb), hS.2.2.2.2.2.trans (Below.mono (hb) hS.2.2.2.2.2.size)⟩) ⟨pR, aR, nR, cR, ER, rfl, hR⟩
    exact fun _ h => nomatch h
  case fin =>
    intro tm w8 hsame hS hgot
    obtain ⟨u, hu, htm⟩ := hsame.form (by kernel_rfl)
    obtain ⟨v20, e20, pR, aR, nR, cR, ER, rfl, hr⟩ := hgot 15 (by decide) _ 20 rfl rfl
    have h20 := hu _ _ e20
    obtain ⟨-, -, hblk, -, -, hb8⟩ := hS
    obtain ⟨⟨q0, q1, q2⟩, f0, f1, f2⟩ := slot3 hblk
    have hend := slot3_set (u := .bool pR) (v := .slice aR nR cR) (s := .int .i64 (ER : Int)) hblk
    have hon := slot3_only (w := w8) (g := w2.heap.size) (.bool pR) (.slice aR nR cR) (.int .i64 (ER : Int))
    have hr' := ((hr.var hblk hon).eq HV.out).mono (Nat.le_refl _) (Nat.le_refl _)
    have hbw := hb3.trans (hb8.mono hb3.size)
    have HR : Hid (RetQZ (L1 + L2) w (Zx * Zy) (m + k) (b + d + 32 * (m + k)) (.returned (.agg #[.bool pR, .slice aR nR cR, .int .i64 (ER : Int)])) (((w8.setCell ⟨w2.heap.size, 0, none⟩ (.bool pR)).setCell ⟨w2.heap.size, 1, none⟩ (.slice aR nR cR)).setCell ⟨w2.heap.size, 2, none⟩ (.int .i64 (ER : Int)))) :=
      Lib.hid ⟨pR, aR, nR, cR, ER, rfl, hr', hbw.trans (hon.below hb2.size hbw.size)⟩
    clear hgot hu hsame e20 hr hr'
    rw [htm]
    clear htm tm
    simp only [List.foldl_cons, List.foldl_nil, List.setIfInBounds_toArray, List.set_cons_zero, List.set_cons_succ, h20, List.drop_succ_cons, List.drop_zero]
    clear h20
    go_wp2_with fail
    exact bodyPost_ret (results_cell_row rfl _ _ w2.heap.size 31 _ (0, 0) _ rfl hend Tryd.underlying31 rfl (by kernel_rfl)) rfl HR.out
end Go.Proofs.YtjmipbljoblnnaaDoor

namespace Go.Proofs.YtjmipbljoblnnaaDoor
open Go.RowKit

/-- The amount to which N and a little more is cut at so many bits. -/
def cutW (N : Int) (p : Nat) (away : Bool) : Int := (if nb N ≤ p then N else N / 2 ^ (nb N - p)) + if away = true then 1 else 0
theorem rn_nb {w : World} {v : Value} {N : Int} {m : Nat} (h : RN w v N m) : nb N ≤ 32 * m := by
  have hN := h.nonneg
  by_cases h0 : N = 0
  · subst h0
    exact Nat.le_trans (Nat.le_of_eq (by decide)) (Nat.zero_le _)
  · have hlt := h.lt
    obtain ⟨q1, q2, q3⟩ := nb_spec (show 0 < N by omega)
    have h5 : (2 : Int) ^ (nb N - 1) < 2 ^ (32 * m) := by
      rw [show (2 : Int) ^ (32 * m) = B32 ^ m by rw [Int.pow_mul]; rfl]
      omega
    have := two_pow_lt_of h5
    omega
set_option maxRecDepth 100000 in
set_option maxHeartbeats 1200000 in
theorem rcut_zero {w : World} (L : Nat) (neg : Bool) {a : Option Addr} {n c : Nat} {N : Int} {m E0 b : Nat} (E dir : Int) (p : Nat) (h : RN w (.slice a n c) N m) (hE : E + (L : Int) = (E0 : Int)) (hm : m ≤ 1000) (hm2 : 2 ≤ m) (heb : E0 + 64 * (m + 1) ≤ b) (hLb : L ≤ b) (hb : b ≤ 900000) (hp1 : 1 ≤ p) (hp2 : p ≤ 65536) (hN : N = 0) :
    Calls Tryd.prog 43 #[.bool neg, .slice a n c, .int .i64 E, .bool false, .int .i64 (p : Int), .int .i64 dir] w fun e w' => RetQZ L w (sg neg N * 2 ^ (E0 + (nb N - p))) (m + 1) b e w' := by
  obtain ⟨w1, hw1⟩ : ∃ w1, w.alloc (.cells #[.bool false, .slice none 0 0, .int .i64 0] 31) = w1 := ⟨_, rfl⟩
  have hb1 : Below w.heap.size w w1 := hw1 ▸ below_alloc w _
  have hc1 : w1.heap[w.heap.size]? = some (.cells #[.bool false, .slice none 0 0, .int .i64 0] 31 (0, 0)) := hw1 ▸ heap_alloc_new w _
  replace h := h.below hb1
  have hnl := rn_nb h
  have HBLK := Lib.hid hc1
  have HBI := Lib.hid (rbits_num h (by omega))
  have HBW := Lib.hid hb1
  have HBT := Lib.hid (Below.refl w1.heap.size w1)
  have e0 : nb N = 0 := by rw [hN]; decide
  rw [e0] at HBI ⊢
  rw [show 0 - p = 0 by omega, Nat.add_zero]
  have HMK := Lib.hid (qmake_num (b := b) L neg E hE (by omega) hLb h (by omega) (by omega) (by omega))
  obtain ⟨T, hT⟩ : ∃ T : Int, ((0 : Nat) : Int) - (p : Int) = T := ⟨_, rfl⟩
  have hn : ¬ (0 : Int) < T := by omega
  have hTb : -70000 ≤ T ∧ T ≤ 70000 := by omega
  clear hN e0 hnl heb h hb1 hc1
  go_enter Tryd.func43, Tryd.ntmps43
  go_wp2_with fail
  refine HBI.out.mono ?_
  rintro e w' ⟨rfl, rfl⟩
  go_wp2_with fail
  refine HMK.out.mono ?_
  rintro e wz ⟨pR, aR, nR, cR, ER, rfl, hr, hbz⟩
  have hblk := slot_kept HBLK.out (HBT.out.trans (hbz.mono HBT.out.size))
  obtain ⟨⟨k0, k1, k2⟩, f0, f1, f2⟩ := slot3 hblk
  have hend := slot3_set (u := .bool pR) (v := .slice aR nR cR) (s := .int .i64 ER) hblk
  have hon := slot3_only (w := wz) (g := w.heap.size) (.bool pR) (.slice aR nR cR) (.int .i64 ER)
  have hbx := HBW.out.trans (hbz.mono HBW.out.size)
  have HR : Hid (RetQZ L w (sg neg N * 2 ^ E0) (m + 1) b (.returned (.agg #[.bool pR, .slice aR nR cR, .int .i64 ER])) (((wz.setCell ⟨w.heap.size, 0, none⟩ (.bool pR)).setCell ⟨w.heap.size, 1, none⟩ (.slice aR nR cR)).setCell ⟨w.heap.size, 2, none⟩ (.int .i64 ER))) :=
    Lib.hid ⟨pR, aR, nR, cR, ER, rfl, (hr.var hblk hon).mono (by omega) (Nat.le_refl b), hbx.trans (hon.below (Nat.le_refl _) hbx.size)⟩
  clear hr hbz hon hbx
  go_wp2_with fail
  exact bodyPost_ret (results_cell_row rfl _ _ w.heap.size 31 _ (0, 0) _ rfl hend Tryd.underlying31 rfl (by kernel_rfl)) rfl HR.out
set_option maxRecDepth 100000 in
set_option maxHeartbeats 1200000 in
theorem rcut_rest {w : World} (L : Nat) (neg : Bool) {a : Option Addr} {n c : Nat} {N : Int} {m E0 b : Nat} (E dir : Int) (p : Nat) (h : RN w (.slice a n c) N m) (hE : E + (L : Int) = (E0 : Int)) (hm : m ≤ 1000) (hm2 : 2 ≤ m) (heb : E0 + 64 * (m + 1) ≤ b) (hLb : L ≤ b) (hb : b ≤ 900000) (hp1 : 1 ≤ p) (hp2 : p ≤ 65536) :
    Calls Tryd.prog 43 #[.bool neg, .slice a n c, .int .i64 E, .bool true, .int .i64 (p : Int), .int .i64 dir] w fun e w' => RetQZ L w (sg neg (cutW N p (neg == decide (dir < 0))) * 2 ^ (E0 + (nb N - p))) (m + 1) b e w' := by
  obtain ⟨w1, hw1⟩ : ∃ w1, w.alloc (.cells #[.bool false, .slice none 0 0, .int .i64 0] 31) = w1 := ⟨_, rfl⟩
  have hb1 : Below w.heap.size w w1 := hw1 ▸ below_alloc w _
  have hc1 : w1.heap[w.heap.size]? = some (.cells #[.bool false, .slice none 0 0, .int .i64 0] 31 (0, 0)) := hw1 ▸ heap_alloc_new w _
  replace h := h.below hb1
  have hnl := rn_nb h
  have HBLK := Lib.hid hc1
  have HBI := Lib.hid (rbits_num h (by omega))
  have HBW := Lib.hid hb1
  have HBT := Lib.hid (Below.refl w1.heap.size w1)
  unfold cutW
  obtain ⟨aw, haw⟩ : ∃ aw, (neg == decide (dir < 0)) = aw := ⟨_, rfl⟩
  rw [haw]
  obtain ⟨B, hB⟩ : ∃ B, nb N = B := ⟨_, rfl⟩
  rw [hB] at hnl HBI ⊢
  have HH := Lib.hid h
  clear hc1 hb1
  by_cases hs : B ≤ p
  · rw [if_pos hs]
    have hn : ¬ (0 : Int) < (B : Int) - (p : Int) := by omega
    have e0 : B - p = 0 := by omega
    rw [e0, Nat.add_zero]
    obtain ⟨T, hT⟩ : ∃ T : Int, (B : Int) - (p : Int) = T := ⟨_, rfl⟩
    rw [hT] at hn
    have hTb : -70000 ≤ T ∧ T ≤ 70000 := by omega
    have HMK := Lib.hid (qmake_num (b := b) L neg E hE (by omega) hLb h (by omega) (by omega) (by omega))
    have HSM := Lib.hid (small_num 1 w1 (by decide) (by decide))
    clear hs e0 hB hnl h
    cases aw
    · rw [if_neg (by decide), Int.add_zero]
      go_enter Tryd.func43, Tryd.ntmps43
      go_wp2_with fail
      refine HBI.out.mono ?_
      rintro e w' ⟨rfl, rfl⟩
      go_wp2_with fail
      refine HMK.out.mono ?_
      rintro e wz ⟨pR, aR, nR, cR, ER, rfl, hr, hbz⟩
      have hblk := slot_kept HBLK.out (HBT.out.trans (hbz.mono HBT.out.size))
      obtain ⟨⟨k0, k1, k2⟩, f0, f1, f2⟩ := slot3 hblk
      have hend := slot3_set (u := .bool pR) (v := .slice aR nR cR) (s := .int .i64 ER) hblk
      have hon := slot3_only (w := wz) (g := w.heap.size) (.bool pR) (.slice aR nR cR) (.int .i64 ER)
      have hbx := HBW.out.trans (hbz.mono HBW.out.size)
      have HR : Hid (RetQZ L w (sg neg N * 2 ^ E0) (m + 1) b (.returned (.agg #[.bool pR, .slice aR nR cR, .int .i64 ER])) (((wz.setCell ⟨w.heap.size, 0, none⟩ (.bool pR)).setCell ⟨w.heap.size, 1, none⟩ (.slice aR nR cR)).setCell ⟨w.heap.size, 2, none⟩ (.int .i64 ER))) :=
        Lib.hid ⟨pR, aR, nR, cR, ER, rfl, (hr.var hblk hon).mono (by omega) (Nat.le_refl b), hbx.trans (hon.below (Nat.le_refl _) hbx.size)⟩
      clear hr hbz hon hbx
      go_wp2_with fail
      exact bodyPost_ret (results_cell_row rfl _ _ w.heap.size 31 _ (0, 0) _ rfl hend Tryd.underlying31 rfl (by kernel_rfl)) rfl HR.out
    · rw [if_pos rfl]
      go_enter Tryd.func43, Tryd.ntmps43
      go_wp2_with fail
      refine HBI.out.mono ?_
      rintro e w' ⟨rfl, rfl⟩
      clear HMK
      go_wp2_with fail
      refine HSM.out.mono ?_
      rintro e w5 ⟨a5, n5, c5, rfl, h5, hb5⟩
      have HB5 := Lib.hid hb5
      have HAD := Lib.hid (radd_num (p := m + 1) (HH.out.below hb5) h5 (by omega) (by omega) (by omega))
      clear h5 hb5 HSM
      go_wp2_with fail
      refine HAD.out.mono ?_
      rintro e w6 ⟨a6, n6, c6, rfl, h6, hb6⟩
      have HBW6 := Lib.hid (HBW.out.trans ((HB5.out.trans (hb6.mono HB5.out.size)).mono HBW.out.size))
      have HBT6 := Lib.hid (HBT.out.trans ((HB5.out.trans (hb6.mono HB5.out.size)).mono HBT.out.size))
      have HMK := Lib.hid (qmake_num (b := b) L neg E hE (by omega) hLb h6 (by omega) (by omega) (by omega))
      clear h6 hb6 HAD
      go_wp2_with fail
      refine HMK.out.mono ?_
      rintro e wz ⟨pR, aR, nR, cR, ER, rfl, hr, hbz⟩
      have hblk := slot_kept HBLK.out (HBT6.out.trans (hbz.mono HBT6.out.size))
      obtain ⟨⟨k0, k1, k2⟩, f0, f1, f2⟩ := slot3 hblk
      have hend := slot3_set (u := .bool pR) (v := .slice aR nR cR) (s := .int .i64 ER) hblk
      have hon := slot3_only (w := wz) (g := w.heap.size) (.bool pR) (.slice aR nR cR) (.int .i64 ER)
      have hbx := HBW6.out.trans (hbz.mono HBW6.out.size)
      have HR : Hid (RetQZ L w (sg neg (N + 1) * 2 ^ E0) (m + 1) b (.returned (.agg #[.bool pR, .slice aR nR cR, .int .i64 ER])) (((wz.setCell ⟨w.heap.size, 0, none⟩ (.bool pR)).setCell ⟨w.heap.size, 1, none⟩ (.slice aR nR cR)).setCell ⟨w.heap.size, 2, none⟩ (.int .i64 ER))) :=
        Lib.hid ⟨pR, aR, nR, cR, ER, rfl, (hr.var hblk hon).mono (by omega) (Nat.le_refl b), hbx.trans (hon.below (Nat.le_refl _) hbx.size)⟩
      clear hr hbz hon hbx
      go_wp2_with fail
      exact bodyPost_ret (results_cell_row rfl _ _ w.heap.size 31 _ (0, 0) _ rfl hend Tryd.underlying31 rfl (by kernel_rfl)) rfl HR.out
  · rw [if_neg hs]
    obtain ⟨j, hj⟩ : ∃ j, B - p = j := ⟨_, rfl⟩
    rw [hj]
    have hn : (0 : Int) < (j : Int) := by omega
    have hT : (B : Int) - (p : Int) = (j : Int) := by omega
    obtain ⟨E2, hE2⟩ : ∃ E2 : Int, E + (j : Int) = E2 := ⟨_, rfl⟩
    have hE2L : E2 + (L : Int) = ((E0 + j : Nat) : Int) := by omega
    have hE2b : -1000000 ≤ E2 ∧ E2 ≤ 1000000 := by omega
    have hjb : j ≤ 32 * m := by omega
    obtain ⟨M, hM⟩ : ∃ M, N / 2 ^ j = M := ⟨_, rfl⟩
    have HSR := Lib.hid (rshr_num j h (by omega) (by omega))
    rw [hM] at HSR ⊢
    clear hs hB hnl hM h hj
    cases aw
    · rw [if_neg (by decide), Int.add_zero]
      go_enter Tryd.func43, Tryd.ntmps43
      go_wp2_with fail
      refine HBI.out.mono ?_
      rintro e w' ⟨rfl, rfl⟩
      go_wp2_with fail
      refine HSR.out.mono ?_
      rintro e w2 ⟨a2, n2, c2, rfl, h2, hb2⟩
      have HBT2 := Lib.hid hb2
      have HBW2 := Lib.hid (HBW.out.trans (hb2.mono HBW.out.size))
      have HMK := Lib.hid (qmake_num (b := b) L neg E2 hE2L (by omega) hLb h2 (by omega) (by omega) (by omega))
      clear h2 hb2 HSR
      go_wp2_with fail
      refine HMK.out.mono ?_
      rintro e wz ⟨pR, aR, nR, cR, ER, rfl, hr, hbz⟩
      have hblk := slot_kept HBLK.out (HBT2.out.trans (hbz.mono HBT2.out.size))
      obtain ⟨⟨k0, k1, k2⟩, f0, f1, f2⟩ := slot3 hblk
      have hend := slot3_set (u := .bool pR) (v := .slice aR nR cR) (s := .int .i64 ER) hblk
      have hon := slot3_only (w := wz) (g := w.heap.size) (.bool pR) (.slice aR nR cR) (.int .i64 ER)
      have hbx := HBW2.out.trans (hbz.mono HBW2.out.size)
      have HR : Hid (RetQZ L w (sg neg M * 2 ^ (E0 + j)) (m + 1) b (.returned (.agg #[.bool pR, .slice aR nR cR, .int .i64 ER])) (((wz.setCell ⟨w.heap.size, 0, none⟩ (.bool pR)).setCell ⟨w.heap.size, 1, none⟩ (.slice aR nR cR)).setCell ⟨w.heap.size, 2, none⟩ (.int .i64 ER))) :=
        Lib.hid ⟨pR, aR, nR, cR, ER, rfl, (hr.var hblk hon).mono (by omega) (Nat.le_refl b), hbx.trans (hon.below (Nat.le_refl _) hbx.size)⟩
      clear hr hbz hon hbx
      go_wp2_with fail
      exact bodyPost_ret (results_cell_row rfl _ _ w.heap.size 31 _ (0, 0) _ rfl hend Tryd.underlying31 rfl (by kernel_rfl)) rfl HR.out
    · rw [if_pos rfl]
      go_enter Tryd.func43, Tryd.ntmps43
      go_wp2_with fail
      refine HBI.out.mono ?_
      rintro e w' ⟨rfl, rfl⟩
      go_wp2_with fail
      refine HSR.out.mono ?_
      rintro e w2 ⟨a2, n2, c2, rfl, h2, hb2⟩
      have H2 := Lib.hid h2
      have HBT2 := Lib.hid hb2
      have HBW2 := Lib.hid (HBW.out.trans (hb2.mono HBW.out.size))
      have HSM := Lib.hid (small_num 1 w2 (by decide) (by decide))
      clear h2 hb2 HSR
      go_wp2_with fail
      refine HSM.out.mono ?_
      rintro e w5 ⟨a5, n5, c5, rfl, h5, hb5⟩
      have HB5 := Lib.hid hb5
      have HAD := Lib.hid (radd_num (p := m + 1) (H2.out.below hb5) h5 (by omega) (by omega) (by omega))
      clear h5 hb5 HSM
      go_wp2_with fail
      refine HAD.out.mono ?_
      rintro e w6 ⟨a6, n6, c6, rfl, h6, hb6⟩
      have HBW6 := Lib.hid (HBW2.out.trans ((HB5.out.trans (hb6.mono HB5.out.size)).mono HBW2.out.size))
      have HBT6 := Lib.hid (HBT2.out.trans ((HB5.out.trans (hb6.mono HB5.out.size)).mono HBT2.out.size))
      have HMK := Lib.hid (qmake_num (b := b) L neg E2 hE2L (by omega) hLb h6 (by omega) (by omega) (by omega))
      clear h6 hb6 HAD
      go_wp2_with fail
      refine HMK.out.mono ?_
      rintro e wz ⟨pR, aR, nR, cR, ER, rfl, hr, hbz⟩
      have hblk := slot_kept HBLK.out (HBT6.out.trans (hbz.mono HBT6.out.size))
      obtain ⟨⟨k0, k1, k2⟩, f0, f1, f2⟩ := slot3 hblk
      have hend := slot3_set (u := .bool pR) (v := .slice aR nR cR) (s := .int .i64 ER) hblk
      have hon := slot3_only (w := wz) (g := w.heap.size) (.bool pR) (.slice aR nR cR) (.int .i64 ER)
      have hbx := HBW6.out.trans (hbz.mono HBW6.out.size)
      have HR : Hid (RetQZ L w (sg neg (M + 1) * 2 ^ (E0 + j)) (m + 1) b (.returned (.agg #[.bool pR, .slice aR nR cR, .int .i64 ER])) (((wz.setCell ⟨w.heap.size, 0, none⟩ (.bool pR)).setCell ⟨w.heap.size, 1, none⟩ (.slice aR nR cR)).setCell ⟨w.heap.size, 2, none⟩ (.int .i64 ER))) :=
        Lib.hid ⟨pR, aR, nR, cR, ER, rfl, (hr.var hblk hon).mono (by omega) (Nat.le_refl b), hbx.trans (hon.below (Nat.le_refl _) hbx.size)⟩
      clear hr hbz hon hbx
      go_wp2_with fail
      exact bodyPost_ret (results_cell_row rfl _ _ w.heap.size 31 _ (0, 0) _ rfl hend Tryd.underlying31 rfl (by kernel_rfl)) rfl HR.out
end Go.Proofs.YtjmipbljoblnnaaDoor
