/-
  Flo1: Contracts of package flo on words: cut, Finite, Step; of package math: IsNaN, IsInf.
  Dyad1: Contracts of package dyad: Make, Of, Sign, Top, on numbers of any exponent.
  Flo2: flo.shorten: a number cut to one word.
  Flo3: flo.towardsZero: the float64 next to a number towards zero.
  Flo4: flo.Float and flo.Dyad.
  FloC: Steps of float64 words there and back; the two words about a number. No program is spoken of here.
  FloAdd: The sum of two float64: it lies between the float64 beside the exact sum.
  Dyad2: Contracts of package dyad: Top, align, Cmp, Of, on numbers of any exponent.
  Dyad3: Contracts of package dyad: Cmp, Of, on numbers of any exponent; what flo.Dyad returns of words that are no numbers.
-/
import Derived.Test.YtfanhllcoaondaaGreatDoorPk5
import Derived.Test.YtfanhllcoaondaaGreatDoorPk25
import Derived.Test.YtfanhllcoaondaaGreatDoorPk21
import Derived.WalkLawsBesides
import Derived.Test.YtfanhllcoaondaaGreatDoorPk26
import Derived.Test.YtfanhllcoaondaaGreatDoorPk22

namespace Go.Proofs.YtfanhllcoaondaaGreatDoor
open Go.RowKit
theorem bits_run (b : Nat) (w : World) : (callFunc 89 #[.float .f64 b]).run Tryz.prog w = .ok (.value (.int .u64 (b : Int))) w := by
  rw [run_callFunc_extern Tryz.func89 (by kernel_rfl) (by kernel_rfl) (by kernel_rfl) (e := Extern.MathFloatBits.float64bits) (by kernel_rfl)]
  rfl
theorem frombits_run (x : Int) (w : World) : (callFunc 92 #[.int .u64 x]).run Tryz.prog w = .ok (.value (.float .f64 x.toNat)) w := by
  rw [run_callFunc_extern Tryz.func92 (by kernel_rfl) (by kernel_rfl) (by kernel_rfl) (e := Extern.MathFloatBits.float64frombits) (by kernel_rfl)]
  rfl
/-- A function has returned a float64's word and turned nothing. -/
def RetB (w : World) (v : Value) (e : Ending) (w' : World) : Prop := e = .returned v ∧ w = w'
set_option maxRecDepth 100000 in
theorem cut_num (b : Nat) (w : World) (hb : b < 18446744073709551616) : Calls Tryz.prog 86 #[.float .f64 b] w fun e w' => RetB w (.tuple #[.bool (fneg b), .int .i64 ((b / 4503599627370496 % 2048 : Nat) : Int), .int .u64 ((b % 4503599627370496 : Nat) : Int)]) e w' := by
  have h1 : bits .and .u64 ((b : Int) / 4503599627370496) 2047 = ((b / 4503599627370496 % 2048 : Nat) : Int) := by
    have := and_mask ((b : Int) / 4503599627370496) 11 (by decide) (by omega) (by omega)
    rw [show (2 : Int) ^ 11 - 1 = 2047 by decide, show (2 : Int) ^ 11 = 2048 by decide] at this
    rw [this]; omega
  have h2 : bits .and .u64 (b : Int) 4503599627370495 = ((b % 4503599627370496 : Nat) : Int) := by
    have := and_mask (b : Int) 52 (by decide) (by omega) (by omega)
    rw [show (2 : Int) ^ 52 - 1 = 4503599627370495 by decide, show (2 : Int) ^ 52 = 4503599627370496 by decide] at this
    rw [this]; omega
  have h3 : ((b : Int) / 9223372036854775808 == 1) = fneg b := by
    unfold fneg
    by_cases e : b < 9223372036854775808
    · have e1 : (b : Int) / 9223372036854775808 = 0 := by omega
      have e2 : b / 9223372036854775808 % 2 = 0 := by omega
      rw [e1, e2]; rfl
    · have e1 : (b : Int) / 9223372036854775808 = 1 := by omega
      have e2 : b / 9223372036854775808 % 2 = 1 := by omega
      rw [e1, e2]; rfl
  obtain ⟨F, hF⟩ : ∃ F, b / 4503599627370496 % 2048 = F := ⟨_, rfl⟩
  have hF2 : F < 2048 := by rw [← hF]; exact Nat.mod_lt _ (by decide)
  obtain ⟨G, hG⟩ : ∃ G, b % 4503599627370496 = G := ⟨_, rfl⟩
  obtain ⟨p, hp⟩ : ∃ p, fneg b = p := ⟨_, rfl⟩
  rw [hF] at h1 ⊢
  rw [hG] at h2 ⊢
  rw [hp] at h3 ⊢
  clear hF hG hp
  go_enter Tryz.func86, Tryz.ntmps86
  go_wp2_with (simp only [bits_run])
  go_ret3
  exact ⟨rfl, rfl⟩
theorem field_inf {b : Nat} : (b / 4503599627370496 % 2048 = 2047) ↔ INF ≤ rg b := by
  unfold rg INF
  omega
set_option maxRecDepth 100000 in
theorem finite_num (b : Nat) (w : World) (hb : b < 18446744073709551616) : Calls Tryz.prog 31 #[.float .f64 b] w fun e w' => RetB w (.bool (decide (rg b < INF))) e w' := by
  have HC := Lib.hid (cut_num b w hb)
  have hf : ((((b / 4503599627370496 % 2048 : Nat) : Int)) != 2047) = decide (rg b < INF) := by
    have h := field_inf (b := b)
    by_cases e : rg b < INF
    · rw [decide_eq_true e]
      simp only [bne_iff_ne, ne_eq]
      omega
    · rw [decide_eq_false e]
      have : b / 4503599627370496 % 2048 = 2047 := h.2 (by omega)
      rw [this]; rfl
  obtain ⟨F, hF⟩ : ∃ F, b / 4503599627370496 % 2048 = F := ⟨_, rfl⟩
  obtain ⟨G, hG⟩ : ∃ G, b % 4503599627370496 = G := ⟨_, rfl⟩
  obtain ⟨p, hp⟩ : ∃ p, fneg b = p := ⟨_, rfl⟩
  obtain ⟨r, hr⟩ : ∃ r, decide (rg b < INF) = r := ⟨_, rfl⟩
  rw [hF, hG, hp] at HC
  rw [hF, hr] at hf
  rw [hr]
  clear hF hG hp hr
  go_enter Tryz.func31, Tryz.ntmps31
  go_wp2_with fail
  refine HC.out.mono ?_
  rintro e w' ⟨rfl, rfl⟩
  go_wp2_with fail
  go_ret
  exact ⟨rfl, rfl⟩
set_option maxRecDepth 100000 in
theorem isnan_no (b : Nat) (w : World) (h : rg b ≤ INF) : Calls Tryz.prog 90 #[.float .f64 b] w fun e w' => RetB w (.bool false) e w' := by
  have h1 : (FloatKind.f64.format.order b b != some Ordering.eq) = false := by
    show (Ieee.double.order b b != some Ordering.eq) = false
    rw [order_num h h, cmp_int_eq rfl]; rfl
  clear h
  go_enter Tryz.func90, Tryz.ntmps90
  go_wp2_with fail
  go_ret
  exact ⟨rfl, rfl⟩
/-- A float64 with the other sign. -/
theorem neg_word {b : Nat} (hb : b < 18446744073709551616) : rg (Op.negFloat .f64 b) = rg b ∧ fneg (Op.negFloat .f64 b) = !fneg b := by
  have e : Op.negFloat .f64 b = b ^^^ 2 ^ 63 := rfl
  have hx : Op.negFloat .f64 b = if b < 9223372036854775808 then 9223372036854775808 + b else b - 9223372036854775808 := by
    rw [e]
    by_cases h : b < 9223372036854775808
    · rw [if_pos h]
      apply Nat.eq_of_testBit_eq
      intro i
      rw [Nat.testBit_xor, Nat.testBit_two_pow]
      rcases Nat.lt_trichotomy i 63 with hi | hi | hi
      · rw [decide_eq_false (by omega), Bool.xor_false]
        exact (Nat.testBit_two_pow_add_gt hi b).symm
      · subst hi
        rw [decide_eq_true rfl, Bool.xor_true]
        exact (Nat.testBit_two_pow_add_eq b 63).symm
      · have hp : 2 ^ 64 ≤ 2 ^ i := Nat.pow_le_pow_right (by decide) hi
        rw [Nat.testBit_lt_two_pow (show b < 2 ^ i by omega), Nat.testBit_lt_two_pow (show 9223372036854775808 + b < 2 ^ i by omega), decide_eq_false (by omega)]
        rfl
    · rw [if_neg h]
      obtain ⟨c, rfl⟩ := Nat.le.dest (Nat.le_of_not_lt h)
      rw [Nat.add_sub_cancel_left]
      apply Nat.eq_of_testBit_eq
      intro i
      rw [Nat.testBit_xor, Nat.testBit_two_pow]
      rcases Nat.lt_trichotomy i 63 with hi | hi | hi
      · rw [decide_eq_false (by omega), Bool.xor_false]
        exact Nat.testBit_two_pow_add_gt hi c
      · subst hi
        rw [decide_eq_true rfl, Bool.xor_true]
        have := Nat.testBit_two_pow_add_eq c 63
        rw [show (9223372036854775808 : Nat) = 2 ^ 63 by decide, this, Bool.not_not]
      · have hp : 2 ^ 64 ≤ 2 ^ i := Nat.pow_le_pow_right (by decide) hi
        rw [Nat.testBit_lt_two_pow (show 9223372036854775808 + c < 2 ^ i by omega), Nat.testBit_lt_two_pow (show c < 2 ^ i by omega), decide_eq_false (by omega)]
        rfl
  rw [hx]
  unfold rg fneg
  by_cases h : b < 9223372036854775808
  · rw [if_pos h]
    refine ⟨by omega, ?_⟩
    have e1 : (9223372036854775808 + b) / 9223372036854775808 % 2 = 1 := by omega
    have e2 : b / 9223372036854775808 % 2 = 0 := by omega
    rw [e1, e2]; rfl
  · rw [if_neg h]
    refine ⟨by omega, ?_⟩
    have e1 : (b - 9223372036854775808) / 9223372036854775808 % 2 = 0 := by omega
    have e2 : b / 9223372036854775808 % 2 = 1 := by omega
    rw [e1, e2]; rfl
theorem fv_max : fv 9218868437227405311 = (un 9218868437227405311 : Int) := fv_pos (by decide)
theorem gt_max {b : Nat} (h : rg b ≤ INF) : (FloatKind.f64.format.order b 9218868437227405311 == some Ordering.gt) = (!fneg b && decide (rg b = INF)) := by
  rw [fgt_num h (by decide), fv_max]
  have hU := un_step 9218868437227405311
  cases hs : fneg b
  · rw [fv_def, hs]
    by_cases e : rg b = INF
    · rw [e]
      simp only [Bool.not_false, Bool.true_and, decide_true, Bool.false_eq_true, if_false]
      exact decide_eq_true (by exact_mod_cast hU)
    · have h1 := un_le (show rg b ≤ 9218868437227405311 by unfold INF at h e; omega)
      rw [decide_eq_false e, Bool.and_false]
      simp only [Bool.false_eq_true, if_false]
      exact decide_eq_false (by omega)
  · rw [fv_def, hs]
    simp only [Bool.not_true, Bool.false_and, if_true]
    exact decide_eq_false (by omega)
set_option maxRecDepth 100000 in
theorem isinf_pos (b : Nat) (w : World) (h : rg b ≤ INF) : Calls Tryz.prog 91 #[.float .f64 b, .int .i64 1] w fun e w' => RetB w (.bool (!fneg b && decide (rg b = INF))) e w' := by
  have h1 := gt_max h
  obtain ⟨x, hx⟩ : ∃ x, (!fneg b && decide (rg b = INF)) = x := ⟨_, rfl⟩
  rw [hx] at h1 ⊢
  clear h hx
  go_enter Tryz.func91, Tryz.ntmps91
  go_wp2_with fail
  go_ret
  exact ⟨rfl, rfl⟩
theorem unary_neg_float {P : Program} (b : Nat) (w : World) : (Op.unary .neg (.float .f64 b)).run P w = .ok (.float .f64 (Op.negFloat .f64 b)) w := rfl
set_option maxRecDepth 100000 in
theorem isinf_neg (b : Nat) (w : World) (hb : b < 18446744073709551616) (h : rg b ≤ INF) : Calls Tryz.prog 91 #[.float .f64 b, .int .i64 (-1)] w fun e w' => RetB w (.bool (fneg b && decide (rg b = INF))) e w' := by
  obtain ⟨n1, n2⟩ := neg_word hb
  have h1 := gt_max (b := Op.negFloat .f64 b) (by rw [n1]; exact h)
  rw [n1, n2, Bool.not_not] at h1
  obtain ⟨x, hx⟩ : ∃ x, (fneg b && decide (rg b = INF)) = x := ⟨_, rfl⟩
  rw [hx] at h1 ⊢
  obtain ⟨c, hc⟩ : ∃ c, Op.negFloat .f64 b = c := ⟨_, rfl⟩
  have hu := unary_neg_float (P := Tryz.prog) b w
  rw [hc] at h1 hu
  clear h hx n1 n2 hc
  go_enter Tryz.func91, Tryz.ntmps91
  go_wp2_with (simp only [hu])
  go_ret
  exact ⟨rfl, rfl⟩

/-- What Step gives for a word that is no NaN. -/
def stepW (b : Nat) (down : Bool) : Nat :=
  if rg b = 0 then (if down then 9223372036854775809 else 1)
  else if fneg b then (if down then (if rg b = INF then b else b + 1) else b - 1)
  else (if down then b - 1 else if rg b = INF then b else b + 1)
set_option maxRecDepth 100000 in
theorem step_walk (b : Nat) (dir : Int) (w : World) (vi vn z neg dn : Bool) (res : Nat) (hd : decide (dir < 0) = dn) (hnan : Hid (Calls Tryz.prog 90 #[.float .f64 b] w fun e w' => RetB w (.bool false) e w'))
    (hi : Hid (Calls Tryz.prog 91 #[.float .f64 b, .int .i64 1] w fun e w' => RetB w (.bool vi) e w')) (hn : Hid (Calls Tryz.prog 91 #[.float .f64 b, .int .i64 (-1)] w fun e w' => RetB w (.bool vn) e w'))
    (hz : (FloatKind.f64.format.order b 0 == some Ordering.eq) = z) (hl : (FloatKind.f64.format.order b 0 == some Ordering.lt) = neg) (hb : b + 1 < 18446744073709551616) (hb1 : 1 ≤ b ∨ z = true)
    (hres : Hid (res = if (vi && !dn || vn && dn) = true then b else if z = true then (if dn = true then 9223372036854775809 else 1) else if neg = dn then b + 1 else b - 1)) :
    Calls Tryz.prog 33 #[.float .f64 b, .int .i64 dir] w fun e w' => RetB w (.float .f64 res) e w' := by
  have h1 : ((b : Int) + 1).toNat = b + 1 := by omega
  have h2 : 1 ≤ b → ((b : Int) - 1).toNat = b - 1 := by omega
  have H1 := Lib.hid h1
  have H2 := Lib.hid h2
  clear h1 h2
  cases vi <;> cases vn <;> cases z <;> cases neg <;> cases dn
  all_goals
    first | (have hd' : dir < 0 := by simpa using hd) | (have hd' : ¬ dir < 0 := by simpa using hd)
    clear hd
    first | (have hb2 : 1 ≤ b := hb1.resolve_right (by decide); clear hb1) | clear hb1
    go_enter Tryz.func33, Tryz.ntmps33
    go_wp2_with fail
    refine hnan.out.mono ?_
    rintro e w' ⟨rfl, rfl⟩
    go_wp2_with fail
    refine hi.out.mono ?_
    rintro e w' ⟨rfl, rfl⟩
    go_wp2_with (first | (go_at_call 91; refine hn.out.mono ?_; rintro e w' ⟨rfl, rfl⟩) | simp only [bits_run] | simp only [frombits_run])
    go_ret
    refine ⟨?_, rfl⟩
    rw [hres.out]
    first
      | rfl
      | exact congrArg (fun n => Ending.returned (Value.float FloatKind.f64 n)) H1.out
      | exact congrArg (fun n => Ending.returned (Value.float FloatKind.f64 n)) (H2.out hb2)
theorem step_num (b : Nat) (dir : Int) (w : World) (hb : b < 18446744073709551616) (h : rg b ≤ INF) :
    Calls Tryz.prog 33 #[.float .f64 b, .int .i64 dir] w fun e w' => RetB w (.float .f64 (stepW b (decide (dir < 0)))) e w' := by
  have h0 : rg 0 = 0 := by decide
  have f0 : fv 0 = 0 := by decide
  have hz : (FloatKind.f64.format.order b 0 == some Ordering.eq) = decide (rg b = 0) := by
    rw [feq_num h (by decide), f0]
    by_cases e : rg b = 0
    · rw [decide_eq_true e, fv_def, e]
      exact decide_eq_true (by split <;> rfl)
    · rw [decide_eq_false e]
      refine decide_eq_false fun hh => e ?_
      rw [fv_def] at hh
      exact un_eq_zero (by split at hh <;> omega)
  have hl : (FloatKind.f64.format.order b 0 == some Ordering.lt) = (fneg b && !decide (rg b = 0)) := by
    rw [flt_num h (by decide), f0]
    by_cases e : rg b = 0
    · rw [decide_eq_true e, fv_def, e]
      exact (decide_eq_false (by split <;> decide)).trans (by simp)
    · rw [decide_eq_false e, fv_def]
      have hu : un (rg b) ≠ 0 := fun hh => e (un_eq_zero hh)
      cases hs : fneg b
      · rw [if_neg (by decide)]
        exact decide_eq_false (by omega)
      · rw [if_pos rfl]
        exact decide_eq_true (by omega)
  have hb2 : b + 1 < 18446744073709551616 := by unfold rg INF at h; omega
  have hb3 : 1 ≤ b ∨ decide (rg b = 0) = true := by
    by_cases e : b = 0
    · right; rw [e]; rfl
    · left; omega
  refine step_walk b dir w _ _ _ _ _ _ rfl (Lib.hid (isnan_no b w h)) (Lib.hid (isinf_pos b w h)) (Lib.hid (isinf_neg b w hb h)) hz hl hb2 hb3 ?_
  show _ = _
  have hI : INF ≠ 0 := by decide
  unfold stepW
  by_cases e0 : rg b = 0
  · have e1 : ¬ rg b = INF := by rw [e0]; exact Ne.symm hI
    rw [if_pos e0, decide_eq_false e1, decide_eq_true e0]
    cases decide (dir < 0) <;> cases fneg b <;> rfl
  · rw [if_neg e0, decide_eq_false e0]
    by_cases e1 : rg b = INF
    · rw [decide_eq_true e1, if_pos e1]
      cases decide (dir < 0) <;> cases fneg b <;> rfl
    · rw [decide_eq_false e1, if_neg e1]
      cases decide (dir < 0) <;> cases fneg b <;> rfl
end Go.Proofs.YtfanhllcoaondaaGreatDoor

namespace Go.Proofs.YtfanhllcoaondaaGreatDoor
open Go.RowKit

theorem drop_num {w : World} {b o n c : Nat} {N : Int} {m : Nat} (h : Num w (.slice (some ⟨b, o, none⟩) n c) N m) {k : Nat} (hk : k ≤ n) : Num w (.slice (some ⟨b, o + k, none⟩) (n - k) (c - k)) (N / B64 ^ k) m := by
  obtain ⟨a', n', c', l, he, h1, h2, h3, hrd, hl, hv, hm⟩ := h.open
  cases he
  have hs := vb_split B64 l k (by omega)
  have ht0 := vb_nonneg B64_pos (hl.take k)
  have ht1 := vb_lt B64_pos (hl.take k)
  have hlt : (l.take k).length = k := by rw [List.length_take]; omega
  rw [hlt] at ht1
  have hp := pow_pos' B64_pos k
  have e : N / B64 ^ k = vb B64 (l.drop k) := by
    rw [← hv, hs, Int.add_mul_ediv_left _ _ (by omega), Int.ediv_eq_zero_of_lt ht0 ht1, Int.zero_add]
  refine ⟨l.drop k, ⟨some ⟨b, o + k, none⟩, c - k, by rw [List.length_drop, ← h1], by rw [List.length_drop]; omega, by omega, Rd.of_at (hrd.at'.drop k), hl.drop k⟩, e.symm, by rw [List.length_drop]; omega⟩
theorem low_lt64 {N : Int} {t m : Nat} (h : LowOf N t) (hN0 : N ≠ 0) (h0 : 0 ≤ N) (hN : N < B64 ^ m) : t < 64 * m := by
  rcases h with ⟨h1, -⟩ | ⟨-, z, hz⟩
  · exact absurd h1 hN0
  · have hp := pow2_pos t
    have hz0 : 1 ≤ 2 * z + 1 := by
      rcases Int.lt_or_le (2 * z + 1) 1 with h3 | h3
      · exfalso
        have : 2 ^ t * (2 * z + 1) ≤ 2 ^ t * 0 := Int.mul_le_mul_of_nonneg_left (by omega) (by omega)
        omega
      · exact h3
    have h4 : (2 : Int) ^ t * 1 ≤ 2 ^ t * (2 * z + 1) := Int.mul_le_mul_of_nonneg_left hz0 (by omega)
    have h5 : (2 : Int) ^ t < 2 ^ (64 * m) := by
      rw [show (2 : Int) ^ (64 * m) = B64 ^ m by rw [Int.pow_mul]; rfl]
      omega
    exact two_pow_lt_of h5
/-- A dyad in its one form has been returned: that of a sign, an amount, an exponent. -/
def RetDy (w : World) (p : Bool) (N E : Int) (m : Nat) (e : Ending) (w' : World) : Prop :=
  ∃ p' a n c N' E', ∃ t : Nat, e = .returned (.agg #[.bool p', .slice a n c, .int .i64 E']) ∧ NewN w.heap.size w' (.slice a n c) N' m ∧
    ((N = 0 ∧ p' = false ∧ N' = 0 ∧ E' = 0 ∧ t = 0) ∨ (N ≠ 0 ∧ p' = p ∧ N' * 2 ^ t = N ∧ E' = E + t ∧ t ≤ 64 * m ∧ ∃ z, N' = 2 * z + 1)) ∧ Below w.heap.size w w'
theorem RetDy.mk {w w' : World} {p p' : Bool} {N E N' E' : Int} {m : Nat} {a : Option Addr} {n c t : Nat} (h : NewN w.heap.size w' (.slice a n c) N' m)
    (hv : (N = 0 ∧ p' = false ∧ N' = 0 ∧ E' = 0 ∧ t = 0) ∨ (N ≠ 0 ∧ p' = p ∧ N' * 2 ^ t = N ∧ E' = E + t ∧ t ≤ 64 * m ∧ ∃ z, N' = 2 * z + 1)) (hb : Below w.heap.size w w') :
    RetDy w p N E m (.returned (.agg #[.bool p', .slice a n c, .int .i64 E'])) w' := ⟨p', a, n, c, N', E', t, rfl, h, hv, hb⟩
theorem NewN.var3 {base : Nat} {w w' : World} {v : Value} {N : Int} {m g lo hi : Nat} (h : NewN base w v N m) (ho : Only g lo hi w w') (hb : g < base) : NewN base w' v N m := h.only ho hb

set_option maxRecDepth 100000 in
set_option maxHeartbeats 1200000 in
theorem dmake_num {w : World} (neg : Bool) {a : Option Addr} {n c : Nat} {N : Int} {m : Nat} (E : Int) (h : Num w (.slice a n c) N m) (hm : m ≤ 1000) (hT : Tab64 w) (hE0 : -1000000 ≤ E) (hE1 : E ≤ 1000000) :
    Calls Tryz.prog 87 #[.agg #[.bool neg, .slice a n c], .int .i64 E] w fun e w' => RetDy w neg N E m e w' := by
  obtain ⟨w1, hw1⟩ : ∃ w1, w.alloc (.cells #[.bool neg, .slice a n c] 58) = w1 := ⟨_, rfl⟩
  obtain ⟨w2, hw2⟩ : ∃ w2, w1.alloc (.cells #[.bool false, .slice none 0 0, .int .i64 0] 60) = w2 := ⟨_, rfl⟩
  have hb1 : Below w.heap.size w w1 := hw1 ▸ below_alloc w _
  have hb12 : Below w1.heap.size w1 w2 := hw2 ▸ below_alloc w1 _
  have hbw2 : Below w.heap.size w w2 := hb1.trans (hb12.mono hb1.size)
  have hc1 : w2.heap[w.heap.size]? = some (.cells #[.bool neg, .slice a n c] 58 (0, 0)) := slot_kept (hw1 ▸ heap_alloc_new w _) hb12
  have hc2 : w2.heap[w1.heap.size]? = some (.cells #[.bool false, .slice none 0 0, .int .i64 0] 60 (0, 0)) := hw2 ▸ heap_alloc_new w1 _
  have hs1 : w.heap.size ≤ w1.heap.size := hb1.size
  have hs2 : w1.heap.size < w2.heap.size := (Array.getElem?_eq_some_iff.1 hc2).1
  replace h := h.below hbw2
  replace hT := hT.below hbw2
  have h0 := h.nonneg
  clear hb1 hb12
  obtain ⟨j0, j1, -, -⟩ := slot2 hc1
  by_cases hN : N = 0
  · subst hN
    go_enter Tryz.func87, Tryz.ntmps87
    go_wp2_with fail
    refine (lowall_num h (by omega) hT).mono ?_
    rintro e w' ⟨t, rfl, ht, rfl⟩
    obtain rfl : t = 0 := by
      rcases ht with ⟨-, h⟩ | ⟨h, -⟩
      · exact h
      · exact absurd rfl h
    have HS := Lib.hid (shr_num 0 h (by omega) (by omega))
    have hnc : n ≤ c := by
      obtain ⟨_, _, _, _, he, _, h2, _⟩ := h.open
      cases he
      exact h2
    cases a
    all_goals
      go_wp2_with fail
      refine HS.out.mono ?_
      rintro e w3 ⟨a', n', c', rfl, hS, hb3⟩
      have hS0 : n' = 0 := hS.len.1.2 (by simp)
      subst hS0
      replace hc2 := slot_kept hc2 hb3
      obtain ⟨⟨k0, k1, k2⟩, f0, f1, f2⟩ := slot3 hc2
      have hend := slot3_set (u := .bool false) (v := .slice none 0 0) (s := .int .i64 0) hc2
      have hon := slot3_only (w := w3) (g := w1.heap.size) (.bool false) (.slice none 0 0) (.int .i64 0)
      have hbw3 := hbw2.trans (hb3.mono hbw2.size)
      have HR : Hid (RetDy w neg 0 E m (.returned (.agg #[.bool false, .slice none 0 0, .int .i64 0])) (((w3.setCell ⟨w1.heap.size, 0, none⟩ (.bool false)).setCell ⟨w1.heap.size, 1, none⟩ (.slice none 0 0)).setCell ⟨w1.heap.size, 2, none⟩ (.int .i64 0))) :=
        Lib.hid (RetDy.mk (t := 0) ⟨[], Ow.nil _ _, Can.nil _, rfl, Nat.zero_le _⟩ (Or.inl ⟨rfl, rfl, rfl, rfl, rfl⟩) (hbw3.trans (hon.below hs1 hbw3.size)))
      clear hS hon hbw3
      go_wp2_with fail
      exact bodyPost_ret (results_cell_row rfl _ _ w1.heap.size 60 _ (0, 0) _ rfl hend Tryz.underlying60 rfl (by kernel_rfl)) rfl HR.out
  · obtain ⟨b, o, rfl⟩ : ∃ b o, a = some ⟨b, o, none⟩ := by
      obtain ⟨a', n', c', l, he, h1, h2, h3, hrd, hl, hv, hm'⟩ := h.open
      cases he
      have hne : l ≠ [] := by
        intro e
        rw [e] at hv
        exact hN hv.symm
      obtain ⟨b, o, rfl, -⟩ := hrd.cases hne
      exact ⟨b, o, rfl⟩
    have hnn : n ≤ c ∧ N < B64 ^ n := by
      obtain ⟨a', n', c', l, he, h1, h2, h3, hrd, hl, hv, hm'⟩ := h.open
      cases he
      refine ⟨h2, ?_⟩
      rw [← hv, h1]
      exact vb_lt B64_pos hl
    obtain ⟨hnc, hlt⟩ := hnn
    have hltm := h.lt
    have HN := Lib.hid hN
    clear hN
    go_enter Tryz.func87, Tryz.ntmps87
    go_wp2_with fail
    refine (lowall_num h (by omega) hT).mono ?_
    rintro e w' ⟨t, rfl, ht, rfl⟩
    have ht1 := low_lt64 ht HN.out h0 hlt
    have ht2 := low_lt64 ht HN.out h0 hltm
    obtain ⟨k, hk⟩ : ∃ k, t / 64 = k := ⟨_, rfl⟩
    obtain ⟨i, hi⟩ : ∃ i, t % 64 = i := ⟨_, rfl⟩
    have hti : t = 64 * k + i := by omega
    have hiI : (t : Int) % 64 = (i : Int) := by omega
    have hkn : k < n := by omega
    have hkc : ¬ c = k := by omega
    have hC := drop_num h (Nat.le_of_lt hkn)
    have hval : ∃ z, N / B64 ^ k / 2 ^ i = 2 * z + 1 ∧ (2 * z + 1) * 2 ^ t = N := by
      rcases ht with ⟨h1, -⟩ | ⟨-, z, hz⟩
      · exact absurd h1 HN.out
      · refine ⟨z, ?_, by rw [hz, Int.mul_comm]⟩
        have e1 : N = B64 ^ k * (2 ^ i * (2 * z + 1)) := by
          rw [hz, hti, Int.pow_add, Int.pow_mul, ← Int.mul_assoc]; rfl
        have hp := pow_pos' B64_pos k
        have hp2 := pow2_pos i
        rw [e1, Int.mul_ediv_cancel_left _ (by omega), Int.mul_ediv_cancel_left _ (by omega)]
    have HV := Lib.hid hval
    have HTI := Lib.hid (show t ≤ 64 * m by omega)
    obtain ⟨F, hF⟩ : ∃ F, E + (t : Int) = F := ⟨_, rfl⟩
    have hi64 : i < 64 := by omega
    have htb : (t : Int) ≤ 64000 := by omega
    clear hval ht hlt hltm hti hi ht1 ht2
    have HSHR := Lib.hid (shr_num i hC (by omega) (by omega))
    clear hC
    go_wp2_with fail
    refine HSHR.out.mono ?_
    rintro e w3 ⟨a', n', c', rfl, hS, hb3⟩
    obtain ⟨z, hz1, hz2⟩ := HV.out
    rw [hz1] at hS
    have hn0 : ((n' : Int) == 0) = false := by
      have := hS.len.1
      by_cases e : n' = 0
      · have := this.1 e; omega
      · simp; omega
    replace hc1 := slot_kept hc1 hb3
    replace hc2 := slot_kept hc2 hb3
    clear j0 j1
    obtain ⟨j0, j1, -, -⟩ := slot2 hc1
    obtain ⟨⟨k0, k1, k2⟩, f0, f1, f2⟩ := slot3 hc2
    have hend := slot3_set (u := .bool neg) (v := .slice a' n' c') (s := .int .i64 F) hc2
    have hon := slot3_only (w := w3) (g := w1.heap.size) (.bool neg) (.slice a' n' c') (.int .i64 F)
    have hbw3 := hbw2.trans (hb3.mono hbw2.size)
    have HR : Hid (RetDy w neg N E m (.returned (.agg #[.bool neg, .slice a' n' c', .int .i64 F])) (((w3.setCell ⟨w1.heap.size, 0, none⟩ (.bool neg)).setCell ⟨w1.heap.size, 1, none⟩ (.slice a' n' c')).setCell ⟨w1.heap.size, 2, none⟩ (.int .i64 F))) :=
      Lib.hid (RetDy.mk (t := t) ((hS.only hon hs2).base (by omega)) (Or.inr ⟨HN.out, rfl, hz2, hF.symm, HTI.out, z, rfl⟩) (hbw3.trans (hon.below hs1 hbw3.size)))
    clear hS hon hbw3 hz1 hz2
    go_wp2_with fail
    exact bodyPost_ret (results_cell_row rfl _ _ w1.heap.size 60 _ (0, 0) _ rfl hend Tryz.underlying60 rfl (by kernel_rfl)) rfl HR.out

set_option maxRecDepth 100000 in
theorem dsign_num {w : World} (neg : Bool) {a : Option Addr} {n c : Nat} {N : Int} {m : Nat} (E : Int) (h : Num w (.slice a n c) N m) (hm : m ≤ 1000) :
    Calls Tryz.prog 94 #[.agg #[.bool neg, .slice a n c, .int .i64 E]] w fun e w' => RetV w (.int .i64 (cmpI (sg neg N) 0)) e w' := by
  obtain ⟨w1, hw1⟩ : ∃ w1, w.alloc (.cells #[.bool neg, .slice a n c, .int .i64 E] 60) = w1 := ⟨_, rfl⟩
  have hb1 : Below w.heap.size w w1 := hw1 ▸ below_alloc w _
  have hc1 : w1.heap[w.heap.size]? = some (.cells #[.bool neg, .slice a n c, .int .i64 E] 60 (0, 0)) := hw1 ▸ heap_alloc_new w _
  obtain ⟨⟨k0, k1, k2⟩, -⟩ := slot3 hc1
  go_enter Tryz.func94, Tryz.ntmps94
  go_wp2_with fail
  refine (sign_num neg (h.below hb1) (by omega)).mono ?_
  rintro e w2 ⟨rfl, hb⟩
  go_wp2_with fail
  go_ret
  exact ⟨rfl, hb1.trans (hb.mono hb1.size)⟩
end Go.Proofs.YtfanhllcoaondaaGreatDoor

namespace Go.Proofs.YtfanhllcoaondaaGreatDoor
open Go.RowKit

theorem one_word {base : Nat} {w : World} {a : Option Addr} {n c : Nat} {V : Int} {m : Nat} (h : NewN base w (.slice a n c) V m) (h0 : V ≠ 0) (hV : V < 18446744073709551616) : ∃ g, a = some ⟨g, 0, none⟩ ∧ n = 1 ∧ 1 ≤ c ∧ w.cell? ⟨g, 0, none⟩ = some (.int .u64 V) := by
  obtain ⟨l, hO, hC, hv, hlen⟩ := h
  have hne : l ≠ [] := by
    intro e
    rw [e] at hv
    exact h0 hv.symm
  have hl1 : l.length ≤ 1 := room_of B64_pos hC (by rw [hv]; exact hV)
  match l, hne, hl1, hO, hv with
  | [x], _, _, hO, hv =>
    obtain ⟨g, n', cap, he, hn', h1, h2, hA, -, -⟩ := ow_row hO (by simp)
    simp only [Value.slice.injEq] at he
    obtain ⟨rfl, rfl, rfl⟩ := he
    rw [vb_one] at hv
    subst hv
    have hc := hA.at'.get (j := 0) (by simp)
    rw [hn'] at h1
    exact ⟨g, rfl, by rw [hn']; rfl, h1, hc⟩

set_option maxRecDepth 100000 in
set_option maxHeartbeats 1200000 in
theorem shorten_down {w : World} {b o n c : Nat} {N V : Int} {m : Nat} (j : Nat) (h : Num w (.slice (some ⟨b, o, none⟩) n c) N m) (hm : m ≤ 1000) (hj0 : 0 < j) (hj : j ≤ 64 * n) (hV : N / 2 ^ j = V) (hV1 : V < 18446744073709551616) :
    Calls Tryz.prog 137 #[.slice (some ⟨b, o, none⟩) n c, .int .i64 (j : Int)] w fun e w' => RetV w (.int .u64 V) e w' := by
  have hnm : n ≤ c ∧ n ≤ m := by
    obtain ⟨a', n', c', l, he, h1, h2, h3, hrd, hl, hv, hm'⟩ := h.open
    cases he
    exact ⟨h2, hm'⟩
  obtain ⟨hnc, hnm⟩ := hnm
  obtain ⟨k, hk⟩ : ∃ k, j / 64 = k := ⟨_, rfl⟩
  obtain ⟨i, hi⟩ : ∃ i, j % 64 = i := ⟨_, rfl⟩
  have hkn : k ≤ n := by omega
  have hjI : (0 : Int) < (j : Int) := by omega
  have hjB : (j : Int) ≤ 64000 := by omega
  have hiI : (j : Int) % 64 = (i : Int) := by omega
  have hval : N / B64 ^ k / 2 ^ i = V := by
    have e : (2 : Int) ^ j = B64 ^ k * 2 ^ i := by
      rw [show j = 64 * k + i by omega, Int.pow_add, Int.pow_mul]; rfl
    rw [← hV, e, Int.ediv_ediv_of_nonneg (Int.le_of_lt (pow_pos' B64_pos k))]
  have hV0 : 0 ≤ V := by
    rw [← hV]; exact Int.ediv_nonneg h.nonneg (Int.le_of_lt (pow2_pos j))
  have key : ∀ ad : Option Addr, Num w (.slice ad (n - k) (c - k)) (N / B64 ^ k) m → Hid (Calls Tryz.prog 134 #[.slice ad (n - k) (c - k), .int .i64 (i : Int)] w fun e w' => RetN w V m e w') := by
    intro ad hh
    have := shr_num i hh (by omega) (by omega)
    rw [hval] at this
    exact Lib.hid this
  have hC := drop_num h hkn
  have H1 := key _ hC
  have hC2 : k = n → Num w (.slice (some ⟨b, o, none⟩) (n - k) (c - k)) (N / B64 ^ k) m := by
    intro e
    obtain ⟨a', n', c', l, he, h1, h2, h3, hrd, hl, hv, hm'⟩ := hC.open
    cases he
    have hl0 : l = [] := List.eq_nil_of_length_eq_zero (by omega)
    exact ⟨[], ⟨some ⟨b, o, none⟩, c - k, by rw [e, Nat.sub_self]; rfl, Nat.zero_le _, by omega, Rd.nil _ _, Lim.nil _⟩, by rw [← hv, hl0], Nat.zero_le _⟩
  have H2 : k = n → Hid (Calls Tryz.prog 134 #[.slice (some ⟨b, o, none⟩) (n - k) (c - k), .int .i64 (i : Int)] w fun e w' => RetN w V m e w') := fun e => key _ (hC2 e)
  clear hC hC2 key hval hV h hj hi hm
  have fin : ∀ (w3 : World) (a' : Option Addr) (n' c' : Nat), NewN w.heap.size w3 (.slice a' n' c') V m → (V = 0 ∧ n' = 0) ∨ (V ≠ 0 ∧ ∃ g, a' = some ⟨g, 0, none⟩ ∧ n' = 1 ∧ 1 ≤ c' ∧ w3.cell? ⟨g, 0, none⟩ = some (.int .u64 V)) := by
    intro w3 a' n' c' hS
    by_cases h0 : V = 0
    · exact Or.inl ⟨h0, hS.len.1.2 h0⟩
    · exact Or.inr ⟨h0, one_word hS h0 hV1⟩
  have HF := Lib.hid fin
  clear fin
  by_cases hck : c = k
  · have HH : Hid (Calls Tryz.prog 134 #[.slice (some ⟨b, o, none⟩) 0 0, .int .i64 (i : Int)] w fun e w' => RetN w V m e w') := by
      have := H2 (by omega)
      rwa [show n - k = 0 by omega, show c - k = 0 by omega] at this
    have hkn2 : k = n := by omega
    clear H1 H2
    go_enter Tryz.func137, Tryz.ntmps137
    go_wp2_with fail
    refine HH.out.mono ?_
    rintro e w3 ⟨a', n', c', rfl, hS, hb3⟩
    rcases HF.out w3 a' n' c' hS with ⟨rfl, rfl⟩ | ⟨-, g, rfl, rfl, hc1, hcl⟩
    · clear hS
      go_wp2_with fail
      go_ret
      exact ⟨rfl, hb3⟩
    · clear hS
      go_wp2_with fail
      go_ret
      exact ⟨rfl, hb3⟩
  · clear H2
    go_enter Tryz.func137, Tryz.ntmps137
    go_wp2_with fail
    refine H1.out.mono ?_
    rintro e w3 ⟨a', n', c', rfl, hS, hb3⟩
    rcases HF.out w3 a' n' c' hS with ⟨rfl, rfl⟩ | ⟨-, g, rfl, rfl, hc1, hcl⟩
    · clear hS
      go_wp2_with fail
      go_ret
      exact ⟨rfl, hb3⟩
    · clear hS
      go_wp2_with fail
      go_ret
      exact ⟨rfl, hb3⟩

set_option maxRecDepth 100000 in
set_option maxHeartbeats 1200000 in
theorem shorten_up {w : World} {a : Option Addr} {n c : Nat} {N V : Int} {m p : Nat} (j : Nat) (h : Num w (.slice a n c) N m) (hm : m ≤ 1000) (hj : j ≤ 100000) (hp : m + j / 64 + 1 ≤ p) (hV : N * 2 ^ j = V) (hV1 : V < 18446744073709551616) :
    Calls Tryz.prog 137 #[.slice a n c, .int .i64 (-(j : Int))] w fun e w' => RetV w (.int .u64 V) e w' := by
  have HH := Lib.hid (shr_neg_num (p := p) j h (by omega) hp (by omega))
  rw [hV] at HH
  have fin : ∀ (w3 : World) (a' : Option Addr) (n' c' : Nat), NewN w.heap.size w3 (.slice a' n' c') V p → (V = 0 ∧ n' = 0) ∨ (V ≠ 0 ∧ ∃ g, a' = some ⟨g, 0, none⟩ ∧ n' = 1 ∧ 1 ≤ c' ∧ w3.cell? ⟨g, 0, none⟩ = some (.int .u64 V)) := by
    intro w3 a' n' c' hS
    by_cases h0 : V = 0
    · exact Or.inl ⟨h0, hS.len.1.2 h0⟩
    · exact Or.inr ⟨h0, one_word hS h0 hV1⟩
  have HF := Lib.hid fin
  have hj0 : ¬ 0 < -(j : Int) := by omega
  clear fin hV h
  go_enter Tryz.func137, Tryz.ntmps137
  go_wp2_with fail
  refine HH.out.mono ?_
  rintro e w3 ⟨a', n', c', rfl, hS, hb3⟩
  rcases HF.out w3 a' n' c' hS with ⟨rfl, rfl⟩ | ⟨-, g, rfl, rfl, hc1, hcl⟩
  · clear hS
    go_wp2_with fail
    go_ret
    exact ⟨rfl, hb3⟩
  · clear hS
    go_wp2_with fail
    go_ret
    exact ⟨rfl, hb3⟩
end Go.Proofs.YtfanhllcoaondaaGreatDoor

namespace Go.Proofs.YtfanhllcoaondaaGreatDoor
open Go.RowKit

theorem un_pack {L man : Nat} (h : man ≤ 9007199254740992) (h2 : 4503599627370496 ≤ man ∨ L = 0) : un (L * 4503599627370496 + man) = man * 2 ^ L := by
  unfold un
  by_cases h1 : man < 4503599627370496
  · have hL : L = 0 := by omega
    subst hL
    rw [Nat.zero_mul, Nat.zero_add, if_pos h1, Nat.pow_zero, Nat.mul_one]
  · rw [if_neg (by omega)]
    by_cases h3 : man = 9007199254740992
    · subst h3
      have e1 : (L * 4503599627370496 + 9007199254740992) % 4503599627370496 = 0 := by omega
      have e2 : (L * 4503599627370496 + 9007199254740992) / 4503599627370496 - 1 = L + 1 := by omega
      rw [e1, e2, Nat.pow_succ]
      have := Nat.two_pow_pos L
      generalize 2 ^ L = P at *
      omega
    · have e1 : (L * 4503599627370496 + man) % 4503599627370496 = man - 4503599627370496 := by omega
      have e2 : (L * 4503599627370496 + man) / 4503599627370496 - 1 = L := by omega
      rw [e1, e2, show 4503599627370496 + (man - 4503599627370496) = man by omega]
/-- A rung lies next to an amount times a power of two, towards zero. -/
structure TZ (R : Nat) (ex : Bool) (N E : Int) : Prop where
  lt : R < INF
  eq : ex = true → ∀ K : Nat, 1074 ≤ K → 0 ≤ E + K → (un R : Int) * 2 ^ (K - 1074) = N * 2 ^ (E + K).toNat
  gt : ex = false → ∀ K : Nat, 1074 ≤ K → 0 ≤ E + K → (un R : Int) * 2 ^ (K - 1074) < N * 2 ^ (E + K).toNat ∧ (R + 1 < INF → N * 2 ^ (E + K).toNat < (un (R + 1) : Int) * 2 ^ (K - 1074))
def RetTZ (w : World) (N E : Int) (e : Ending) (w' : World) : Prop := ∃ (R : Nat) (ex : Bool), e = .returned (.tuple #[.float .f64 R, .bool ex]) ∧ TZ R ex N E ∧ Below w.heap.size w w'
theorem pow_split2 {a b c : Nat} (h : a + b = c) : (2 : Int) ^ c = 2 ^ a * 2 ^ b := by rw [← h, Int.pow_add]
theorem cast_pow2 (a q : Nat) : ((a * 2 ^ q : Nat) : Int) = (a : Int) * 2 ^ q := by rw [Int.natCast_mul, Int.natCast_pow]; rfl
theorem un_max (L : Nat) (hL : L = 2045) : (un 9218868437227405311 : Int) = 9007199254740991 * 2 ^ L := by
  have h := un_pack (L := L) (man := 9007199254740991) (by decide) (Or.inl (by decide))
  rw [show L * 4503599627370496 + 9007199254740991 = 9218868437227405311 by omega] at h
  rw [h, cast_pow2]
  exact congrArg (· * (2 : Int) ^ L) (rfl : ((9007199254740991 : Nat) : Int) = 9007199254740991)
/-- The cut of a number of more bits than a float64 holds. -/
theorem tz_cut {N E : Int} {j L man t : Nat} (hN : 0 < N) (hm0 : (man : Int) = N / 2 ^ j) (hL : (L : Int) = j + E + 1074) (hm1 : man < 9007199254740992) (hm2 : 4503599627370496 ≤ man ∨ L = 0) (hL2 : L ≤ 2045) (ht : LowOf N t) :
    TZ (L * 4503599627370496 + man) (decide (j ≤ t)) N E := by
  have e1 := Int.mul_ediv_add_emod N (2 ^ j)
  have e2 := Int.emod_lt_of_pos N (pow2_pos j)
  have e3 := Int.emod_nonneg N (by have := pow2_pos j; omega : (2 : Int) ^ j ≠ 0)
  rw [← hm0] at e1
  have hlow : N % 2 ^ j = 0 ↔ j ≤ t := by
    rcases ht with ⟨h1, -⟩ | ⟨-, z, hz⟩
    · omega
    · constructor
      · intro h0
        by_cases hk : j ≤ t
        · exact hk
        · exfalso
          obtain ⟨d, rfl⟩ := Nat.le.dest (show t + 1 ≤ j by omega)
          rw [h0, Int.add_zero] at e1
          have hp2 : (2 : Int) ^ (t + 1 + d) = 2 ^ t * (2 * 2 ^ d) := by rw [Int.pow_add, Int.pow_succ]; grind
          rw [hz, hp2, Int.mul_assoc] at e1
          have hpt := pow2_pos t
          have e4 := Int.eq_of_mul_eq_mul_left (by omega) e1
          rw [Int.mul_assoc] at e4
          omega
      · intro hk
        obtain ⟨d, rfl⟩ := Nat.le.dest hk
        rw [hz, Int.pow_add, Int.mul_assoc]
        exact Int.mul_emod_right _ _
  have hR : L * 4503599627370496 + man < INF := by unfold INF; omega
  have hu : (un (L * 4503599627370496 + man) : Int) = (man : Int) * 2 ^ L := by
    rw [un_pack (by omega) hm2, Int.natCast_mul, Int.natCast_pow]; rfl
  have hu1 : (un (L * 4503599627370496 + man + 1) : Int) = ((man : Int) + 1) * 2 ^ L := by
    rw [Nat.add_assoc, un_pack (by omega) (by omega), Int.natCast_mul, Int.natCast_pow, Int.natCast_add]; rfl
  have hpw : ∀ K : Nat, 1074 ≤ K → 0 ≤ E + K → (2 : Int) ^ L * 2 ^ (K - 1074) = 2 ^ j * 2 ^ (E + K).toNat := by
    intro K h1 h2
    rw [← Int.pow_add, ← Int.pow_add]
    exact congrArg (fun n : Nat => (2 : Int) ^ n) (by omega)
  refine ⟨hR, fun hx K h1 h2 => ?_, fun hx K h1 h2 => ?_⟩
  · have h0 := hlow.2 (by simpa using hx)
    rw [h0, Int.add_zero] at e1
    rw [hu, Int.mul_assoc, hpw K h1 h2, ← Int.mul_assoc, Int.mul_comm (man : Int), e1]
  · have h0 : N % 2 ^ j ≠ 0 := fun h => by
      have := hlow.1 h
      simp at hx; omega
    have hP := pow2_pos (E + K).toNat
    rw [hu, hu1, Int.mul_assoc, Int.mul_assoc, hpw K h1 h2, ← Int.mul_assoc, ← Int.mul_assoc, Int.mul_comm (man : Int), Int.mul_comm ((man : Int) + 1)]
    refine ⟨Int.mul_lt_mul_of_pos_right (by omega) hP, fun _ => Int.mul_lt_mul_of_pos_right ?_ hP⟩
    rw [Int.mul_add, Int.mul_one]; omega
/-- A number that a float64 holds with bits to spare. -/
theorem tz_whole {N E : Int} {j L man : Nat} (hm0 : (man : Int) = N * 2 ^ j) (hL : (L : Int) + j = E + 1074) (hm1 : man < 9007199254740992) (hm2 : 4503599627370496 ≤ man ∨ L = 0) (hL2 : L ≤ 2045) :
    TZ (L * 4503599627370496 + man) true N E := by
  have hR : L * 4503599627370496 + man < INF := by unfold INF; omega
  have hu : (un (L * 4503599627370496 + man) : Int) = (man : Int) * 2 ^ L := by
    rw [un_pack (by omega) hm2, Int.natCast_mul, Int.natCast_pow]; rfl
  refine ⟨hR, fun _ K h1 h2 => ?_, fun hx => by cases hx⟩
  rw [hu, hm0, Int.mul_assoc, Int.mul_assoc, ← Int.pow_add, ← Int.pow_add]
  exact congrArg (fun n : Nat => N * (2 : Int) ^ n) (by omega)
theorem tz_big {N E : Int} (hN : 0 < N) (hE : E > 1024 - (nb N : Int)) : TZ 9218868437227405311 false N E := by
  obtain ⟨h1, h2, h3⟩ := nb_spec hN
  refine ⟨by decide, fun h => (by cases h), fun _ K hK hEK => ⟨?_, fun h => absurd h (by decide)⟩⟩
  obtain ⟨L, hL⟩ : ∃ L : Nat, L = 2045 := ⟨_, rfl⟩
  rw [un_max L hL]
  obtain ⟨q, hq⟩ : ∃ q, (E + K).toNat = q := ⟨_, rfl⟩
  obtain ⟨s, hs⟩ : ∃ s, K - 1074 = s := ⟨_, rfl⟩
  have hge : 53 + (L + s) ≤ nb N - 1 + q := by omega
  rw [hq, hs]
  have e1 : (2 : Int) ^ (nb N - 1) * 2 ^ q ≤ N * 2 ^ q := Int.mul_le_mul_of_nonneg_right h1 (Int.le_of_lt (pow2_pos q))
  rw [← Int.pow_add] at e1
  have e2 : (2 : Int) ^ (53 + (L + s)) ≤ 2 ^ (nb N - 1 + q) := pow_le_pow (by decide) hge
  have e3 : (9007199254740991 : Int) * 2 ^ L * 2 ^ s < 2 ^ (53 + (L + s)) := by
    rw [Int.pow_add, Int.mul_assoc, ← Int.pow_add]
    exact Int.mul_lt_mul_of_pos_right (by decide) (pow2_pos _)
  omega
theorem tz_small {N E : Int} (hN : 0 < N) (hE : E < -1074 - (nb N : Int)) : TZ 0 false N E := by
  obtain ⟨h1, h2, h3⟩ := nb_spec hN
  refine ⟨by decide, fun h => (by cases h), fun _ K hK hEK => ?_⟩
  obtain ⟨q, hq⟩ : ∃ q, (E + K).toNat = q := ⟨_, rfl⟩
  obtain ⟨s, hs⟩ : ∃ s, K - 1074 = s := ⟨_, rfl⟩
  rw [hq, hs]
  refine ⟨?_, fun _ => ?_⟩
  · rw [un_zero]
    have := Int.mul_pos hN (pow2_pos q)
    simpa using this
  · have e0 : (un (0 + 1) : Int) = 1 := by decide
    rw [e0, Int.one_mul]
    have e1 : N * 2 ^ q < 2 ^ nb N * 2 ^ q := Int.mul_lt_mul_of_pos_right h2 (pow2_pos q)
    rw [← Int.pow_add] at e1
    have e2 : (2 : Int) ^ (nb N + q) ≤ 2 ^ s := pow_le_pow (by decide) (by omega)
    omega
theorem tz_zero (E : Int) : TZ 0 true 0 E := by
  refine ⟨by decide, fun _ K _ _ => ?_, fun h => by cases h⟩
  rw [un_zero]; simp

set_option maxRecDepth 100000 in
set_option maxHeartbeats 1200000 in
theorem tz_num {w : World} {a : Option Addr} {n c : Nat} {N : Int} {m : Nat} (E : Int) (h : Num w (.slice a n c) N m) (hm : m ≤ 1000) (hE0 : -1000000 ≤ E) (hE1 : E ≤ 1000000) (hT : Tab64 w) :
    Calls Tryz.prog 93 #[.slice a n c, .int .i64 E] w fun e w' => RetTZ w N E e w' := by
  have h0 := h.nonneg
  obtain ⟨B, hB⟩ : ∃ B, nb N = B := ⟨_, rfl⟩
  have HBits := Lib.hid (bits_num h (by omega))
  rw [hB] at HBits
  by_cases hN : N = 0
  · subst hN
    obtain rfl : B = 0 := by rw [← hB]; rfl
    have HR : Hid (TZ 0 true 0 E) := Lib.hid (tz_zero E)
    clear hB h
    go_enter Tryz.func93, Tryz.ntmps93
    go_wp2_with fail
    refine HBits.out.mono ?_
    rintro e w' ⟨rfl, rfl⟩
    go_wp2_with fail
    go_ret2
    exact ⟨0, true, rfl, HR.out, Below.refl _ _⟩
  · have hNp : 0 < N := by omega
    obtain ⟨g1, g2, g3⟩ := nb_spec hNp
    rw [hB] at g1 g2 g3
    have hBz : ((B : Int) == 0) = false := by simp; omega
    have hBm : B ≤ 64 * m := by
      rw [← hB]
      refine nb_le ?_
      have := h.lt
      rwa [show (B64 : Int) ^ m = 2 ^ (64 * m) by rw [Int.pow_mul]; rfl] at this
    by_cases hbig : E > 1024 - (B : Int)
    · have HR : Hid (TZ 9218868437227405311 false N E) := Lib.hid (tz_big hNp (by rw [hB]; exact hbig))
      clear hB h g1 g2 g3 hNp hN
      go_enter Tryz.func93, Tryz.ntmps93
      go_wp2_with fail
      refine HBits.out.mono ?_
      rintro e w' ⟨rfl, rfl⟩
      go_wp2_with fail
      go_ret2
      exact ⟨_, false, rfl, HR.out, Below.refl _ _⟩
    · by_cases hsm : E < -1074 - (B : Int)
      · have HR : Hid (TZ 0 false N E) := Lib.hid (tz_small hNp (by rw [hB]; exact hsm))
        clear hB h g1 g2 g3 hNp hN
        go_enter Tryz.func93, Tryz.ntmps93
        go_wp2_with fail
        refine HBits.out.mono ?_
        rintro e w' ⟨rfl, rfl⟩
        go_wp2_with fail
        go_ret2
        exact ⟨_, false, rfl, HR.out, Below.refl _ _⟩
      · have HG := Lib.hid (And.intro g1 (And.intro g2 (And.intro hNp hB)))
        clear hB g1 g2 hNp
        obtain ⟨last, hlast⟩ : ∃ last, max ((B : Int) + E - 53) (-1074) = last := ⟨_, rfl⟩
        have hl1 : -1074 ≤ last ∧ last ≤ 971 ∧ (B : Int) + E - 53 ≤ last ∧ (last = (B : Int) + E - 53 ∨ last = -1074) := by omega
        go_enter Tryz.func93, Tryz.ntmps93
        go_wp2_with fail
        refine HBits.out.mono ?_
        rintro e w' ⟨rfl, rfl⟩
        by_cases hn : 0 < last - E
        · obtain ⟨j, hj⟩ := Int.eq_ofNat_of_zero_le (show 0 ≤ last - E by omega)
          obtain ⟨L, hL⟩ := Int.eq_ofNat_of_zero_le (show 0 ≤ last + 1074 by omega)
          have hj0 : 0 < j := by omega
          obtain ⟨hG1, hG2, hG3, hG4⟩ := HG.out
          have hpj := pow2_pos j
          have hVlt : N / 2 ^ j < 9007199254740992 := by
            refine Int.ediv_lt_of_lt_mul hpj ?_
            have e1 : (2 : Int) ^ B ≤ 2 ^ (53 + j) := pow_le_pow (by decide) (by omega)
            rw [Int.pow_add] at e1
            have e2 : (2 : Int) ^ 53 = 9007199254740992 := by decide
            rw [e2] at e1
            omega
          have hVge : 4503599627370496 ≤ N / 2 ^ j ∨ L = 0 := by
            rcases hl1.2.2.2 with e | e
            · left
              refine Int.le_ediv_of_mul_le hpj ?_
              have e1 : (2 : Int) ^ (52 + j) ≤ 2 ^ (B - 1) := pow_le_pow (by decide) (by omega)
              rw [Int.pow_add] at e1
              have e2 : (2 : Int) ^ 52 = 4503599627370496 := by decide
              rw [e2] at e1
              omega
            · right; omega
          have hV0 : 0 ≤ N / 2 ^ j := Int.ediv_nonneg h0 (Int.le_of_lt hpj)
          obtain ⟨b, o, rfl⟩ : ∃ b o, a = some ⟨b, o, none⟩ := by
            obtain ⟨a', n', c', l, he, h1, h2, h3, hrd, hl, hv, hm'⟩ := h.open
            cases he
            have hne : l ≠ [] := by
              intro e
              rw [e] at hv
              exact hN hv.symm
            obtain ⟨b, o, rfl, -⟩ := hrd.cases hne
            exact ⟨b, o, rfl⟩
          have hBn : B ≤ 64 * n := by
            obtain ⟨a', n', c', l, he, h1, h2, h3, hrd, hl, hv, hm'⟩ := h.open
            cases he
            rw [← hG4]
            refine nb_le ?_
            have := vb_lt B64_pos hl
            rw [hv, ← h1] at this
            rwa [show (B64 : Int) ^ n = 2 ^ (64 * n) by rw [Int.pow_mul]; rfl] at this
          obtain ⟨V, hV⟩ := Int.eq_ofNat_of_zero_le hV0
          have HSH := Lib.hid (shorten_down j h hm hj0 (by omega) hV (by omega))
          have hV53 : V < 9007199254740992 := by omega
          have hL2 : L ≤ 2045 := by omega
          have HTZ : Hid (∀ t, LowOf N t → TZ (L * 4503599627370496 + V) (decide (j ≤ t)) N E) :=
            Lib.hid fun t ht => tz_cut hG3 hV.symm (by omega) hV53 (by omega) hL2 ht
          have hsub : last - -1074 = (L : Int) := by omega
          clear hG1 hG2 hG4 hpj hVlt hVge hV0 hV hBn hl1 hL
          go_wp2_with fail
          refine HSH.out.mono ?_
          rintro e w3 ⟨rfl, hb3⟩
          go_wp2_with (simp only [frombits_run])
          refine (lowall_num (h.below hb3) hm (hT.below hb3)).mono ?_
          rintro e w4 ⟨t, rfl, ht, rfl⟩
          have HR := Lib.hid (HTZ.out t ht)
          clear HTZ ht
          go_wp2_with fail
          go_ret2
          exact ⟨_, decide (j ≤ t), rfl, HR.out, hb3⟩
        · obtain ⟨j, hj⟩ := Int.eq_ofNat_of_zero_le (show 0 ≤ E - last by omega)
          have hj' : last - E = -(j : Int) := by omega
          obtain ⟨L, hL⟩ := Int.eq_ofNat_of_zero_le (show 0 ≤ last + 1074 by omega)
          obtain ⟨hG1, hG2, hG3, hG4⟩ := HG.out
          have hpj := pow2_pos j
          have hjs : j ≤ 53 := by omega
          have hVlt : N * 2 ^ j < 9007199254740992 := by
            have e1 : N * 2 ^ j < 2 ^ B * 2 ^ j := Int.mul_lt_mul_of_pos_right hG2 hpj
            rw [← Int.pow_add] at e1
            have e3 : (2 : Int) ^ (B + j) ≤ 2 ^ 53 := pow_le_pow (by decide) (by omega)
            have e2 : (2 : Int) ^ 53 = 9007199254740992 := by decide
            rw [e2] at e3
            omega
          have hVge : 4503599627370496 ≤ N * 2 ^ j ∨ L = 0 := by
            rcases hl1.2.2.2 with e | e
            · left
              have e1 : 2 ^ (B - 1) * 2 ^ j ≤ N * 2 ^ j := Int.mul_le_mul_of_nonneg_right hG1 (Int.le_of_lt hpj)
              rw [← Int.pow_add] at e1
              have e3 : (2 : Int) ^ 52 ≤ 2 ^ (B - 1 + j) := pow_le_pow (by decide) (by omega)
              have e2 : (2 : Int) ^ 52 = 4503599627370496 := by decide
              rw [e2] at e3
              omega
            · right; omega
          have hV0 : 0 ≤ N * 2 ^ j := Int.mul_nonneg h0 (Int.le_of_lt hpj)
          obtain ⟨V, hV⟩ := Int.eq_ofNat_of_zero_le hV0
          have HSH := Lib.hid (shorten_up (p := m + 2) j h hm (by omega) (by omega) hV (by omega))
          have hV53 : V < 9007199254740992 := by omega
          have hL2 : L ≤ 2045 := by omega
          have HTZ : Hid (TZ (L * 4503599627370496 + V) true N E) :=
            Lib.hid (tz_whole hV.symm (by omega) hV53 (by omega) hL2)
          have hsub : last - -1074 = (L : Int) := by omega
          clear hG1 hG2 hG3 hG4 hpj hVlt hVge hV0 hV hl1 hL hj
          go_wp2_with fail
          refine HSH.out.mono ?_
          rintro e w3 ⟨rfl, hb3⟩
          go_wp2_with (simp only [frombits_run])
          refine (lowall_num (h.below hb3) hm (hT.below hb3)).mono ?_
          rintro e w4 ⟨t, rfl, ht, rfl⟩
          have hdec : decide (-(j : Int) ≤ (t : Int)) = true := decide_eq_true (by omega)
          clear ht
          go_wp2_with fail
          go_ret2
          exact ⟨_, true, rfl, HTZ.out, hb3⟩
end Go.Proofs.YtfanhllcoaondaaGreatDoor

namespace Go.Proofs.YtfanhllcoaondaaGreatDoor
open Go.RowKit

theorem TZ.unique {R R' : Nat} {ex ex' : Bool} {N E : Int} (h : TZ R ex N E) (g : TZ R' ex' N E) : R = R' ∧ ex = ex' := by
  obtain ⟨K, hK⟩ : ∃ K : Nat, K = 1074 + E.natAbs := ⟨_, rfl⟩
  have h1 : 1074 ≤ K := by omega
  have h2 : 0 ≤ E + K := by omega
  have hs := pow2_pos (K - 1074)
  have mono : ∀ {a b : Nat}, a ≤ b → (un a : Int) * 2 ^ (K - 1074) ≤ (un b : Int) * 2 ^ (K - 1074) := fun {a b} hab => Int.mul_le_mul_of_nonneg_right (by have := un_le hab; omega) (Int.le_of_lt hs)
  have smono : ∀ {a b : Nat}, a < b → (un a : Int) * 2 ^ (K - 1074) < (un b : Int) * 2 ^ (K - 1074) := fun {a b} hab => Int.mul_lt_mul_of_pos_right (by have := un_lt hab; omega) hs
  cases ex <;> cases ex'
  · refine ⟨?_, rfl⟩
    obtain ⟨a1, a2⟩ := h.gt rfl K h1 h2
    obtain ⟨b1, b2⟩ := g.gt rfl K h1 h2
    rcases Nat.lt_trichotomy R R' with hr | hr | hr
    · have := a2 (by have := g.lt; omega)
      have := mono (show R + 1 ≤ R' from hr)
      omega
    · exact hr
    · have := b2 (by have := h.lt; omega)
      have := mono (show R' + 1 ≤ R from hr)
      omega
  · exfalso
    obtain ⟨a1, a2⟩ := h.gt rfl K h1 h2
    have b1 := g.eq rfl K h1 h2
    rcases Nat.lt_or_ge R R' with hr | hr
    · have := a2 (by have := g.lt; omega)
      have := mono (show R + 1 ≤ R' from hr)
      omega
    · have := mono hr
      omega
  · exfalso
    obtain ⟨a1, a2⟩ := g.gt rfl K h1 h2
    have b1 := h.eq rfl K h1 h2
    rcases Nat.lt_or_ge R' R with hr | hr
    · have := a2 (by have := h.lt; omega)
      have := mono (show R' + 1 ≤ R from hr)
      omega
    · have := mono hr
      omega
  · refine ⟨?_, rfl⟩
    have a1 := h.eq rfl K h1 h2
    have b1 := g.eq rfl K h1 h2
    rcases Nat.lt_trichotomy R R' with hr | hr | hr
    · have := smono hr; omega
    · exact hr
    · have := smono hr; omega

/-- The word that a rung stands for with a sign; nought has none. -/
def sgW (neg : Bool) (R : Nat) : Nat := match neg with
  | false => R
  | true => if R = 0 then 0 else 9223372036854775808 + R
/-- What Float gives. -/
def floW (neg : Bool) (R : Nat) (ex down : Bool) : Nat := if (ex || neg != down) = true then sgW neg R else stepW (sgW neg R) down
def RetF (w : World) (neg : Bool) (N E : Int) (down : Bool) (e : Ending) (w' : World) : Prop := ∃ (R : Nat) (ex : Bool), e = .returned (.float .f64 (floW neg R ex down)) ∧ TZ R ex N E ∧ Below w.heap.size w w'
theorem sgW_lt {neg : Bool} {R : Nat} (h : R < INF) : sgW neg R < 18446744073709551616 ∧ rg (sgW neg R) = R := by
  unfold INF at *
  cases neg
  · show R < 18446744073709551616 ∧ rg R = R
    exact ⟨by omega, (rg_pos (by omega)).1⟩
  · show (if R = 0 then 0 else 9223372036854775808 + R) < _ ∧ rg (if R = 0 then 0 else 9223372036854775808 + R) = R
    by_cases h0 : R = 0
    · rw [if_pos h0, h0]; exact ⟨by decide, by decide⟩
    · rw [if_neg h0]; exact ⟨by omega, (rg_neg (by omega)).1⟩
theorem fsub_run {P : Program} {t : TypeId} {R : Nat} (h : R < INF) (w : World) : (binOp .sub t (.float .f64 0) (.float .f64 R)).run P w = .ok (.float .f64 (sgW true R)) w := by
  by_cases h0 : R = 0
  · subst h0
    exact run_float_arith w .sub t .f64 0 0 0 sub_zero
  · rw [show sgW true R = 9223372036854775808 + R from if_neg h0]
    exact run_float_arith w .sub t .f64 0 R _ (sub_word h0 h)

set_option maxRecDepth 100000 in
set_option maxHeartbeats 1200000 in
theorem float_num {w : World} (p : Bool) {a : Option Addr} {n c : Nat} {N : Int} {m : Nat} (E dir : Int) (h : Num w (.slice a n c) N m) (hm : m ≤ 1000) (hE0 : -1000000 ≤ E) (hE1 : E ≤ 1000000) (hT : Tab64 w) :
    Calls Tryz.prog 35 #[.agg #[.bool p, .slice a n c, .int .i64 E], .int .i64 dir] w fun e w' => RetF w (p && decide (N ≠ 0)) N E (decide (dir < 0)) e w' := by
  obtain ⟨w1, hw1⟩ : ∃ w1, w.alloc (.cells #[.bool p, .slice a n c, .int .i64 E] 60) = w1 := ⟨_, rfl⟩
  have hb1 : Below w.heap.size w w1 := hw1 ▸ below_alloc w _
  have hc1 : w1.heap[w.heap.size]? = some (.cells #[.bool p, .slice a n c, .int .i64 E] 60 (0, 0)) := hw1 ▸ heap_alloc_new w _
  replace h := h.below hb1
  replace hT := hT.below hb1
  obtain ⟨neg, hneg⟩ : ∃ neg, (p && decide (N ≠ 0)) = neg := ⟨_, rfl⟩
  have hsg : decide (cmpI (sg p N) 0 < 0) = neg := by
    have h0 := h.nonneg
    rw [← hneg]
    by_cases e : N = 0
    · rw [e, cmpI_eq (by cases p <;> rfl)]; cases p <;> rfl
    · rw [decide_eq_true e, Bool.and_true]
      cases p
      · rw [sg_false, cmpI_gt (by omega)]; rfl
      · rw [sg_true, cmpI_lt (by omega)]; rfl
  obtain ⟨s, hs⟩ : ∃ s, cmpI (sg p N) 0 = s := ⟨_, rfl⟩
  rw [hneg]
  rw [hs] at hsg
  have HS := fun (w2 : World) (hb : Below w1.heap.size w1 w2) => Lib.hid (dsign_num (w := w2) p E (h.below hb) hm)
  rw [hs] at HS
  have HTZ := Lib.hid (tz_num E h hm hE0 hE1 hT)
  obtain ⟨⟨k0, k1, k2⟩, -⟩ := slot3 hc1
  obtain ⟨down, hdn⟩ : ∃ down, decide (dir < 0) = down := ⟨_, rfl⟩
  rw [hdn]
  have HDN := Lib.hid hdn
  clear hneg hs h hdn
  go_enter Tryz.func35, Tryz.ntmps35
  go_wp2_with fail
  refine HTZ.out.mono ?_
  rintro e w2 ⟨R, ex, rfl, htz, hb2⟩
  have HR := Lib.hid htz
  have hRI := htz.lt
  have hc2 := slot_kept hc1 hb2
  clear k0 k1 k2 htz HTZ
  obtain ⟨⟨k0, k1, k2⟩, -⟩ := slot3 hc2
  have hbw2 := hb1.trans (hb2.mono hb1.size)
  go_wp2_with fail
  refine (HS w2 hb2).out.mono ?_
  rintro e w3 ⟨rfl, hb3⟩
  have hbw3 := hbw2.trans (hb3.mono hbw2.size)
  have HST : ∀ b, b < 18446744073709551616 → rg b ≤ INF → Hid (Calls Tryz.prog 33 #[.float .f64 b, .int .i64 dir] w3 fun e w' => RetB w3 (.float .f64 (stepW b down)) e w') := by
    intro b h1 h2
    rw [← HDN.out]
    exact Lib.hid (step_num b dir w3 h1 h2)
  have hS1 := sgW_lt (neg := true) hRI
  have hS0 := sgW_lt (neg := false) hRI
  have H1 := HST _ hS1.1 (by rw [hS1.2]; exact Nat.le_of_lt hRI)
  have H0 := HST _ hS0.1 (by rw [hS0.2]; exact Nat.le_of_lt hRI)
  have e0 : sgW false R = R := rfl
  rw [e0] at H0
  have HRI := Lib.hid hRI
  have hdn := HDN.out
  clear HST hS1 hS0 e0 HS hc1 hc2 hRI HDN
  cases neg <;> cases ex <;> cases down
  · have hd' : ¬ dir < 0 := by simpa using hdn
    have hs' : ¬ s < 0 := by simpa using hsg
    have hfl : floW false R false false = (stepW R false) := by rfl
    have HFL := Lib.hid hfl
    clear hfl
    go_wp2_with ((go_at_call 33; refine H0.out.mono ?_; rintro e w' ⟨rfl, rfl⟩))
    go_ret
    exact ⟨R, _, (rfl : _ = Ending.returned (Value.float .f64 (stepW R false))).trans (congrArg (fun x => Ending.returned (Value.float FloatKind.f64 x)) HFL.out.symm), HR.out, hbw3⟩
  · have hd' : dir < 0 := by simpa using hdn
    have hs' : ¬ s < 0 := by simpa using hsg
    have hfl : floW false R false true = R := by rfl
    have HFL := Lib.hid hfl
    clear hfl
    go_wp2_with fail
    go_ret
    exact ⟨R, _, (rfl : _ = Ending.returned (Value.float .f64 R)).trans (congrArg (fun x => Ending.returned (Value.float FloatKind.f64 x)) HFL.out.symm), HR.out, hbw3⟩
  · have hd' : ¬ dir < 0 := by simpa using hdn
    have hs' : ¬ s < 0 := by simpa using hsg
    have hfl : floW false R true false = R := by rfl
    have HFL := Lib.hid hfl
    clear hfl
    go_wp2_with fail
    go_ret
    exact ⟨R, _, (rfl : _ = Ending.returned (Value.float .f64 R)).trans (congrArg (fun x => Ending.returned (Value.float FloatKind.f64 x)) HFL.out.symm), HR.out, hbw3⟩
  · have hd' : dir < 0 := by simpa using hdn
    have hs' : ¬ s < 0 := by simpa using hsg
    have hfl : floW false R true true = R := by rfl
    have HFL := Lib.hid hfl
    clear hfl
    go_wp2_with fail
    go_ret
    exact ⟨R, _, (rfl : _ = Ending.returned (Value.float .f64 R)).trans (congrArg (fun x => Ending.returned (Value.float FloatKind.f64 x)) HFL.out.symm), HR.out, hbw3⟩
  · have hd' : ¬ dir < 0 := by simpa using hdn
    have hs' : s < 0 := by simpa using hsg
    have hfl : floW true R false false = (sgW true R) := by rfl
    have HFL := Lib.hid hfl
    clear hfl
    go_wp2_with (simp only [fsub_run HRI.out])
    go_ret
    exact ⟨R, _, (rfl : _ = Ending.returned (Value.float .f64 (sgW true R))).trans (congrArg (fun x => Ending.returned (Value.float FloatKind.f64 x)) HFL.out.symm), HR.out, hbw3⟩
  · have hd' : dir < 0 := by simpa using hdn
    have hs' : s < 0 := by simpa using hsg
    have hfl : floW true R false true = (stepW (sgW true R) true) := by rfl
    have HFL := Lib.hid hfl
    clear hfl
    go_wp2_with (first | simp only [fsub_run HRI.out] | (go_at_call 33; refine H1.out.mono ?_; rintro e w' ⟨rfl, rfl⟩))
    go_ret
    exact ⟨R, _, (rfl : _ = Ending.returned (Value.float .f64 (stepW (sgW true R) true))).trans (congrArg (fun x => Ending.returned (Value.float FloatKind.f64 x)) HFL.out.symm), HR.out, hbw3⟩
  · have hd' : ¬ dir < 0 := by simpa using hdn
    have hs' : s < 0 := by simpa using hsg
    have hfl : floW true R true false = (sgW true R) := by rfl
    have HFL := Lib.hid hfl
    clear hfl
    go_wp2_with (simp only [fsub_run HRI.out])
    go_ret
    exact ⟨R, _, (rfl : _ = Ending.returned (Value.float .f64 (sgW true R))).trans (congrArg (fun x => Ending.returned (Value.float FloatKind.f64 x)) HFL.out.symm), HR.out, hbw3⟩
  · have hd' : dir < 0 := by simpa using hdn
    have hs' : s < 0 := by simpa using hsg
    have hfl : floW true R true true = (sgW true R) := by rfl
    have HFL := Lib.hid hfl
    clear hfl
    go_wp2_with (simp only [fsub_run HRI.out])
    go_ret
    exact ⟨R, _, (rfl : _ = Ending.returned (Value.float .f64 (sgW true R))).trans (congrArg (fun x => Ending.returned (Value.float FloatKind.f64 x)) HFL.out.symm), HR.out, hbw3⟩

/-- flo.Dyad has returned a finite float64's number. -/
def RetFD (w : World) (b : Nat) (e : Ending) (w' : World) : Prop := ∃ p a n c N E, e = .returned (.tuple #[.agg #[.bool p, .slice a n c, .int .i64 E], .bool true]) ∧ NewN w.heap.size w' (.slice a n c) N 1 ∧ -1074 ≤ E ∧ E ≤ 1100 ∧ N * 2 ^ (E + 1074).toNat = (un (rg b) : Int) ∧ (N ≠ 0 → p = fneg b ∧ ∃ z, N = 2 * z + 1) ∧ (N = 0 → p = false ∧ E = 0) ∧ Below w.heap.size w w'
theorem RetDy.of_sg {w w' : World} {p p' : Bool} {N N' E : Int} {m : Nat} {e : Ending} (h : RetDy w p' N' E m e w') (h0 : 0 ≤ N) (h1 : 0 ≤ N') (hs : sg p N = sg p' N') : RetDy w p N E m e w' := by
  have e1 : N = N' ∧ (N ≠ 0 → p' = p) := by
    cases p <;> cases p' <;> simp only [sg_true, sg_false] at hs
    · exact ⟨by omega, fun _ => rfl⟩
    · exact ⟨by omega, fun _ => by omega⟩
    · exact ⟨by omega, fun _ => by omega⟩
    · exact ⟨by omega, fun _ => rfl⟩
  obtain ⟨rfl, e2⟩ := e1
  obtain ⟨pR, a, n, c, NR, ER, t, h3, h4, h5, h6⟩ := h
  refine ⟨pR, a, n, c, NR, ER, t, h3, h4, ?_, h6⟩
  rcases h5 with h5 | ⟨h7, rfl, h8⟩
  · exact Or.inl h5
  · exact Or.inr ⟨h7, e2 h7, h8⟩
theorem field_parts {b : Nat} (hf : rg b < INF) : b / 4503599627370496 % 2048 ≤ 2046 ∧ un (rg b) = (if b / 4503599627370496 % 2048 = 0 then b % 4503599627370496 else 4503599627370496 + b % 4503599627370496) * 2 ^ (b / 4503599627370496 % 2048 - 1) := by
  unfold INF at hf
  have h1 : rg b / 4503599627370496 = b / 4503599627370496 % 2048 := by unfold rg; omega
  have h2 : rg b % 4503599627370496 = b % 4503599627370496 := by unfold rg; omega
  refine ⟨by rw [← h1]; omega, ?_⟩
  unfold un
  rw [h1, h2]
  by_cases h3 : rg b < 4503599627370496
  · have h4 : b / 4503599627370496 % 2048 = 0 := by rw [← h1]; omega
    rw [if_pos h3, h4, if_pos rfl, Nat.pow_zero, Nat.mul_one, ← h2]
    omega
  · have h4 : b / 4503599627370496 % 2048 ≠ 0 := by rw [← h1]; omega
    rw [if_neg h3, if_neg h4]
theorem or_one52 {c : Int} (h0 : 0 ≤ c) (h1 : c < 4503599627370496) : bits .or .u64 c 4503599627370496 = 4503599627370496 + c := by
  rw [or_comm64 c 4503599627370496 h0 (by omega) (by decide) (by decide)]
  have := or_parts 1 c 52 (by decide) h0 (by simpa using h1) (by have : (2 : Int) ^ 52 = 4503599627370496 := by decide
                                                                 omega)
  have e : (1 : Int) * 2 ^ 52 = 4503599627370496 := by decide
  rw [e] at this
  exact this

set_option maxRecDepth 100000 in
set_option maxHeartbeats 1200000 in
theorem fdyad_num (b : Nat) (w : World) (hb : b < 18446744073709551616) (hf : rg b < INF) (hT : Tab64 w) :
    Calls Tryz.prog 29 #[.float .f64 b] w fun e w' => RetFD w b e w' := by
  obtain ⟨w1, hw1⟩ : ∃ w1, w.alloc (.cells #[.bool false, .slice none 0 0, .int .i64 0] 60) = w1 := ⟨_, rfl⟩
  have hb1 : Below w.heap.size w w1 := hw1 ▸ below_alloc w _
  have hc1 : w1.heap[w.heap.size]? = some (.cells #[.bool false, .slice none 0 0, .int .i64 0] 60 (0, 0)) := hw1 ▸ heap_alloc_new w _
  have hs1 : w.heap.size < w1.heap.size := (Array.getElem?_eq_some_iff.1 hc1).1
  replace hT := hT.below hb1
  have HF := Lib.hid (finite_num b w1 hb)
  rw [decide_eq_true hf] at HF
  have HC := Lib.hid (cut_num b w1 hb)
  obtain ⟨hfl, hun⟩ := field_parts hf
  obtain ⟨F, hF⟩ : ∃ F, b / 4503599627370496 % 2048 = F := ⟨_, rfl⟩
  obtain ⟨G, hG⟩ : ∃ G, b % 4503599627370496 = G := ⟨_, rfl⟩
  have hG2 : G < 4503599627370496 := by rw [← hG]; exact Nat.mod_lt _ (by decide)
  obtain ⟨p, hp⟩ : ∃ p, fneg b = p := ⟨_, rfl⟩
  rw [hF] at HC hfl hun
  rw [hG] at HC hun
  rw [hp] at HC
  have HP := Lib.hid hp
  have HU := Lib.hid hun
  -- what is done behind the field's test
  have fin : ∀ (w3 : World) (M f : Nat) (e' : Int), Below w1.heap.size w1 w3 → (un (rg b) = M * 2 ^ f) → f ≤ 2045 → e' = -1074 + (f : Int) → M < 9007199254740992 → ∀ e w4, RetDy w3 p (M : Int) e' 1 e w4 → ∃ pR aR nR cR ER, e = .returned (.agg #[.bool pR, .slice aR nR cR, .int .i64 ER]) ∧ Below w3.heap.size w3 w4 ∧ w4.heap[w.heap.size]? = some (.cells #[.bool false, .slice none 0 0, .int .i64 0] 60 (0, 0)) ∧
      Hid (RetFD w b (.returned (.tuple #[.agg #[.bool pR, .slice aR nR cR, .int .i64 ER], .bool true])) (((w4.setCell ⟨w.heap.size, 0, none⟩ (.bool pR)).setCell ⟨w.heap.size, 1, none⟩ (.slice aR nR cR)).setCell ⟨w.heap.size, 2, none⟩ (.int .i64 ER))) := by
    intro w3 M f e' hb3 hu hf2 he hM e w4 hr
    obtain ⟨pR, aR, nR, cR, NR, ER, t, rfl, hN, hv, hb4⟩ := hr
    have hblk := slot_kept (slot_kept hc1 hb3) hb4
    have hon := slot3_only (w := w4) (g := w.heap.size) (.bool pR) (.slice aR nR cR) (.int .i64 ER)
    have hbw := (hb1.trans (hb3.mono hb1.size)).trans (hb4.mono (hb1.trans (hb3.mono hb1.size)).size)
    have hs3 := hb3.size
    refine ⟨pR, aR, nR, cR, ER, rfl, hb4, hblk, ?_⟩
    show RetFD _ _ _ _
    refine ⟨pR, aR, nR, cR, NR, ER, rfl, (hN.only hon (by omega)).base (by omega), ?_, ?_, ?_, ?_, ?_, hbw.trans (hon.below (Nat.le_refl _) hbw.size)⟩
    · rcases hv with ⟨-, -, -, rfl, -⟩ | ⟨-, -, -, rfl, ht, -⟩
      · decide
      · omega
    · rcases hv with ⟨-, -, -, rfl, -⟩ | ⟨-, -, -, rfl, ht, -⟩
      · decide
      · omega
    · rcases hv with ⟨h1, -, rfl, rfl, -⟩ | ⟨-, -, h2, rfl, ht, -⟩
      · have : M = 0 := by omega
        rw [hu, this, Int.zero_mul, Nat.zero_mul]; rfl
      · rw [hu, cast_pow2, ← h2, Int.mul_assoc, ← Int.pow_add]
        exact congrArg (fun n : Nat => NR * (2 : Int) ^ n) (by omega)
    · intro h
      rcases hv with ⟨-, -, rfl, -, -⟩ | ⟨-, rfl, -, -, -, hz⟩
      · exact absurd rfl h
      · exact ⟨HP.out.symm, hz⟩
    · intro h
      rcases hv with ⟨-, rfl, -, rfl, -⟩ | ⟨h1, -, h2, -⟩
      · exact ⟨rfl, rfl⟩
      · rw [h, Int.zero_mul] at h2
        exact absurd h2.symm h1
  have HFIN := Lib.hid fin
  clear fin hF hG hp hun hf hc1
  by_cases hF0 : F = 0
  · subst hF0
    have hu0 : un (rg b) = G * 2 ^ 0 := by rw [HU.out, if_pos rfl]
    have HU0 := Lib.hid hu0
    clear hu0
    go_enter Tryz.func29, Tryz.ntmps29
    go_wp2_with fail
    refine HF.out.mono ?_
    rintro e w' ⟨rfl, rfl⟩
    go_wp2_with fail
    refine HC.out.mono ?_
    rintro e w' ⟨rfl, rfl⟩
    go_wp2_with fail
    refine (of1_num (G : Int) _ w1 (by omega) (by omega)).mono ?_
    rintro e w2 ⟨a1, n1, c1, rfl, h1, hb2⟩
    go_wp2_with fail
    refine (make_num p h1.num (by decide)).mono ?_
    rintro e w3 ⟨neg', a3, n3, c3, N3, rfl, h3, hz3, hn3, hb3⟩
    have hb13 := hb2.trans (hb3.mono hb2.size)
    have hD := Lib.hid (dmake_num neg' (-1074) h3.num (by decide) (hT.below hb13) (by omega) (by omega))
    have h30 := h3.num.nonneg
    have HZ3 := Lib.hid hz3
    clear hz3 h3 h1
    go_wp2_with fail
    refine hD.out.mono ?_
    intro e w4 hr
    obtain ⟨pR, aR, nR, cR, ER, rfl, hb4, hblk, HR⟩ := HFIN.out w3 G 0 (-1074) hb13 HU0.out (by omega) (by omega) (by omega) e w4 (hr.of_sg (by omega) h30 HZ3.out)
    obtain ⟨⟨k0, k1, k2⟩, f0, f1, f2⟩ := slot3 hblk
    have hend := slot3_set (u := .bool pR) (v := .slice aR nR cR) (s := .int .i64 ER) hblk
    clear hr
    go_wp2_with fail
    refine bodyPost_ret (results_cell_tmp' rfl _ _ _ w.heap.size 60 _ (0, 0) _ rfl hend Tryz.underlying60 (by kernel_rfl)) rfl ?_
    exact HR.out
  · have hu0 : un (rg b) = (4503599627370496 + G) * 2 ^ (F - 1) := by rw [HU.out, if_neg hF0]
    have HU0 := Lib.hid hu0
    obtain ⟨f, hf⟩ : ∃ f, F - 1 = f := ⟨_, rfl⟩
    rw [hf] at HU0
    have hFf : (F : Int) - 1 = (f : Int) := by omega
    have hF1 : (0 : Int) < (F : Int) := by omega
    have hor := or_one52 (c := (G : Int)) (by omega) (by omega)
    obtain ⟨M, hM⟩ : ∃ M : Nat, M = 4503599627370496 + G := ⟨_, rfl⟩
    have hMI : (4503599627370496 : Int) + (G : Int) = (M : Int) := by omega
    rw [hMI] at hor
    rw [← hM] at HU0
    have hMb : M < 9007199254740992 := by omega
    have hfb : f ≤ 2045 := by omega
    clear hu0 hMI hM hf hF0
    go_enter Tryz.func29, Tryz.ntmps29
    go_wp2_with fail
    refine HF.out.mono ?_
    rintro e w' ⟨rfl, rfl⟩
    go_wp2_with fail
    refine HC.out.mono ?_
    rintro e w' ⟨rfl, rfl⟩
    go_wp2_with fail
    refine (of1_num (M : Int) _ w1 (by omega) (by omega)).mono ?_
    rintro e w2 ⟨a1, n1, c1, rfl, h1, hb2⟩
    go_wp2_with fail
    refine (make_num p h1.num (by decide)).mono ?_
    rintro e w3 ⟨neg', a3, n3, c3, N3, rfl, h3, hz3, hn3, hb3⟩
    have hb13 := hb2.trans (hb3.mono hb2.size)
    have hD := Lib.hid (dmake_num neg' (-1074 + (f : Int)) h3.num (by decide) (hT.below hb13) (by omega) (by omega))
    have h30 := h3.num.nonneg
    have HZ3 := Lib.hid hz3
    clear hz3 h3 h1
    go_wp2_with fail
    refine hD.out.mono ?_
    intro e w4 hr
    obtain ⟨pR, aR, nR, cR, ER, rfl, hb4, hblk, HR⟩ := HFIN.out w3 M f (-1074 + (f : Int)) hb13 HU0.out (by omega) (by omega) (by omega) e w4 (hr.of_sg (by omega) h30 HZ3.out)
    obtain ⟨⟨k0, k1, k2⟩, f0, f1, f2⟩ := slot3 hblk
    have hend := slot3_set (u := .bool pR) (v := .slice aR nR cR) (s := .int .i64 ER) hblk
    clear hr
    go_wp2_with fail
    refine bodyPost_ret (results_cell_tmp' rfl _ _ _ w.heap.size 60 _ (0, 0) _ rfl hend Tryz.underlying60 (by kernel_rfl)) rfl ?_
    exact HR.out

set_option maxRecDepth 100000 in
theorem fdyad_inf (b : Nat) (w : World) (hb : b < 18446744073709551616) (hf : INF ≤ rg b) :
    Calls Tryz.prog 29 #[.float .f64 b] w fun e w' => RetV w (.tuple #[.agg #[.bool false, .slice none 0 0, .int .i64 0], .bool false]) e w' := by
  obtain ⟨w1, hw1⟩ : ∃ w1, w.alloc (.cells #[.bool false, .slice none 0 0, .int .i64 0] 60) = w1 := ⟨_, rfl⟩
  have hb1 : Below w.heap.size w w1 := hw1 ▸ below_alloc w _
  have hc1 : w1.heap[w.heap.size]? = some (.cells #[.bool false, .slice none 0 0, .int .i64 0] 60 (0, 0)) := hw1 ▸ heap_alloc_new w _
  have HF := Lib.hid (finite_num b w1 hb)
  rw [decide_eq_false (by omega)] at HF
  obtain ⟨⟨k0, k1, k2⟩, f0, f1, f2⟩ := slot3 hc1
  have hend := slot3_set (u := .bool false) (v := .slice none 0 0) (s := .int .i64 0) hc1
  have hon := slot3_only (w := w1) (g := w.heap.size) (.bool false) (.slice none 0 0) (.int .i64 0)
  have HB := Lib.hid (hb1.trans (hon.below (Nat.le_refl _) hb1.size))
  clear hon hc1 hf
  go_enter Tryz.func29, Tryz.ntmps29
  go_wp2_with fail
  refine HF.out.mono ?_
  rintro e w' ⟨rfl, rfl⟩
  go_wp2_with fail
  refine bodyPost_ret (results_cell_tmp' rfl _ _ _ w.heap.size 60 _ (0, 0) _ rfl hend Tryz.underlying60 (by kernel_rfl)) rfl ?_
  exact ⟨rfl, HB.out⟩

theorem low_exists (N : Int) (hN : N ≠ 0) : ∃ t, IsLow N t := by
  have key : ∀ (k : Nat) (M : Int), M.natAbs ≤ k → M ≠ 0 → ∃ t, IsLow M t := by
    intro k
    induction k with
    | zero => intro M h1 h2; omega
    | succ k ih =>
      intro M h1 h2
      by_cases h : M % 2 = 0
      · obtain ⟨t, z, hz⟩ := ih (M / 2) (by omega) (by omega)
        refine ⟨t + 1, z, ?_⟩
        rw [Int.pow_succ, Int.mul_comm (2 ^ t) 2, Int.mul_assoc, ← hz]
        omega
      · exact ⟨0, M / 2, by rw [Int.pow_zero, Int.one_mul]; omega⟩
  exact key _ N (Nat.le_refl _) hN
/-- Of every number there is a float64 next to it towards zero. -/
theorem tz_exists {N E : Int} (h0 : 0 ≤ N) : ∃ R ex, TZ R ex N E := by
  by_cases hN : N = 0
  · subst hN; exact ⟨0, true, tz_zero E⟩
  · have hNp : 0 < N := by omega
    obtain ⟨g1, g2, g3⟩ := nb_spec hNp
    by_cases hbig : E > 1024 - (nb N : Int)
    · exact ⟨_, _, tz_big hNp hbig⟩
    · by_cases hsm : E < -1074 - (nb N : Int)
      · exact ⟨_, _, tz_small hNp hsm⟩
      · obtain ⟨B, hB⟩ : ∃ B, nb N = B := ⟨_, rfl⟩
        rw [hB] at g1 g2 g3 hbig hsm
        obtain ⟨last, hlast⟩ : ∃ last, max ((B : Int) + E - 53) (-1074) = last := ⟨_, rfl⟩
        have hl1 : -1074 ≤ last ∧ last ≤ 971 ∧ (B : Int) + E - 53 ≤ last ∧ (last = (B : Int) + E - 53 ∨ last = -1074) := by omega
        obtain ⟨L, hL⟩ := Int.eq_ofNat_of_zero_le (show 0 ≤ last + 1074 by omega)
        by_cases hn : 0 < last - E
        · obtain ⟨j, hj⟩ := Int.eq_ofNat_of_zero_le (show 0 ≤ last - E by omega)
          have hpj := pow2_pos j
          have hVlt : N / 2 ^ j < 9007199254740992 := by
            refine Int.ediv_lt_of_lt_mul hpj ?_
            have e1 : (2 : Int) ^ B ≤ 2 ^ (53 + j) := pow_le_pow (by decide) (by omega)
            rw [Int.pow_add] at e1
            have e2 : (2 : Int) ^ 53 = 9007199254740992 := by decide
            rw [e2] at e1
            omega
          have hVge : 4503599627370496 ≤ N / 2 ^ j ∨ L = 0 := by
            rcases hl1.2.2.2 with e | e
            · left
              refine Int.le_ediv_of_mul_le hpj ?_
              have e1 : (2 : Int) ^ (52 + j) ≤ 2 ^ (B - 1) := pow_le_pow (by decide) (by omega)
              rw [Int.pow_add] at e1
              have e2 : (2 : Int) ^ 52 = 4503599627370496 := by decide
              rw [e2] at e1
              omega
            · right; omega
          have hV0 : 0 ≤ N / 2 ^ j := Int.ediv_nonneg h0 (Int.le_of_lt hpj)
          obtain ⟨V, hV⟩ := Int.eq_ofNat_of_zero_le hV0
          obtain ⟨t, ht⟩ := low_exists N hN
          exact ⟨_, _, tz_cut (j := j) (L := L) (man := V) hNp hV.symm (by omega) (by omega) (by omega) (by omega) (Or.inr ⟨hN, ht⟩)⟩
        · obtain ⟨j, hj⟩ := Int.eq_ofNat_of_zero_le (show 0 ≤ E - last by omega)
          have hpj := pow2_pos j
          have hVlt : N * 2 ^ j < 9007199254740992 := by
            have e1 : N * 2 ^ j < 2 ^ B * 2 ^ j := Int.mul_lt_mul_of_pos_right g2 hpj
            rw [← Int.pow_add] at e1
            have e3 : (2 : Int) ^ (B + j) ≤ 2 ^ 53 := pow_le_pow (by decide) (by omega)
            have e2 : (2 : Int) ^ 53 = 9007199254740992 := by decide
            rw [e2] at e3
            omega
          have hVge : 4503599627370496 ≤ N * 2 ^ j ∨ L = 0 := by
            rcases hl1.2.2.2 with e | e
            · left
              have e1 : 2 ^ (B - 1) * 2 ^ j ≤ N * 2 ^ j := Int.mul_le_mul_of_nonneg_right g1 (Int.le_of_lt hpj)
              rw [← Int.pow_add] at e1
              have e3 : (2 : Int) ^ 52 ≤ 2 ^ (B - 1 + j) := pow_le_pow (by decide) (by omega)
              have e2 : (2 : Int) ^ 52 = 4503599627370496 := by decide
              rw [e2] at e3
              omega
            · right; omega
          have hV0 : 0 ≤ N * 2 ^ j := Int.mul_nonneg h0 (Int.le_of_lt hpj)
          obtain ⟨V, hV⟩ := Int.eq_ofNat_of_zero_le hV0
          exact ⟨_, _, tz_whole (j := j) (L := L) (man := V) hV.symm (by omega) (by omega) (by omega) (by omega)⟩
end Go.Proofs.YtfanhllcoaondaaGreatDoor

namespace Go.Proofs.YtfanhllcoaondaaGreatDoor
open Go.RowKit

theorem word_cases {b : Nat} (hb : b < 18446744073709551616) : (b = rg b ∧ fneg b = false) ∨ (b = 9223372036854775808 + rg b ∧ fneg b = true) := by
  rcases Nat.lt_or_ge b 9223372036854775808 with h | h
  · exact Or.inl ⟨(rg_pos h).1.symm, (rg_pos h).2⟩
  · right
    have e : b = 9223372036854775808 + (b - 9223372036854775808) := by omega
    have h2 := rg_neg (r := b - 9223372036854775808) (by omega)
    rw [← e] at h2
    exact ⟨by rw [h2.1]; exact e, h2.2⟩
theorem rg_lt (b : Nat) : rg b < 9223372036854775808 := Nat.mod_lt _ (by decide)
/-- A word's step up and down, and back. -/
structure Steps (b : Nat) : Prop where
  up_lt : stepW b false < 18446744073709551616
  up_rg : rg (stepW b false) ≤ INF
  dn_lt : stepW b true < 18446744073709551616
  dn_rg : rg (stepW b true) ≤ INF
  up : fv b < fv (stepW b false)
  dn : fv (stepW b true) < fv b
  ub_rg : rg (stepW (stepW b false) true) ≤ INF
  ub : fv (stepW (stepW b false) true) = fv b
  db_rg : rg (stepW (stepW b true) false) ≤ INF
  db : fv (stepW (stepW b true) false) = fv b
theorem stepW_pos {r : Nat} (h0 : r ≠ 0) (h : r < 9223372036854775808) (dn : Bool) : stepW r dn = if dn then r - 1 else if r = INF then r else r + 1 := by
  unfold stepW
  rw [(rg_pos h).1, (rg_pos h).2, if_neg h0]
  rfl
theorem stepW_neg {r : Nat} (h0 : r ≠ 0) (h : r < 9223372036854775808) (dn : Bool) : stepW (9223372036854775808 + r) dn = if dn then (if r = INF then 9223372036854775808 + r else 9223372036854775808 + r + 1) else 9223372036854775808 + r - 1 := by
  unfold stepW
  rw [(rg_neg h).1, (rg_neg h).2, if_neg h0, if_pos rfl]
theorem stepW_zero {b : Nat} (h0 : rg b = 0) (dn : Bool) : stepW b dn = if dn then 9223372036854775809 else 1 := by
  unfold stepW
  rw [if_pos h0]
theorem steps {b : Nat} (hb : b < 18446744073709551616) (hf : rg b < INF) : Steps b := by
  have hI : INF = 9218868437227405312 := rfl
  have f1 : fv 1 = 1 := by decide
  have f0 : fv 0 = 0 := by decide
  have fm : fv 9223372036854775809 = -1 := by decide
  have fz : fv 9223372036854775808 = 0 := by decide
  by_cases h0 : rg b = 0
  · have e1 : stepW b false = 1 := stepW_zero h0 false
    have e2 : stepW b true = 9223372036854775809 := stepW_zero h0 true
    have e3 : stepW 1 true = 0 := by decide
    have e4 : stepW 9223372036854775809 false = 9223372036854775808 := by decide
    have fb : fv b = 0 := by rw [fv_def, h0]; split <;> rfl
    refine ⟨?_, ?_, ?_, ?_, ?_, ?_, ?_, ?_, ?_, ?_⟩
    · rw [e1]; decide
    · rw [e1]; decide
    · rw [e2]; decide
    · rw [e2]; decide
    · rw [e1, fb, f1]; decide
    · rw [e2, fb, fm]; decide
    · rw [e1, e3]; decide
    · rw [e1, e3, fb, f0]
    · rw [e2, e4]; decide
    · rw [e2, e4, fb, fz]
  · obtain ⟨r, hr⟩ : ∃ r, rg b = r := ⟨_, rfl⟩
    have hrl := rg_lt b
    rw [hr] at h0 hf hrl
    have l1 := un_step (r - 1)
    rw [show r - 1 + 1 = r by omega] at l1
    have l2 := un_step r
    rcases word_cases hb with ⟨e, -⟩ | ⟨e, -⟩
    · rw [hr] at e
      subst e
      have e1 : stepW b false = b + 1 := by rw [stepW_pos h0 hrl, if_neg (by decide), if_neg (by omega)]
      have e2 : stepW b true = b - 1 := by rw [stepW_pos h0 hrl, if_pos rfl]
      have e3 : stepW (b + 1) true = b := by rw [stepW_pos (by omega) (by omega), if_pos rfl]; omega
      have e4 : stepW (b - 1) false = b := by
        by_cases h1 : b = 1
        · subst h1; decide
        · rw [stepW_pos (by omega) (by omega), if_neg (by decide), if_neg (by omega)]; omega
      have r1 := (rg_pos (r := b + 1) (by omega)).1
      have r2 := (rg_pos (r := b - 1) (by omega)).1
      refine ⟨by omega, by rw [e1, r1]; omega, by omega, by rw [e2, r2]; omega, ?_, ?_, by rw [e1, e3, hr]; omega, by rw [e1, e3], by rw [e2, e4, hr]; omega, by rw [e2, e4]⟩
      · rw [e1, fv_pos (by omega), fv_pos (by omega)]; omega
      · rw [e2, fv_pos (by omega), fv_pos (by omega)]; omega
    · rw [hr] at e
      subst e
      have e1 : stepW (9223372036854775808 + r) false = 9223372036854775808 + (r - 1) := by rw [stepW_neg h0 hrl, if_neg (by decide)]; omega
      have e2 : stepW (9223372036854775808 + r) true = 9223372036854775808 + (r + 1) := by rw [stepW_neg h0 hrl, if_pos rfl, if_neg (by omega)]; omega
      have e3 : stepW (9223372036854775808 + (r - 1)) true = 9223372036854775808 + r := by
        by_cases h1 : r = 1
        · subst h1; decide
        · rw [stepW_neg (by omega) (by omega), if_pos rfl, if_neg (by omega)]; omega
      have e4 : stepW (9223372036854775808 + (r + 1)) false = 9223372036854775808 + r := by rw [stepW_neg (by omega) (by omega), if_neg (by decide)]; omega
      have r1 := (rg_neg (r := r - 1) (by omega)).1
      have r2 := (rg_neg (r := r + 1) (by omega)).1
      refine ⟨by omega, by rw [e1, r1]; omega, by omega, by rw [e2, r2]; omega, ?_, ?_, by rw [e1, e3, hr]; omega, by rw [e1, e3], by rw [e2, e4, hr]; omega, by rw [e2, e4]⟩
      · rw [e1, fv_neg (by omega), fv_neg (by omega)]; omega
      · rw [e2, fv_neg (by omega), fv_neg (by omega)]; omega

/-- The words about a number: what they are. -/
structure Btw (lo hi : Nat) (neg : Bool) (N E : Int) : Prop where
  lo_lt : lo < 18446744073709551616
  lo_rg : rg lo ≤ INF
  hi_lt : hi < 18446744073709551616
  hi_rg : rg hi ≤ INF
  le : fv lo ≤ fv hi
  next : fv lo ≠ fv hi → fv (stepW lo false) = fv hi ∧ rg (stepW lo false) ≤ INF
  one : rg lo < INF ∨ rg hi < INF
  low : rg lo < INF → ∀ K : Nat, 1074 ≤ K → 0 ≤ E + K → fv lo * 2 ^ (K - 1074) ≤ sg neg N * 2 ^ (E + K).toNat
  high : rg hi < INF → ∀ K : Nat, 1074 ≤ K → 0 ≤ E + K → sg neg N * 2 ^ (E + K).toNat ≤ fv hi * 2 ^ (K - 1074)
theorem fv_sgW {neg : Bool} {R : Nat} (h : R < INF) : fv (sgW neg R) = sg neg (un R : Int) := by
  have hI : INF = 9218868437227405312 := rfl
  cases neg
  · show fv R = (un R : Int)
    exact fv_pos (by omega)
  · show fv (if R = 0 then 0 else 9223372036854775808 + R) = -(un R : Int)
    by_cases h0 : R = 0
    · subst h0; decide
    · rw [if_neg h0]; exact fv_neg (by omega)
theorem sg_mul_le {p : Bool} {a b c d : Int} (h : a * c ≤ b * d) : p = false → sg p a * c ≤ sg p b * d := by
  intro e; subst e; exact h
theorem btw {neg : Bool} {R : Nat} {ex : Bool} {N E : Int} (h : TZ R ex N E) : Btw (floW neg R ex true) (floW neg R ex false) neg N E := by
  have hI : INF = 9218868437227405312 := rfl
  have hR := h.lt
  cases ex with
  | true =>
    have e1 : ∀ d, floW neg R true d = sgW neg R := fun d => by unfold floW; simp
    rw [e1, e1]
    obtain ⟨s1, s2⟩ := sgW_lt (neg := neg) hR
    have hv := fv_sgW (neg := neg) hR
    have key : ∀ K : Nat, 1074 ≤ K → 0 ≤ E + K → fv (sgW neg R) * 2 ^ (K - 1074) = sg neg N * 2 ^ (E + K).toNat := by
      intro K h1 h2
      have := h.eq rfl K h1 h2
      rw [hv, ← sg_scale, ← sg_scale, this]
    exact ⟨s1, by rw [s2]; omega, s1, by rw [s2]; omega, Int.le_refl _, fun h => absurd rfl h, Or.inl (by rw [s2]; exact hR), fun _ K h1 h2 => Int.le_of_eq (key K h1 h2), fun _ K h1 h2 => Int.le_of_eq (key K h1 h2).symm⟩
  | false =>
    have l2 := un_step R
    cases neg with
    | false =>
      have e1 : floW false R false true = R := rfl
      have e2 : floW false R false false = R + 1 := by
        show stepW R false = R + 1
        by_cases h0 : R = 0
        · subst h0; decide
        · rw [stepW_pos h0 (by omega), if_neg (by decide), if_neg (by omega)]
      have e3 : stepW R false = R + 1 := e2
      rw [e1, e2]
      have r1 := (rg_pos (r := R) (by omega)).1
      have r2 := (rg_pos (r := R + 1) (by omega)).1
      have v1 := fv_pos (r := R) (by omega)
      have v2 := fv_pos (r := R + 1) (by omega)
      refine ⟨by omega, by rw [r1]; omega, by omega, by rw [r2]; omega, by rw [v1, v2]; omega, fun _ => ⟨by rw [e3], by rw [e3, r2]; omega⟩, Or.inl (by rw [r1]; exact hR), fun _ K h1 h2 => ?_, fun hh K h1 h2 => ?_⟩
      · rw [v1, sg_false]
        exact Int.le_of_lt (h.gt rfl K h1 h2).1
      · rw [v2, sg_false]
        rw [r2] at hh
        exact Int.le_of_lt ((h.gt rfl K h1 h2).2 hh)
    | true =>
      have e1 : floW true R false true = 9223372036854775808 + (R + 1) := by
        show stepW (sgW true R) true = _
        by_cases h0 : R = 0
        · subst h0; decide
        · rw [show sgW true R = 9223372036854775808 + R from if_neg h0, stepW_neg h0 (by omega), if_pos rfl, if_neg (by omega)]; omega
      have e2 : floW true R false false = sgW true R := rfl
      rw [e1, e2]
      obtain ⟨s1, s2⟩ := sgW_lt (neg := true) hR
      have v2 := fv_sgW (neg := true) hR
      rw [sg_true] at v2
      have r1 := (rg_neg (r := R + 1) (by omega)).1
      have v1 := fv_neg (r := R + 1) (by omega)
      have e3 : stepW (9223372036854775808 + (R + 1)) false = 9223372036854775808 + R := by rw [stepW_neg (by omega) (by omega), if_neg (by decide)]; omega
      refine ⟨by omega, by rw [r1]; omega, s1, by rw [s2]; omega, by rw [v1, v2]; omega, fun _ => ⟨by rw [e3, v2, fv_neg (by omega)], by rw [e3, (rg_neg (by omega)).1]; omega⟩, Or.inr (by rw [s2]; exact hR), fun hh K h1 h2 => ?_, fun _ K h1 h2 => ?_⟩
      · rw [r1] at hh
        have := (h.gt rfl K h1 h2).2 hh
        rw [v1, sg_true, Int.neg_mul, Int.neg_mul]
        omega
      · have := (h.gt rfl K h1 h2).1
        rw [v2, sg_true, Int.neg_mul, Int.neg_mul]
        omega
end Go.Proofs.YtfanhllcoaondaaGreatDoor

namespace Go.Proofs.YtfanhllcoaondaaGreatDoor
open Go.RowKit

/-- Where the word nearest to a whole number of least places lies. -/
theorem nearest_at (neg : Bool) {T k0 : Nat} (h0 : T ≠ 0) : ∃ r, r ≤ INF ∧ Ieee.double.nearest neg T (Ieee.double.leastPlace + (k0 : Int)) = Ieee.double.word neg r ∧
    (∀ R, R ≤ INF → un R ≤ T * 2 ^ k0 → R ≤ r) ∧ (∀ R, T * 2 ^ k0 ≤ un R → r ≤ R) := by
  unfold Ieee.Format.nearest
  rw [if_neg h0]
  have e2 : Ieee.double.binade = 4503599627370496 := by decide
  have e3 : Ieee.double.infRung = INF := by decide
  have e4 : (Ieee.double.fractionBits : Int) = 52 := rfl
  simp only [e2, e3]
  rw [e4]
  generalize Ieee.double.leastPlace = lp
  obtain ⟨g, hg⟩ : ∃ g, T.log2 = g := ⟨_, rfl⟩
  obtain ⟨q, hq⟩ : ∃ q, g + k0 - 52 = q := ⟨_, rfl⟩
  rw [hg]
  have hm : max (lp + (k0 : Int) + (g : Int) - 52) lp = lp + (q : Int) := by omega
  rw [hm]
  obtain ⟨i, hi⟩ : ∃ i, k0 - q = i := ⟨_, rfl⟩
  obtain ⟨j, hj⟩ : ∃ j, q - k0 = j := ⟨_, rfl⟩
  have z1 : (lp + (k0 : Int) - (lp + (q : Int))).toNat = i := by omega
  have z2 : (lp + (q : Int) - (lp + (k0 : Int))).toNat = j := by omega
  have z3 : (lp + (q : Int) - lp).toNat = q := by omega
  rw [z1, z2, z3, Nat.shiftLeft_eq]
  unfold Ieee.Toward.cut
  have hij : i = 0 ∨ j = 0 := by omega
  have hgap : (1 <<< min j ((T * 2 ^ i).log2 + 2) : Nat) = 2 ^ j := by
    have : j ≤ (T * 2 ^ i).log2 + 2 := by
      rcases hij with h | h
      · rw [h, Nat.pow_zero, Nat.mul_one, hg]; omega
      · omega
    rw [Nat.min_eq_left this, Nat.shiftLeft_eq, Nat.one_mul]
  simp only [hgap]
  have hp := Nat.two_pow_pos q
  have hpj := Nat.two_pow_pos j
  obtain ⟨k, hk⟩ : ∃ k, T * 2 ^ i / 2 ^ j = k := ⟨_, rfl⟩
  obtain ⟨s, hs⟩ : ∃ s, T * 2 ^ i % 2 ^ j = s := ⟨_, rfl⟩
  have hT : T * 2 ^ i = k * 2 ^ j + s := by rw [← hk, ← hs, Nat.mul_comm (T * 2 ^ i / 2 ^ j)]; exact (Nat.div_add_mod _ (2 ^ j)).symm
  have hsl : s < 2 ^ j := by rw [← hs]; exact Nat.mod_lt _ hpj
  rw [hk, hs]
  obtain ⟨M, hMd⟩ : ∃ M, T * 2 ^ k0 = M := ⟨_, rfl⟩
  rw [hMd]
  obtain ⟨s', hM, hsl', hss⟩ : ∃ s', M = k * 2 ^ q + s' ∧ s' < 2 ^ q ∧ (s ≠ 0 → s' ≠ 0) := by
    rcases hij with h | h
    · rw [h, Nat.pow_zero, Nat.mul_one] at hT
      have hk0 := Nat.two_pow_pos k0
      have e : 2 ^ q = 2 ^ j * 2 ^ k0 := by rw [← Nat.pow_add]; congr 1; omega
      refine ⟨s * 2 ^ k0, ?_, ?_, ?_⟩
      · rw [← hMd, hT, Nat.add_mul, Nat.mul_assoc, ← e]
      · rw [e]; exact Nat.mul_lt_mul_of_pos_right hsl hk0
      · intro h1; exact Nat.mul_ne_zero h1 (by omega)
    · rw [h] at hsl
      have hs0 : s = 0 := by rw [Nat.pow_zero] at hsl; omega
      rw [h, hs0, Nat.pow_zero, Nat.mul_one, Nat.add_zero] at hT
      refine ⟨0, ?_, hp, fun h1 => absurd hs0 h1⟩
      rw [← hMd, ← hT, Nat.add_zero, Nat.mul_assoc, ← Nat.pow_add]
      congr 2; omega
  obtain ⟨u, hu⟩ : ∃ u : Bool, (decide (2 ^ j < 2 * s) || 2 ^ j == 2 * s && k % 2 == 1) = u := ⟨_, rfl⟩
  rw [hu]
  have hus : u = true → s ≠ 0 := by
    rintro rfl rfl
    simp at hu
  have hpk := Nat.two_pow_pos k0
  have hl1 : 2 ^ (g + k0) ≤ M := by
    rw [← hMd, Nat.pow_add, ← hg]; exact Nat.mul_le_mul_right _ (Nat.log2_self_le h0)
  have hl2 : M < 2 ^ (g + k0 + 1) := by
    rw [← hMd, show g + k0 + 1 = (g + 1) + k0 by omega, Nat.pow_add, ← hg]; exact Nat.mul_lt_mul_of_pos_right Nat.lt_log2_self hpk
  have hkM : M / 2 ^ q = k := by
    rw [hM, Nat.mul_comm, Nat.mul_add_div hp, Nat.div_eq_of_lt hsl', Nat.add_zero]
  have hk1 : k < 9007199254740992 := by
    rw [← hkM, Nat.div_lt_iff_lt_mul hp]
    refine Nat.lt_of_lt_of_le hl2 ?_
    rw [show (9007199254740992 : Nat) = 2 ^ 53 from rfl, ← Nat.pow_add]
    exact Nat.pow_le_pow_right (by decide) (by omega)
  have hk2 : 4503599627370496 ≤ k ∨ q = 0 := by
    by_cases hq0 : q = 0
    · exact Or.inr hq0
    · left
      rw [← hkM, Nat.le_div_iff_mul_le hp, show (4503599627370496 : Nat) = 2 ^ 52 from rfl, ← Nat.pow_add, show 52 + q = g + k0 by omega]
      exact hl1
  have u0 := un_pack (L := q) (man := k) (by omega) hk2
  have u1 := un_pack (L := q) (man := k + 1) (by omega) (by omega)
  rw [Nat.add_mul, Nat.one_mul] at u1
  obtain ⟨t, ht⟩ : ∃ t, q * 4503599627370496 + k = t := ⟨_, rfl⟩
  rw [ht] at u0
  rw [show q * 4503599627370496 + (k + 1) = t + 1 by omega] at u1
  have hun : un t ≤ M := by omega
  have hun1 : M < un (t + 1) := by omega
  have hunu : u = true → un t < M := fun h => by have := hss (hus h); omega
  have lt_of : ∀ {a b : Nat}, un a < un b → a < b := fun {a b} h => by
    rcases Nat.lt_or_ge a b with h1 | h1
    · exact h1
    · have := un_le h1; omega
  have le_of : ∀ {a b : Nat}, un a ≤ un b → a ≤ b := fun {a b} h => by
    rcases Nat.lt_or_ge b a with h1 | h1
    · have := un_lt h1; omega
    · exact h1
  refine ⟨min (q * 4503599627370496 + (k + u.toNat)) INF, Nat.min_le_right _ _, rfl, fun R hR h => ?_, fun R h => ?_⟩
  · have h1 : R < t + 1 := lt_of (Nat.lt_of_le_of_lt h hun1)
    refine Nat.le_min.2 ⟨by omega, hR⟩
  · refine Nat.le_trans (Nat.min_le_left _ _) ?_
    cases u with
    | false =>
      have := le_of (Nat.le_trans hun h)
      show q * 4503599627370496 + (k + 0) ≤ R
      omega
    | true =>
      have := lt_of (Nat.lt_of_lt_of_le (hunu rfl) h)
      show q * 4503599627370496 + (k + 1) ≤ R
      omega

/-- A float64 beside a whole number S of least places: no float64 lies between. -/
structure NearTo (x : Nat) (S : Int) : Prop where
  lt : x < 18446744073709551616
  rg : rg x ≤ INF
  up : ∀ y, y < 18446744073709551616 → Go.Proofs.YtfanhllcoaondaaGreatDoor.rg y ≤ INF → fv y ≤ S → fv y ≤ fv x
  down : ∀ y, y < 18446744073709551616 → Go.Proofs.YtfanhllcoaondaaGreatDoor.rg y ≤ INF → S ≤ fv y → fv x ≤ fv y

theorem signed_un {b m p : Nat} (h : m * 2 ^ p = un (rg b)) : Ieee.signed (fneg b) m p = fv b := by
  rw [fv_def, ← h]
  unfold Ieee.signed
  rw [Nat.shiftLeft_eq]

theorem add_num {b c : Nat} (hb : rg b < INF) (hc : rg c < INF) : ∃ x, floatBits .add .f64 b c = some x ∧ NearTo x (fv b + fv c) := by
  obtain ⟨m, p, e1, h1⟩ := read_num hb
  obtain ⟨n, q, f1, g1⟩ := read_num hc
  have hI : INF = 9218868437227405312 := rfl
  show ∃ x, Ieee.double.add b c = some x ∧ _
  unfold Ieee.Format.add
  rw [e1, f1]
  simp only [Ieee.Datum.sum, Option.map_some]
  obtain ⟨k, hk⟩ : ∃ k, min p q = k := ⟨_, rfl⟩
  have hbase : min (Ieee.double.leastPlace + (p : Int)) (Ieee.double.leastPlace + (q : Int)) = Ieee.double.leastPlace + (k : Int) := by omega
  rw [hbase]
  obtain ⟨i, hi⟩ : ∃ i, p - k = i := ⟨_, rfl⟩
  obtain ⟨j, hj⟩ : ∃ j, q - k = j := ⟨_, rfl⟩
  have z1 : (Ieee.double.leastPlace + (p : Int) - (Ieee.double.leastPlace + (k : Int))).toNat = i := by omega
  have z2 : (Ieee.double.leastPlace + (q : Int) - (Ieee.double.leastPlace + (k : Int))).toNat = j := by omega
  rw [z1, z2]
  have s1 : Ieee.signed (fneg b) m i * 2 ^ k = fv b := by rw [← signed_scale, show i + k = p by omega]; exact signed_un h1
  have s2 : Ieee.signed (fneg c) n j * 2 ^ k = fv c := by rw [← signed_scale, show j + k = q by omega]; exact signed_un g1
  obtain ⟨D, hD⟩ : ∃ D, Ieee.signed (fneg b) m i + Ieee.signed (fneg c) n j = D := ⟨_, rfl⟩
  have hS : fv b + fv c = D * 2 ^ k := by rw [← s1, ← s2, ← Int.add_mul, hD]
  rw [hD, hS]
  have hp := pow2_pos k
  clear s1 s2 hD hS
  have bigger : ∀ y, y < 18446744073709551616 → rg y ≤ INF → (fneg y = false ∧ fv y = (un (rg y) : Int)) ∨ (fneg y = true ∧ fv y = -(un (rg y) : Int)) := by
    intro y _ _
    rw [fv_def]
    cases fneg y
    · exact Or.inl ⟨rfl, rfl⟩
    · exact Or.inr ⟨rfl, rfl⟩
  by_cases hD0 : D = 0
  · subst hD0
    rw [if_pos rfl, Int.zero_mul]
    refine ⟨_, rfl, ?_⟩
    show NearTo (Ieee.double.nearest _ 0 _) 0
    unfold Ieee.Format.nearest
    rw [if_pos rfl]
    have hz : ∀ s, Ieee.double.word s 0 < 18446744073709551616 ∧ rg (Ieee.double.word s 0) ≤ INF ∧ fv (Ieee.double.word s 0) = 0 := by
      intro s; cases s <;> decide
    obtain ⟨a1, a2, a3⟩ := hz (fneg b && fneg c)
    exact ⟨a1, a2, fun y _ _ h => by rw [a3]; exact h, fun y _ _ h => by rw [a3]; exact h⟩
  · rw [if_neg hD0]
    refine ⟨_, rfl, ?_⟩
    show NearTo (Ieee.double.nearest (decide (D < 0)) D.natAbs _) _
    obtain ⟨r, hr, e, hup, hdn⟩ := nearest_at (decide (D < 0)) (T := D.natAbs) (k0 := k) (by omega)
    rw [e]
    have hcast : ((D.natAbs * 2 ^ k : Nat) : Int) = (D.natAbs : Int) * 2 ^ k := cast_pow2 _ _
    rcases Int.lt_or_le D 0 with hneg | hpos
    · have hd : decide (D < 0) = true := by simp [hneg]
      rw [hd]
      have hw : Ieee.double.word true r = 9223372036854775808 + r := rfl
      rw [hw]
      have hx := fv_neg (r := r) (by omega)
      have hxr := (rg_neg (r := r) (by omega)).1
      have hSn : D * 2 ^ k = -((D.natAbs * 2 ^ k : Nat) : Int) := by
        rw [hcast, show (D.natAbs : Int) = -D by omega, Int.neg_mul, Int.neg_neg]
      refine ⟨by omega, by rw [hxr]; exact hr, fun y hy hyr h => ?_, fun y hy hyr h => ?_⟩
      · rw [hx]
        rcases bigger y hy hyr with ⟨-, b2⟩ | ⟨-, b2⟩
        · have hpos2 : 0 < D.natAbs * 2 ^ k := Nat.mul_pos (by omega) (Nat.two_pow_pos k)
          omega
        · have := un_le (hdn (rg y) (by omega))
          omega
      · rw [hx]
        rcases bigger y hy hyr with ⟨-, b2⟩ | ⟨-, b2⟩
        · omega
        · have := un_le (hup (rg y) hyr (by omega))
          omega
    · have hd : decide (D < 0) = false := by simp; omega
      rw [hd]
      have hw : Ieee.double.word false r = r := rfl
      rw [hw]
      have hx := fv_pos (r := r) (by omega)
      have hxr := (rg_pos (r := r) (by omega)).1
      have hSn : D * 2 ^ k = ((D.natAbs * 2 ^ k : Nat) : Int) := by
        rw [hcast, show (D.natAbs : Int) = D by omega]
      refine ⟨by omega, by rw [hxr]; exact hr, fun y hy hyr h => ?_, fun y hy hyr h => ?_⟩
      · rw [hx]
        rcases bigger y hy hyr with ⟨-, b2⟩ | ⟨-, b2⟩
        · have := un_le (hup (rg y) hyr (by omega))
          omega
        · omega
      · rw [hx]
        rcases bigger y hy hyr with ⟨-, b2⟩ | ⟨-, b2⟩
        · have := un_le (hdn (rg y) (by omega))
          omega
        · have hpos2 : 0 < D.natAbs * 2 ^ k := Nat.mul_pos (by omega) (Nat.two_pow_pos k)
          omega
end Go.Proofs.YtfanhllcoaondaaGreatDoor

namespace Go.Proofs.YtfanhllcoaondaaGreatDoor
open Go.RowKit

theorem Num.var {w w' : World} {a : Option Addr} {n c : Nat} {N : Int} {m g lo hi : Nat} (h : Num w (.slice a n c) N m) {p : Bool} {a1 : Option Addr} {n1 c1 : Nat} {t : TypeId} (hv : w.heap[g]? = some (.cells #[.bool p, .slice a1 n1 c1] t (0, 0))) (ho : Only g lo hi w w') : Num w' (.slice a n c) N m := by
  obtain ⟨l, ⟨a', c', he, h1, h2, h3, h4⟩, h5, h6⟩ := h
  simp only [Value.slice.injEq] at he
  obtain ⟨rfl, rfl, rfl⟩ := he
  refine ⟨l, ⟨a, c, rfl, h1, h2, ?_, h4⟩, h5, h6⟩
  rcases h3 with h3 | ⟨b, o, rfl, hat⟩
  · exact Or.inl h3
  · by_cases hl : l = []
    · exact Or.inl hl
    · refine Or.inr ⟨b, o, rfl, ho.at' hat ?_⟩
      rintro rfl
      have hat0 := hat 0 (List.length_pos_iff.2 hl)
      rw [cell_of_row w b _ _ t _ hv] at hat0
      match o, hat0 with
      | 0, hat0 => simp at hat0
      | 1, hat0 => simp at hat0
      | o + 2, hat0 => simp at hat0
def dtop (N E : Int) : Int := if N = 0 then 0 else (nb N : Int) + E
theorem sign_zero_iff {p : Bool} {N : Int} (h : 0 ≤ N) : (cmpI (sg p N) 0 == 0) = decide (N = 0) := by
  by_cases e : N = 0
  · rw [decide_eq_true e, e, cmpI_eq (by cases p <;> rfl)]; rfl
  · rw [decide_eq_false e]
    cases p
    · rw [sg_false, cmpI_gt (by omega)]; rfl
    · rw [sg_true, cmpI_lt (by omega)]; rfl
set_option maxRecDepth 100000 in
set_option maxHeartbeats 1200000 in
theorem dtop_num {w : World} (p : Bool) {a : Option Addr} {n c : Nat} {N : Int} {m : Nat} (E : Int) (h : Num w (.slice a n c) N m) (hm : m ≤ 1000) (hE0 : -1000000 ≤ E) (hE1 : E ≤ 1000000) :
    Calls Tryz.prog 102 #[.agg #[.bool p, .slice a n c, .int .i64 E]] w fun e w' => RetV w (.int .i64 (dtop N E)) e w' := by
  obtain ⟨w1, hw1⟩ : ∃ w1, w.alloc (.cells #[.bool p, .slice a n c, .int .i64 E] 60) = w1 := ⟨_, rfl⟩
  have hb1 : Below w.heap.size w w1 := hw1 ▸ below_alloc w _
  have hc1 : w1.heap[w.heap.size]? = some (.cells #[.bool p, .slice a n c, .int .i64 E] 60 (0, 0)) := hw1 ▸ heap_alloc_new w _
  replace h := h.below hb1
  have h0 := h.nonneg
  have HS := Lib.hid (dsign_num p E h hm)
  have hz := sign_zero_iff (p := p) h0
  obtain ⟨s, hs⟩ : ∃ s, cmpI (sg p N) 0 = s := ⟨_, rfl⟩
  rw [hs] at HS hz
  obtain ⟨⟨k0, k1, k2⟩, -⟩ := slot3 hc1
  by_cases hN : N = 0
  · rw [decide_eq_true hN] at hz
    have hv : dtop N E = 0 := if_pos hN
    rw [hv]
    clear hv hN hs
    go_enter Tryz.func102, Tryz.ntmps102
    go_wp2_with fail
    refine HS.out.mono ?_
    rintro e w2 ⟨rfl, hb2⟩
    go_wp2_with fail
    go_ret
    exact ⟨rfl, hb1.trans (hb2.mono hb1.size)⟩
  · rw [decide_eq_false hN] at hz
    obtain ⟨B, hB⟩ : ∃ B, nb N = B := ⟨_, rfl⟩
    have hBm : B ≤ 64 * m := by
      rw [← hB]
      refine nb_le ?_
      have := h.lt
      rwa [show (B64 : Int) ^ m = 2 ^ (64 * m) by rw [Int.pow_mul]; rfl] at this
    obtain ⟨T, hT⟩ : ∃ T : Int, (B : Int) + E = T := ⟨_, rfl⟩
    have hv : dtop N E = T := by rw [← hT, ← hB]; exact if_neg hN
    rw [hv]
    have hwT : IntKind.i64.wrap T = T := by rw [IntKind.wrap_i64]; omega
    have HB := Lib.hid hB
    clear hv hN hs hB
    go_enter Tryz.func102, Tryz.ntmps102
    go_wp2_with fail
    refine HS.out.mono ?_
    rintro e w2 ⟨rfl, hb2⟩
    replace hc1 := slot_kept hc1 hb2
    replace h := h.below hb2
    have hbw2 := hb1.trans (hb2.mono hb1.size)
    clear k0 k1 k2
    go_upto_region 3 with fail
    refine wp_region_slots (by kernel_rfl) [6, 7, 8, 9, 10, 11, 12, 2] (fun w' => (w'.heap[w.heap.size]? = some (.cells #[.bool p, .slice a n c, .int .i64 E] 60 (0, 0))) ∧ (Num w' (.slice a n c) N m) ∧ (Below w2.heap.size w2 w')) (Said [Is (.pointer (some ⟨w.heap.size, 0, none⟩)), Is (.pointer (some ⟨w.heap.size, 1, none⟩)), Is (.slice a n c), Is (.int .i64 (B : Int)), Is (.pointer (some ⟨w.heap.size, 2, none⟩)), Is (.int .i64 E), Is (.int .i64 T), Is (.int .i64 T)]) (by kernel_rfl) (by kernel_rfl) (by kernel_rfl) (by kernel_rfl) (Said.keep ?keep) ⟨slot_kept hc1 (bdn (Below.refl _ _) 1), h.below (bdn (Below.refl _ _) 1), bdn (Below.refl _ _) 1⟩ (l := [0, 1, 2, 3, 4, 5, 6, 7]) (by kernel_rfl) ?step ?fin
    case keep =>
      refine List.forall_mem_cons.2 ⟨Is.keeps _, ?_⟩
      refine List.forall_mem_cons.2 ⟨Is.keeps _, ?_⟩
      refine List.forall_mem_cons.2 ⟨Is.keeps _, ?_⟩
      refine List.forall_mem_cons.2 ⟨Is.keeps _, ?_⟩
      refine List.forall_mem_cons.2 ⟨Is.keeps _, ?_⟩
      refine List.forall_mem_cons.2 ⟨Is.keeps _, ?_⟩
      refine List.forall_mem_cons.2 ⟨Is.keeps _, ?_⟩
      refine List.forall_mem_cons.2 ⟨Is.keeps _, ?_⟩
      exact fun _ h => nomatch h
    case step =>
      refine List.forall_mem_cons.2 ⟨?_, ?_⟩
      · refine SlotStep.plain rfl rfl rfl ?_
        intro tm ws hsame hS hg K hK
        have e1 : tm[1]? = some (.pointer (some ⟨w.heap.size, 0, none⟩)) := hsame.2 1 rfl
        go_simp
        exact hK _ _ (Below.refl _ _) hS rfl
      refine List.forall_mem_cons.2 ⟨?_, ?_⟩
      · refine SlotStep.plain rfl rfl rfl ?_
        intro tm ws hsame hS hg K hK
        obtain ⟨v6, e6, rfl⟩ := hg 0 (by kernel_rfl) _ 6 rfl rfl
        go_simp
        exact hK _ _ (Below.refl _ _) hS rfl
      refine List.forall_mem_cons.2 ⟨?_, ?_⟩
      · refine SlotStep.plain rfl rfl rfl ?_
        intro tm ws hsame hS hg K hK
        obtain ⟨v7, e7, rfl⟩ := hg 1 (by kernel_rfl) _ 7 rfl rfl
        obtain ⟨⟨k0, k1, k2⟩, -⟩ := slot3 (hS.1)
        go_simp
        exact hK _ _ (Below.refl _ _) hS rfl
      refine List.forall_mem_cons.2 ⟨?_, ?_⟩
      · refine SlotStep.plain rfl rfl rfl ?_
        intro tm ws hsame hS hg K hK
        obtain ⟨v8, e8, rfl⟩ := hg 2 (by kernel_rfl) _ 8 rfl rfl
        go_simp
        have hbt := bits_num hS.2.1 (by omega)
        rw [HB.out] at hbt
        refine hbt.mono ?_
        rintro e wm ⟨rfl, rfl⟩
        exact hK _ _ (Below.refl _ _) hS rfl
      refine List.forall_mem_cons.2 ⟨?_, ?_⟩
      · refine SlotStep.plain rfl rfl rfl ?_
        intro tm ws hsame hS hg K hK
        have e1 : tm[1]? = some (.pointer (some ⟨w.heap.size, 0, none⟩)) := hsame.2 1 rfl
        go_simp
        exact hK _ _ (Below.refl _ _) hS rfl
      refine List.forall_mem_cons.2 ⟨?_, ?_⟩
      · refine SlotStep.plain rfl rfl rfl ?_
        intro tm ws hsame hS hg K hK
        obtain ⟨v10, e10, rfl⟩ := hg 4 (by kernel_rfl) _ 10 rfl rfl
        obtain ⟨⟨k0, k1, k2⟩, -⟩ := slot3 (hS.1)
        go_simp
        exact hK _ _ (Below.refl _ _) hS rfl
      refine List.forall_mem_cons.2 ⟨?_, ?_⟩
      · refine SlotStep.plain rfl rfl rfl ?_
        intro tm ws hsame hS hg K hK
        obtain ⟨v9, e9, rfl⟩ := hg 3 (by kernel_rfl) _ 9 rfl rfl
        obtain ⟨v11, e11, rfl⟩ := hg 5 (by kernel_rfl) _ 11 rfl rfl
        go_simp
        exact hK _ _ (Below.refl _ _) hS rfl
      refine List.forall_mem_cons.2 ⟨?_, ?_⟩
      · refine SlotStep.plain rfl rfl rfl ?_
        intro tm ws hsame hS hg K hK
        obtain ⟨v12, e12, rfl⟩ := hg 6 (by kernel_rfl) _ 12 rfl rfl
        go_simp
        exact hK _ _ (Below.refl _ _) hS rfl
      exact fun _ h => nomatch h
    case fin =>
      intro tm w8 hsame hS hgot
      obtain ⟨u, hu, htm⟩ := hsame.form (by kernel_rfl)
      obtain ⟨v2, e2, rfl⟩ := hgot 7 _ 2 rfl rfl
      have h2 := hu _ _ e2
      have hb8 := hS.2.2
      clear hgot hu hsame e2 hS
      rw [htm]
      clear htm tm
      simp only [List.foldl_cons, List.foldl_nil, List.setIfInBounds_toArray, List.set_cons_zero, List.set_cons_succ, h2]
      clear h2
      go_wp2_with fail
      go_ret
      exact ⟨rfl, hbw2.trans (hb8.mono hbw2.size)⟩

/-- Two integers and a number have been returned. -/
def IsI (w : World) (v : Value) (Z : Int) (m : Nat) : Prop := ∃ p a n c N, v = .agg #[.bool p, .slice a n c] ∧ Num w (.slice a n c) N m ∧ Z = sg p N
def RetAl (w : World) (X Y e0 : Int) (m : Nat) (e : Ending) (w' : World) : Prop := ∃ p a n c N q b k d M, e = .returned (.tuple #[.agg #[.bool p, .slice a n c], .agg #[.bool q, .slice b k d], .int .i64 e0]) ∧ Num w' (.slice a n c) N m ∧ X = sg p N ∧ Num w' (.slice b k d) M m ∧ Y = sg q M ∧ Below w.heap.size w w'
theorem results_cells2 {fn : Func} {p q u : Tmp} {ty : TypeId} (h : fn.results = #[.cell p ty, .cell q ty, .tmp u]) (tmps : Array Value) (P : Program) (w : World) (g g' : Nat) (t t' : TypeId) (cs cs' : Array Value) (fr fr' : Nat × Nat) (fs : Array Field)
    (hp : tmps.getD p undef = .pointer (some ⟨g, 0, none⟩)) (hq : tmps.getD q undef = .pointer (some ⟨g', 0, none⟩)) (hg : w.heap[g]? = some (.cells cs t fr)) (hg' : w.heap[g']? = some (.cells cs' t' fr'))
    (hu : P.underlying ty = some (.struct fs)) (hi : (P.info? ty).map (·.size) = some cs.size) (hi' : (P.info? ty).map (·.size) = some cs'.size) :
    (results fn tmps).run P w = .ok (.tuple #[.agg cs, .agg cs', tmps.getD u undef]) w := by
  have hp' : tmps[p]?.getD undef = .pointer (some ⟨g, 0, none⟩) := by simpa using hp
  have hq' : tmps[q]?.getD undef = .pointer (some ⟨g', 0, none⟩) := by simpa using hq
  simp [results, h, hp', hq', asAddr, run_loadVar_row w g t ty cs fr (.struct fs) hg hu rfl hi, run_loadVar_row w g' t' ty cs' fr' (.struct fs) hg' hu rfl hi', Result.andThen]
theorem slot2_apart {w : World} {g h : Nat} {o : Obj} {u v : Value} (hg : w.heap[g]? = some o) (hne : g ≠ h) :
    ((w.setCell ⟨h, 0, none⟩ u).setCell ⟨h, 1, none⟩ v).heap[g]? = some o := by
  rw [heap_setCell_other _ _ _ _ hne, heap_setCell_other _ _ _ _ hne]
  exact hg
set_option maxRecDepth 100000 in
set_option maxHeartbeats 1200000 in
theorem align_num {w : World} (p q : Bool) {a a2 : Option Addr} {n c n2 c2 : Nat} {A B : Int} {m P : Nat} (E G : Int) (hx : Num w (.slice a n c) A m) (hy : Num w (.slice a2 n2 c2) B m) (hm : m ≤ 1000) (hE0 : -1000000 ≤ E) (hE1 : E ≤ 1000000) (hG0 : -1000000 ≤ G) (hG1 : G ≤ 1000000) (hP : ∀ i : Nat, (i : Int) = E - min E G ∨ (i : Int) = G - min E G → m + i / 64 + 1 ≤ P) :
    Calls Tryz.prog 99 #[.agg #[.bool p, .slice a n c, .int .i64 E], .agg #[.bool q, .slice a2 n2 c2, .int .i64 G]] w fun e w' => RetAl w (sg p A * 2 ^ (E - min E G).toNat) (sg q B * 2 ^ (G - min E G).toNat) (min E G) P e w' := by
  obtain ⟨e0, he0⟩ : ∃ e0, min E G = e0 := ⟨_, rfl⟩
  rw [he0]
  rw [he0] at hP
  obtain ⟨i, hi⟩ := Int.eq_ofNat_of_zero_le (show 0 ≤ E - e0 by omega)
  obtain ⟨j, hj⟩ := Int.eq_ofNat_of_zero_le (show 0 ≤ G - e0 by omega)
  have hPi := hP i (Or.inl hi.symm)
  have hPj := hP j (Or.inr hj.symm)
  have hin : (E - e0).toNat = i := by omega
  have hjn : (G - e0).toNat = j := by omega
  rw [hin, hjn]
  have hwi : IntKind.i64.wrap (i : Int) = (i : Int) := by rw [IntKind.wrap_i64]; omega
  have hwj : IntKind.i64.wrap (j : Int) = (j : Int) := by rw [IntKind.wrap_i64]; omega
  have hi24 : i ≤ 16777216 := by omega
  have hj24 : j ≤ 16777216 := by omega
  obtain ⟨w1, hw1⟩ : ∃ w1, w.alloc (.cells #[.bool p, .slice a n c, .int .i64 E] 60) = w1 := ⟨_, rfl⟩
  obtain ⟨w2, hw2⟩ : ∃ w2, w1.alloc (.cells #[.bool q, .slice a2 n2 c2, .int .i64 G] 60) = w2 := ⟨_, rfl⟩
  obtain ⟨w3, hw3⟩ : ∃ w3, w2.alloc (.cells #[.bool false, .slice none 0 0] 58) = w3 := ⟨_, rfl⟩
  obtain ⟨w4, hw4⟩ : ∃ w4, w3.alloc (.cells #[.bool false, .slice none 0 0] 58) = w4 := ⟨_, rfl⟩
  have hb1 : Below w.heap.size w w1 := hw1 ▸ below_alloc w _
  have hb12 : Below w1.heap.size w1 w2 := hw2 ▸ below_alloc w1 _
  have hb23 : Below w2.heap.size w2 w3 := hw3 ▸ below_alloc w2 _
  have hb34 : Below w3.heap.size w3 w4 := hw4 ▸ below_alloc w3 _
  have hb24 := hb23.trans (hb34.mono hb23.size)
  have hbw2 := hb1.trans (hb12.mono hb1.size)
  have hbw4 := hbw2.trans (hb24.mono hbw2.size)
  have hc1 : w4.heap[w.heap.size]? = some (.cells #[.bool p, .slice a n c, .int .i64 E] 60 (0, 0)) := slot_kept (slot_kept (hw1 ▸ heap_alloc_new w _) hb12) hb24
  have hc2 : w4.heap[w1.heap.size]? = some (.cells #[.bool q, .slice a2 n2 c2, .int .i64 G] 60 (0, 0)) := slot_kept (hw2 ▸ heap_alloc_new w1 _) hb24
  have hc3 : w4.heap[w2.heap.size]? = some (.cells #[.bool false, .slice none 0 0] 58 (0, 0)) := slot_kept (hw3 ▸ heap_alloc_new w2 _) hb34
  have hc4 : w4.heap[w3.heap.size]? = some (.cells #[.bool false, .slice none 0 0] 58 (0, 0)) := hw4 ▸ heap_alloc_new w3 _
  have hne : w2.heap.size ≠ w3.heap.size := by
    have h1 : w3.heap[w2.heap.size]? = some (.cells #[.bool false, .slice none 0 0] 58 (0, 0)) := hw3 ▸ heap_alloc_new w2 _
    have := (Array.getElem?_eq_some_iff.1 h1).1
    omega
  have hs2 : w.heap.size ≤ w2.heap.size := hbw2.size
  have hs3 : w2.heap.size ≤ w3.heap.size := hb23.size
  have HSZ := Lib.hid (And.intro hs2 hs3)
  replace hx := hx.below hbw4
  replace hy := hy.below hbw4
  obtain ⟨⟨k0, k1, k2⟩, -⟩ := slot3 hc1
  obtain ⟨⟨l0, l1, l2⟩, -⟩ := slot3 hc2
  have HNE := Lib.hid hne
  clear hP hin hjn hb1 hb12 hb23 hb34 hb24 hbw2 hne hs2 hs3
  go_enter Tryz.func99, Tryz.ntmps99
  go_upto_region 2 with fail
  refine wp_region_slots_float (by kernel_rfl) 14 [13, 14, 15, 16, 17, 18, 19, 20, 21, 22, 23, 24, 25, 26, 27] (fun w' => (w'.heap[w.heap.size]? = some (.cells #[.bool p, .slice a n c, .int .i64 E] 60 (0, 0))) ∧ (w'.heap[w1.heap.size]? = some (.cells #[.bool q, .slice a2 n2 c2, .int .i64 G] 60 (0, 0))) ∧ (w'.heap[w2.heap.size]? = some (.cells #[.bool false, .slice none 0 0] 58 (0, 0))) ∧ (w'.heap[w3.heap.size]? = some (.cells #[.bool false, .slice none 0 0] 58 (0, 0))) ∧ (Num w' (.slice a n c) A m) ∧ (Num w' (.slice a2 n2 c2) B m) ∧ (Below w4.heap.size w4 w')) (Said [Is (.pointer (some ⟨w.heap.size, 0, none⟩)), Is (.agg #[.bool p, .slice a n c]), Is (.pointer (some ⟨w.heap.size, 2, none⟩)), Is (.int .i64 E), Is (.int .i64 e0), Is (.int .i64 (i : Int)), IsWN (sg p A * 2 ^ i) P, Is (.pointer (some ⟨w1.heap.size, 0, none⟩)), Is (.agg #[.bool q, .slice a2 n2 c2]), Is (.pointer (some ⟨w1.heap.size, 2, none⟩)), Is (.int .i64 G), Is (.int .i64 e0), Is (.int .i64 (j : Int)), IsWN (sg q B * 2 ^ j) P, Is (.int .i64 e0)]) (by kernel_rfl) (by kernel_rfl) (by kernel_rfl) (by kernel_rfl) (by kernel_rfl) (Said.keep ?keep) ⟨slot_kept hc1 (bdn (Below.refl _ _) 1), slot_kept hc2 (bdn (Below.refl _ _) 1), slot_kept hc3 (bdn (Below.refl _ _) 1), slot_kept hc4 (bdn (Below.refl _ _) 1), hx.below (bdn (Below.refl _ _) 1), hy.below (bdn (Below.refl _ _) 1), bdn (Below.refl _ _) 1⟩ (l := [0, 1, 2, 3, 4, 5, 6, 7, 8, 9, 10, 11, 12, 13, 14]) (by kernel_rfl) ?step ?float ?fin
  case keep =>
    refine List.forall_mem_cons.2 ⟨Is.keeps _, ?_⟩
    refine List.forall_mem_cons.2 ⟨Is.keeps _, ?_⟩
    refine List.forall_mem_cons.2 ⟨Is.keeps _, ?_⟩
    refine List.forall_mem_cons.2 ⟨Is.keeps _, ?_⟩
    refine List.forall_mem_cons.2 ⟨Is.keeps _, ?_⟩
    refine List.forall_mem_cons.2 ⟨Is.keeps _, ?_⟩
    refine List.forall_mem_cons.2 ⟨IsWN.keeps _ _, ?_⟩
    refine List.forall_mem_cons.2 ⟨Is.keeps _, ?_⟩
    refine List.forall_mem_cons.2 ⟨Is.keeps _, ?_⟩
    refine List.forall_mem_cons.2 ⟨Is.keeps _, ?_⟩
    refine List.forall_mem_cons.2 ⟨Is.keeps _, ?_⟩
    refine List.forall_mem_cons.2 ⟨Is.keeps _, ?_⟩
    refine List.forall_mem_cons.2 ⟨Is.keeps _, ?_⟩
    refine List.forall_mem_cons.2 ⟨IsWN.keeps _ _, ?_⟩
    refine List.forall_mem_cons.2 ⟨Is.keeps _, ?_⟩
    exact fun _ h => nomatch h
  case step =>
    refine List.forall_mem_cons.2 ⟨?_, ?_⟩
    · refine SlotStep.plain rfl rfl rfl ?_
      intro tm ws hsame hS hg K hK
      have e2 : tm[2]? = some (.pointer (some ⟨w.heap.size, 0, none⟩)) := hsame.2 2 rfl
      go_simp
      exact hK _ _ (Below.refl _ _) hS rfl
    refine List.forall_mem_cons.2 ⟨?_, ?_⟩
    · refine SlotStep.plain rfl rfl rfl ?_
      intro tm ws hsame hS hg K hK
      obtain ⟨v13, e13, rfl⟩ := hg 0 (by kernel_rfl) _ 13 rfl rfl
      obtain ⟨⟨k0, k1, k2⟩, -⟩ := slot3 (hS.1)
      go_simp
      exact hK _ _ (Below.refl _ _) hS rfl
    refine List.forall_mem_cons.2 ⟨?_, ?_⟩
    · refine SlotStep.plain rfl rfl rfl ?_
      intro tm ws hsame hS hg K hK
      have e2 : tm[2]? = some (.pointer (some ⟨w.heap.size, 0, none⟩)) := hsame.2 2 rfl
      go_simp
      exact hK _ _ (Below.refl _ _) hS rfl
    refine List.forall_mem_cons.2 ⟨?_, ?_⟩
    · refine SlotStep.plain rfl rfl rfl ?_
      intro tm ws hsame hS hg K hK
      obtain ⟨v15, e15, rfl⟩ := hg 2 (by kernel_rfl) _ 15 rfl rfl
      obtain ⟨⟨k0, k1, k2⟩, -⟩ := slot3 (hS.1)
      go_simp
      exact hK _ _ (Below.refl _ _) hS rfl
    refine List.forall_mem_cons.2 ⟨?_, ?_⟩
    · refine SlotStep.plain rfl rfl rfl ?_
      intro tm ws hsame hS hg K hK
      have e7 : tm[7]? = some (.int .i64 e0) := hsame.2 7 rfl
      go_simp
      exact hK _ _ (Below.refl _ _) hS rfl
    refine List.forall_mem_cons.2 ⟨?_, ?_⟩
    · refine SlotStep.plain rfl rfl rfl ?_
      intro tm ws hsame hS hg K hK
      obtain ⟨v16, e16, rfl⟩ := hg 3 (by kernel_rfl) _ 16 rfl rfl
      obtain ⟨v17, e17, rfl⟩ := hg 4 (by kernel_rfl) _ 17 rfl rfl
      go_simp
      exact hK _ _ (Below.refl _ _) hS rfl
    refine List.forall_mem_cons.2 ⟨?_, ?_⟩
    · refine SlotStep.plain rfl rfl rfl ?_
      intro tm ws hsame hS hg K hK
      obtain ⟨v14, e14, rfl⟩ := hg 1 (by kernel_rfl) _ 14 rfl rfl
      obtain ⟨v18, e18, rfl⟩ := hg 5 (by kernel_rfl) _ 18 rfl rfl
      go_simp
      refine (shlw_num (p := P) p i hS.2.2.2.2.1 hi24 hPi hm).mono ?_
      intro e wm hw
      obtain ⟨vR, rfl, hR, hb⟩ := hw.wn
      exact hK _ _ hb (⟨slot_kept (hS.1) (hb), slot_kept (hS.2.1) (hb), slot_kept (hS.2.2.1) (hb), slot_kept (hS.2.2.2.1) (hb), (hS.2.2.2.2.1).below (hb), (hS.2.2.2.2.2.1).below (hb), (hS.2.2.2.2.2.2).trans (Below.mono (hb) (hS.2.2.2.2.2.2).size)⟩) hR
    refine List.forall_mem_cons.2 ⟨?_, ?_⟩
    · refine SlotStep.plain rfl rfl rfl ?_
      intro tm ws hsame hS hg K hK
      have e3 : tm[3]? = some (.pointer (some ⟨w1.heap.size, 0, none⟩)) := hsame.2 3 rfl
      go_simp
      exact hK _ _ (Below.refl _ _) hS rfl
    refine List.forall_mem_cons.2 ⟨?_, ?_⟩
    · refine SlotStep.plain rfl rfl rfl ?_
      intro tm ws hsame hS hg K hK
      obtain ⟨v20, e20, rfl⟩ := hg 7 (by kernel_rfl) _ 20 rfl rfl
      obtain ⟨⟨k0, k1, k2⟩, -⟩ := slot3 (hS.2.1)
      go_simp
      exact hK _ _ (Below.refl _ _) hS rfl
    refine List.forall_mem_cons.2 ⟨?_, ?_⟩
    · refine SlotStep.plain rfl rfl rfl ?_
      intro tm ws hsame hS hg K hK
      have e3 : tm[3]? = some (.pointer (some ⟨w1.heap.size, 0, none⟩)) := hsame.2 3 rfl
      go_simp
      exact hK _ _ (Below.refl _ _) hS rfl
    refine List.forall_mem_cons.2 ⟨?_, ?_⟩
    · refine SlotStep.plain rfl rfl rfl ?_
      intro tm ws hsame hS hg K hK
      obtain ⟨v22, e22, rfl⟩ := hg 9 (by kernel_rfl) _ 22 rfl rfl
      obtain ⟨⟨k0, k1, k2⟩, -⟩ := slot3 (hS.2.1)
      go_simp
      exact hK _ _ (Below.refl _ _) hS rfl
    refine List.forall_mem_cons.2 ⟨?_, ?_⟩
    · refine SlotStep.plain rfl rfl rfl ?_
      intro tm ws hsame hS hg K hK
      have e7 : tm[7]? = some (.int .i64 e0) := hsame.2 7 rfl
      go_simp
      exact hK _ _ (Below.refl _ _) hS rfl
    refine List.forall_mem_cons.2 ⟨?_, ?_⟩
    · refine SlotStep.plain rfl rfl rfl ?_
      intro tm ws hsame hS hg K hK
      obtain ⟨v23, e23, rfl⟩ := hg 10 (by kernel_rfl) _ 23 rfl rfl
      obtain ⟨v24, e24, rfl⟩ := hg 11 (by kernel_rfl) _ 24 rfl rfl
      go_simp
      exact hK _ _ (Below.refl _ _) hS rfl
    refine List.forall_mem_cons.2 ⟨?_, ?_⟩
    · refine SlotStep.plain rfl rfl rfl ?_
      intro tm ws hsame hS hg K hK
      obtain ⟨v21, e21, rfl⟩ := hg 8 (by kernel_rfl) _ 21 rfl rfl
      obtain ⟨v25, e25, rfl⟩ := hg 12 (by kernel_rfl) _ 25 rfl rfl
      go_simp
      refine (shlw_num (p := P) q j hS.2.2.2.2.2.1 hj24 hPj hm).mono ?_
      intro e wm hw
      obtain ⟨vR, rfl, hR, hb⟩ := hw.wn
      exact hK _ _ hb (⟨slot_kept (hS.1) (hb), slot_kept (hS.2.1) (hb), slot_kept (hS.2.2.1) (hb), slot_kept (hS.2.2.2.1) (hb), (hS.2.2.2.2.1).below (hb), (hS.2.2.2.2.2.1).below (hb), (hS.2.2.2.2.2.2).trans (Below.mono (hb) (hS.2.2.2.2.2.2).size)⟩) hR
    refine List.forall_mem_cons.2 ⟨?_, ?_⟩
    · refine SlotStep.plain rfl rfl rfl ?_
      intro tm ws hsame hS hg K hK
      have e7 : tm[7]? = some (.int .i64 e0) := hsame.2 7 rfl
      go_simp
      exact hK _ _ (Below.refl _ _) hS rfl
    exact fun _ h => nomatch h
  case float =>
    intro tm w8 hsame hS hgot
    obtain ⟨u, hu, htm⟩ := hsame.form (by kernel_rfl)
    obtain ⟨v19, e19, g19⟩ := hgot 6 (by decide) _ 19 rfl rfl
    obtain ⟨v26, e26, g26⟩ := hgot 13 (by decide) _ 26 rfl rfl
    obtain ⟨p1, a1, n1, c1, N1, _, rfl, hN1, hZ1, -⟩ := g19
    obtain ⟨p3, a3, n3, c3, N3, _, rfl, hN3, hZ3, -⟩ := g26
    have h19 := hu _ _ e19
    have h26 := hu _ _ e26
    obtain ⟨-, -, hv3, hv4, -, -, hb8⟩ := hS
    have hne := HNE.out
    obtain ⟨r0, r1, f0, f1⟩ := slot2 hv3
    have hv4' : ((w8.setCell ⟨w2.heap.size, 0, none⟩ (.bool p1)).setCell ⟨w2.heap.size, 1, none⟩ (.slice a1 n1 c1)).heap[w3.heap.size]? = some (.cells #[.bool false, .slice none 0 0] 58 (0, 0)) := slot2_apart hv4 (Ne.symm hne)
    obtain ⟨s0, s1, f2, f3⟩ := slot2 hv4'
    have hon1 := slot_only (w := w8) (g := w2.heap.size) (.bool p1) (.slice a1 n1 c1)
    have hon2 := slot_only (w := ((w8.setCell ⟨w2.heap.size, 0, none⟩ (.bool p1)).setCell ⟨w2.heap.size, 1, none⟩ (.slice a1 n1 c1))) (g := w3.heap.size) (.bool p3) (.slice a3 n3 c3)
    have hend1 := slot2_apart (u := .bool p3) (v := .slice a3 n3 c3) (slot_set (u := .bool p1) (v := .slice a1 n1 c1) hv3) hne
    have hend2 := slot_set (u := .bool p3) (v := .slice a3 n3 c3) hv4'
    have hbz := hbw4.trans (hb8.mono hbw4.size)
    have HR : Hid (RetAl w (sg p A * 2 ^ i) (sg q B * 2 ^ j) e0 P (.returned (.tuple #[.agg #[.bool p1, .slice a1 n1 c1], .agg #[.bool p3, .slice a3 n3 c3], .int .i64 e0])) ((((w8.setCell ⟨w2.heap.size, 0, none⟩ (.bool p1)).setCell ⟨w2.heap.size, 1, none⟩ (.slice a1 n1 c1)).setCell ⟨w3.heap.size, 0, none⟩ (.bool p3)).setCell ⟨w3.heap.size, 1, none⟩ (.slice a3 n3 c3))) :=
      Lib.hid ⟨p1, a1, n1, c1, N1, p3, a3, n3, c3, N3, rfl, (hN1.num.var hv3 hon1).var hv4' hon2, hZ1, (hN3.num.var hv3 hon1).var hv4' hon2, hZ3, (hbz.trans (hon1.below HSZ.out.1 hbz.size)).trans (hon2.below (Nat.le_trans HSZ.out.1 HSZ.out.2) (Nat.le_trans hbz.size hon1.size))⟩
    clear hgot hu hsame e19 e26 hN1 hN3 hZ1 hZ3 hon1 hon2 hbz hv3 hv4
    rw [htm]
    clear htm tm
    simp only [List.foldl_cons, List.foldl_nil, List.setIfInBounds_toArray, List.set_cons_zero, List.set_cons_succ, h19, h26]
    clear h19 h26 hne
    refine wpAny_two (i := 14) (j := 15) (k := 3) (by kernel_rfl) ?_ ?_
    · refine wpOp_plain rfl rfl fun K hK => ?_
      go_simp
      refine hK _ _ ?_
      refine wpAny_of_seq (List.drop 15 _) 15 _ _ _ (fun j => by rw [List.getElem?_drop, Array.getElem?_toList]) (by kernel_rfl) ?_
      simp only [List.drop_succ_cons, List.drop_zero]
      go_wp2_with fail
      refine bodyPost_ret (results_cells2 rfl _ _ _ w2.heap.size w3.heap.size 58 58 _ _ (0, 0) (0, 0) _ rfl rfl hend1 hend2 Tryz.underlying58 (by kernel_rfl) (by kernel_rfl)) rfl ?_
      exact HR.out
    · refine wpOp_plain rfl rfl fun K hK => ?_
      go_simp
      refine hK _ _ ?_
      refine wpAny_two (i := 14) (j := 16) (k := 2) (by kernel_rfl) ?_ ?_
      · refine wpOp_plain rfl rfl fun K hK => ?_
        go_simp
        refine hK _ _ ?_
        refine wpAny_of_seq (List.drop 16 _) 16 _ _ _ (fun j => by rw [List.getElem?_drop, Array.getElem?_toList]) (by kernel_rfl) ?_
        simp only [List.drop_succ_cons, List.drop_zero]
        go_wp2_with fail
        refine bodyPost_ret (results_cells2 rfl _ _ _ w2.heap.size w3.heap.size 58 58 _ _ (0, 0) (0, 0) _ rfl rfl hend1 hend2 Tryz.underlying58 (by kernel_rfl) (by kernel_rfl)) rfl ?_
        exact HR.out
      · refine wpOp_plain rfl rfl fun K hK => ?_
        go_simp
        refine hK _ _ ?_
        refine wpAny_single (i := 14) (k := 1) (by kernel_rfl) ?_
        refine wpOp_plain rfl rfl fun K hK => ?_
        go_simp
        refine hK _ _ ?_
        refine wpAny_of_seq (List.drop 17 _) 17 _ _ _ (fun j => by rw [List.getElem?_drop, Array.getElem?_toList]) (by kernel_rfl) ?_
        simp only [List.drop_succ_cons, List.drop_zero]
        go_wp2_with fail
        refine bodyPost_ret (results_cells2 rfl _ _ _ w2.heap.size w3.heap.size 58 58 _ _ (0, 0) (0, 0) _ rfl rfl hend1 hend2 Tryz.underlying58 (by kernel_rfl) (by kernel_rfl)) rfl ?_
        exact HR.out
  case fin =>
    intro tm w8 hsame hS hgot
    obtain ⟨u, hu, htm⟩ := hsame.form (by kernel_rfl)
    obtain ⟨v19, e19, g19⟩ := hgot 6 (by decide) _ 19 rfl rfl
    obtain ⟨v26, e26, g26⟩ := hgot 13 (by decide) _ 26 rfl rfl
    obtain ⟨v27, e27, rfl⟩ := hgot 14 (by decide) _ 27 rfl rfl
    obtain ⟨p1, a1, n1, c1, N1, _, rfl, hN1, hZ1, -⟩ := g19
    obtain ⟨p3, a3, n3, c3, N3, _, rfl, hN3, hZ3, -⟩ := g26
    have h19 := hu _ _ e19
    have h26 := hu _ _ e26
    have h27 := hu _ _ e27
    obtain ⟨-, -, hv3, hv4, -, -, hb8⟩ := hS
    have hne := HNE.out
    obtain ⟨r0, r1, f0, f1⟩ := slot2 hv3
    have hv4' : ((w8.setCell ⟨w2.heap.size, 0, none⟩ (.bool p1)).setCell ⟨w2.heap.size, 1, none⟩ (.slice a1 n1 c1)).heap[w3.heap.size]? = some (.cells #[.bool false, .slice none 0 0] 58 (0, 0)) := slot2_apart hv4 (Ne.symm hne)
    obtain ⟨s0, s1, f2, f3⟩ := slot2 hv4'
    have hon1 := slot_only (w := w8) (g := w2.heap.size) (.bool p1) (.slice a1 n1 c1)
    have hon2 := slot_only (w := ((w8.setCell ⟨w2.heap.size, 0, none⟩ (.bool p1)).setCell ⟨w2.heap.size, 1, none⟩ (.slice a1 n1 c1))) (g := w3.heap.size) (.bool p3) (.slice a3 n3 c3)
    have hend1 := slot2_apart (u := .bool p3) (v := .slice a3 n3 c3) (slot_set (u := .bool p1) (v := .slice a1 n1 c1) hv3) hne
    have hend2 := slot_set (u := .bool p3) (v := .slice a3 n3 c3) hv4'
    have hbz := hbw4.trans (hb8.mono hbw4.size)
    have HR : Hid (RetAl w (sg p A * 2 ^ i) (sg q B * 2 ^ j) e0 P (.returned (.tuple #[.agg #[.bool p1, .slice a1 n1 c1], .agg #[.bool p3, .slice a3 n3 c3], .int .i64 e0])) ((((w8.setCell ⟨w2.heap.size, 0, none⟩ (.bool p1)).setCell ⟨w2.heap.size, 1, none⟩ (.slice a1 n1 c1)).setCell ⟨w3.heap.size, 0, none⟩ (.bool p3)).setCell ⟨w3.heap.size, 1, none⟩ (.slice a3 n3 c3))) :=
      Lib.hid ⟨p1, a1, n1, c1, N1, p3, a3, n3, c3, N3, rfl, (hN1.num.var hv3 hon1).var hv4' hon2, hZ1, (hN3.num.var hv3 hon1).var hv4' hon2, hZ3, (hbz.trans (hon1.below HSZ.out.1 hbz.size)).trans (hon2.below (Nat.le_trans HSZ.out.1 HSZ.out.2) (Nat.le_trans hbz.size hon1.size))⟩
    clear hgot hu hsame e19 e26 e27 hN1 hN3 hZ1 hZ3 hon1 hon2 hbz hv3 hv4
    rw [htm]
    clear htm tm
    simp only [List.foldl_cons, List.foldl_nil, List.setIfInBounds_toArray, List.set_cons_zero, List.set_cons_succ, h19, h26, h27, List.drop_succ_cons, List.drop_zero]
    clear h19 h26 h27 hne
    go_wp2_with fail
    refine bodyPost_ret (results_cells2 rfl _ _ _ w2.heap.size w3.heap.size 58 58 _ _ (0, 0) (0, 0) _ rfl rfl hend1 hend2 Tryz.underlying58 (by kernel_rfl) (by kernel_rfl)) rfl ?_
    exact HR.out
end Go.Proofs.YtfanhllcoaondaaGreatDoor

namespace Go.Proofs.YtfanhllcoaondaaGreatDoor
open Go.RowKit

theorem cmpI_scale {x y c : Int} (hc : 0 < c) : cmpI (x * c) (y * c) = cmpI x y := by
  rcases Int.lt_trichotomy x y with h | h | h
  · rw [cmpI_lt h, cmpI_lt (Int.mul_lt_mul_of_pos_right h hc)]
  · rw [cmpI_eq h, cmpI_eq (by rw [h])]
  · rw [cmpI_gt h, cmpI_gt (Int.mul_lt_mul_of_pos_right h hc)]
theorem cmpI_zero_scale {x c : Int} (hc : 0 < c) : cmpI (x * c) 0 = cmpI x 0 := by
  have := cmpI_scale (x := x) (y := 0) hc
  rwa [Int.zero_mul] at this
/-- Numbers of different size are told apart by how great they are. -/
theorem cmp_dtops {p q : Bool} {A B E G : Int} {K : Nat} {s : Int} (hA : 0 ≤ A) (hB : 0 ≤ B) (hEK : 0 ≤ E + K) (hGK : 0 ≤ G + K) (hs : cmpI (sg p A) 0 = s) (ht : cmpI (sg q B) 0 = s) (hne : cmpI (dtop A E) (dtop B G) ≠ 0) :
    cmpI (sg p A * 2 ^ (E + K).toNat) (sg q B * 2 ^ (G + K).toNat) = s * cmpI (dtop A E) (dtop B G) := by
  have h1 := sign_tri hs
  have h2 := sign_tri ht
  have hp1 := pow2_pos (E + K).toNat
  have hp2 := pow2_pos (G + K).toNat
  have key : ∀ {A B E G : Int}, 0 < A → 0 < B → 0 ≤ E + K → 0 ≤ G + K → dtop A E < dtop B G → A * 2 ^ (E + K).toNat < B * 2 ^ (G + K).toNat := by
    intro A B E G hA hB h1 h2 h
    unfold dtop at h
    rw [if_neg (by omega), if_neg (by omega)] at h
    refine nb_lt (Int.mul_pos hA (pow2_pos _)) (Int.mul_pos hB (pow2_pos _)) ?_
    rw [nb_shift _ hA, nb_shift _ hB]
    omega
  rcases h1 with ⟨h3, rfl⟩ | ⟨h3, rfl⟩ | ⟨h3, rfl⟩
  · have hpt : p = true ∧ 0 < A := by
      cases p
      · rw [sg_false] at h3; omega
      · rw [sg_true] at h3; exact ⟨rfl, by omega⟩
    have hqt : q = true ∧ 0 < B := by
      cases q
      · rw [sg_false] at h2; omega
      · rw [sg_true] at h2; exact ⟨rfl, by omega⟩
    obtain ⟨rfl, hA'⟩ := hpt
    obtain ⟨rfl, hB'⟩ := hqt
    rw [sg_true, sg_true, Int.neg_mul, Int.neg_mul]
    rcases Int.lt_trichotomy (dtop A E) (dtop B G) with h | h | h
    · have := key hA' hB' hEK hGK h
      rw [cmpI_lt h, cmpI_gt (by omega)]; rfl
    · rw [cmpI_eq h] at hne; exact absurd rfl hne
    · have := key hB' hA' hGK hEK h
      rw [cmpI_gt h, cmpI_lt (by omega)]; rfl
  · have hA' : A = 0 := by cases p <;> simp only [sg_true, sg_false] at h3 <;> omega
    have hB' : B = 0 := by
      rcases h2 with ⟨_, h4⟩ | ⟨h4, _⟩ | ⟨_, h4⟩
      · exact absurd h4 (by decide)
      · cases q <;> simp only [sg_true, sg_false] at h4 <;> omega
      · exact absurd h4 (by decide)
    subst hA' hB'
    exact absurd (cmpI_eq rfl) hne
  · have hpt : p = false ∧ 0 < A := by
      cases p
      · rw [sg_false] at h3; exact ⟨rfl, h3⟩
      · rw [sg_true] at h3; omega
    have hqt : q = false ∧ 0 < B := by
      rcases h2 with ⟨_, h4⟩ | ⟨_, h4⟩ | ⟨h4, _⟩
      · exact absurd h4 (by decide)
      · exact absurd h4 (by decide)
      · cases q
        · rw [sg_false] at h4; exact ⟨rfl, h4⟩
        · rw [sg_true] at h4; omega
    obtain ⟨rfl, hA'⟩ := hpt
    obtain ⟨rfl, hB'⟩ := hqt
    rw [sg_false, sg_false]
    rcases Int.lt_trichotomy (dtop A E) (dtop B G) with h | h | h
    · rw [cmpI_lt h, cmpI_lt (key hA' hB' hEK hGK h)]; rfl
    · rw [cmpI_eq h] at hne; exact absurd rfl hne
    · rw [cmpI_gt h, cmpI_gt (key hB' hA' hGK hEK h)]; rfl
theorem cmp_dsigns {x y s t c d : Int} (hc : 0 < c) (hd : 0 < d) (hs : cmpI x 0 = s) (ht : cmpI y 0 = t) (hne : s ≠ t) : cmpI (x * c) (y * d) = cmpI s t := by
  have h1 : cmpI (x * c) 0 = s := by rw [cmpI_zero_scale hc]; exact hs
  have h2 : cmpI (y * d) 0 = t := by rw [cmpI_zero_scale hd]; exact ht
  rcases Int.lt_trichotomy s t with h | h | h
  · rw [cmpI_lt h, zcmp_signs h1 h2 h]
  · exact absurd h hne
  · rw [cmpI_gt h, zcmp_signs' h1 h2 h]

set_option maxRecDepth 100000 in
set_option maxHeartbeats 2000000 in
theorem dcmp_num {w : World} (p q : Bool) {a a2 : Option Addr} {n c n2 c2 : Nat} {A B : Int} {m P : Nat} (E G : Int) (L : Nat) (hx : Num w (.slice a n c) A m) (hy : Num w (.slice a2 n2 c2) B m) (hm : m ≤ 1000) (hE0 : -1000000 ≤ E) (hE1 : E ≤ 1000000) (hG0 : -1000000 ≤ G) (hG1 : G ≤ 1000000) (hP : ∀ i : Nat, (i : Int) = E - min E G ∨ (i : Int) = G - min E G → m + i / 64 + 1 ≤ P) (hP2 : P ≤ 100000) (hEL : 0 ≤ E + L) (hGL : 0 ≤ G + L) :
    Calls Tryz.prog 40 #[.agg #[.bool p, .slice a n c, .int .i64 E], .agg #[.bool q, .slice a2 n2 c2, .int .i64 G]] w fun e w' => RetV w (.int .i64 (cmpI (sg p A * 2 ^ (E + L).toNat) (sg q B * 2 ^ (G + L).toNat))) e w' := by
  obtain ⟨w1, hw1⟩ : ∃ w1, w.alloc (.cells #[.bool p, .slice a n c, .int .i64 E] 60) = w1 := ⟨_, rfl⟩
  obtain ⟨w2, hw2⟩ : ∃ w2, w1.alloc (.cells #[.bool q, .slice a2 n2 c2, .int .i64 G] 60) = w2 := ⟨_, rfl⟩
  have hb1 : Below w.heap.size w w1 := hw1 ▸ below_alloc w _
  have hb12 : Below w1.heap.size w1 w2 := hw2 ▸ below_alloc w1 _
  have hbw2 := hb1.trans (hb12.mono hb1.size)
  have hc1 : w2.heap[w.heap.size]? = some (.cells #[.bool p, .slice a n c, .int .i64 E] 60 (0, 0)) := slot_kept (hw1 ▸ heap_alloc_new w _) hb12
  have hc2 : w2.heap[w1.heap.size]? = some (.cells #[.bool q, .slice a2 n2 c2, .int .i64 G] 60 (0, 0)) := hw2 ▸ heap_alloc_new w1 _
  replace hx := hx.below hbw2
  replace hy := hy.below hbw2
  have hx0 := hx.nonneg
  have hy0 := hy.nonneg
  obtain ⟨s, hs⟩ : ∃ s, cmpI (sg p A) 0 = s := ⟨_, rfl⟩
  obtain ⟨t, ht⟩ : ∃ t, cmpI (sg q B) 0 = t := ⟨_, rfl⟩
  obtain ⟨R, hR⟩ : ∃ R, cmpI (sg p A * 2 ^ (E + L).toNat) (sg q B * 2 ^ (G + L).toNat) = R := ⟨_, rfl⟩
  rw [hR]
  have HRS : Hid (s ≠ t → cmpI s t = R) := Lib.hid fun h => by rw [← hR]; exact (cmp_dsigns (pow2_pos _) (pow2_pos _) hs ht h).symm
  obtain ⟨o, ho⟩ : ∃ o, cmpI (dtop A E) (dtop B G) = o := ⟨_, rfl⟩
  have HRT : Hid (s = t → o ≠ 0 → s * o = R) := Lib.hid fun h h2 => by
    rw [← hR, ← ho]
    exact (cmp_dtops hx0 hy0 hEL hGL hs (by rw [h]; exact ht) (by rw [ho]; exact h2)).symm
  have HRA : Hid (cmpI (sg p A * 2 ^ (E - min E G).toNat) (sg q B * 2 ^ (G - min E G).toNat) = R) := Lib.hid (by
    rw [← hR]
    have e1 : (E + L).toNat = (E - min E G).toNat + (min E G + L).toNat := by omega
    have e2 : (G + L).toNat = (G - min E G).toNat + (min E G + L).toNat := by omega
    rw [e1, e2, Int.pow_add, Int.pow_add, ← Int.mul_assoc, ← Int.mul_assoc]
    exact (cmpI_scale (pow2_pos _)).symm)
  have hos : (o = -1 ∨ o = 0 ∨ o = 1) := by
    have := sign_tri (Z := dtop A E - dtop B G) (s := o) (by rw [cmp_sub]; exact ho)
    omega
  have hss : (s = -1 ∨ s = 0 ∨ s = 1) := by
    have := sign_tri hs
    omega
  have HS := Lib.hid hs
  have HT := Lib.hid ht
  have HO := Lib.hid ho
  have HP := Lib.hid hP
  clear hb1 hb12 hs ht ho hR hP
  go_enter Tryz.func40, Tryz.ntmps40
  go_upto_region 1 with fail
  refine wp_region_slots (by kernel_rfl) [11, 12, 13, 14, 5, 6] (fun w' => (w'.heap[w.heap.size]? = some (.cells #[.bool p, .slice a n c, .int .i64 E] 60 (0, 0))) ∧ (w'.heap[w1.heap.size]? = some (.cells #[.bool q, .slice a2 n2 c2, .int .i64 G] 60 (0, 0))) ∧ (Num w' (.slice a n c) A m) ∧ (Num w' (.slice a2 n2 c2) B m) ∧ (Below w2.heap.size w2 w')) (Said [Is (.agg #[.bool p, .slice a n c, .int .i64 E]), Is (.int .i64 s), Is (.agg #[.bool q, .slice a2 n2 c2, .int .i64 G]), Is (.int .i64 t), Is (.int .i64 s), Is (.int .i64 t)]) (by kernel_rfl) (by kernel_rfl) (by kernel_rfl) (by kernel_rfl) (Said.keep ?keep) ⟨slot_kept hc1 (bdn (Below.refl _ _) 1), slot_kept hc2 (bdn (Below.refl _ _) 1), hx.below (bdn (Below.refl _ _) 1), hy.below (bdn (Below.refl _ _) 1), bdn (Below.refl _ _) 1⟩ (l := [0, 1, 2, 3, 4, 5]) (by kernel_rfl) ?step ?fin
  case keep =>
    refine List.forall_mem_cons.2 ⟨Is.keeps _, ?_⟩
    refine List.forall_mem_cons.2 ⟨Is.keeps _, ?_⟩
    refine List.forall_mem_cons.2 ⟨Is.keeps _, ?_⟩
    refine List.forall_mem_cons.2 ⟨Is.keeps _, ?_⟩
    refine List.forall_mem_cons.2 ⟨Is.keeps _, ?_⟩
    refine List.forall_mem_cons.2 ⟨Is.keeps _, ?_⟩
    exact fun _ h => nomatch h
  case step =>
    refine List.forall_mem_cons.2 ⟨?_, ?_⟩
    · refine SlotStep.plain rfl rfl rfl ?_
      intro tm ws hsame hS hg K hK
      have e2 : tm[2]? = some (.pointer (some ⟨w.heap.size, 0, none⟩)) := hsame.2 2 rfl
      obtain ⟨⟨k0, k1, k2⟩, -⟩ := slot3 (hS.1)
      go_simp
      exact hK _ _ (Below.refl _ _) hS rfl
    refine List.forall_mem_cons.2 ⟨?_, ?_⟩
    · refine SlotStep.plain rfl rfl rfl ?_
      intro tm ws hsame hS hg K hK
      obtain ⟨v11, e11, rfl⟩ := hg 0 (by kernel_rfl) _ 11 rfl rfl
      go_simp
      have hcl := dsign_num p E hS.2.2.1 hm
      rw [HS.out] at hcl
      refine hcl.mono ?_
      rintro e wm ⟨rfl, hb⟩
      exact hK _ _ hb (⟨slot_kept (hS.1) (hb), slot_kept (hS.2.1) (hb), (hS.2.2.1).below (hb), (hS.2.2.2.1).below (hb), (hS.2.2.2.2).trans (Below.mono (hb) (hS.2.2.2.2).size)⟩) rfl
    refine List.forall_mem_cons.2 ⟨?_, ?_⟩
    · refine SlotStep.plain rfl rfl rfl ?_
      intro tm ws hsame hS hg K hK
      have e3 : tm[3]? = some (.pointer (some ⟨w1.heap.size, 0, none⟩)) := hsame.2 3 rfl
      obtain ⟨⟨k0, k1, k2⟩, -⟩ := slot3 (hS.2.1)
      go_simp
      exact hK _ _ (Below.refl _ _) hS rfl
    refine List.forall_mem_cons.2 ⟨?_, ?_⟩
    · refine SlotStep.plain rfl rfl rfl ?_
      intro tm ws hsame hS hg K hK
      obtain ⟨v13, e13, rfl⟩ := hg 2 (by kernel_rfl) _ 13 rfl rfl
      go_simp
      have hcl := dsign_num q G hS.2.2.2.1 hm
      rw [HT.out] at hcl
      refine hcl.mono ?_
      rintro e wm ⟨rfl, hb⟩
      exact hK _ _ hb (⟨slot_kept (hS.1) (hb), slot_kept (hS.2.1) (hb), (hS.2.2.1).below (hb), (hS.2.2.2.1).below (hb), (hS.2.2.2.2).trans (Below.mono (hb) (hS.2.2.2.2).size)⟩) rfl
    refine List.forall_mem_cons.2 ⟨?_, ?_⟩
    · refine SlotStep.plain rfl rfl rfl ?_
      intro tm ws hsame hS hg K hK
      obtain ⟨v12, e12, rfl⟩ := hg 1 (by kernel_rfl) _ 12 rfl rfl
      go_simp
      exact hK _ _ (Below.refl _ _) hS rfl
    refine List.forall_mem_cons.2 ⟨?_, ?_⟩
    · refine SlotStep.plain rfl rfl rfl ?_
      intro tm ws hsame hS hg K hK
      obtain ⟨v14, e14, rfl⟩ := hg 3 (by kernel_rfl) _ 14 rfl rfl
      go_simp
      exact hK _ _ (Below.refl _ _) hS rfl
    exact fun _ h => nomatch h
  case fin =>
    intro tm w3 hsame hS hgot
    obtain ⟨u, hu, htm⟩ := hsame.form (by kernel_rfl)
    obtain ⟨v5, e5, rfl⟩ := hgot 4 _ 5 rfl rfl
    obtain ⟨v6, e6, rfl⟩ := hgot 5 _ 6 rfl rfl
    have h5 := hu _ _ e5
    have h6 := hu _ _ e6
    obtain ⟨hc1, hc2, hx, hy, hb3⟩ := hS
    have hbw3 := hbw2.trans (hb3.mono hbw2.size)
    clear hgot hu hsame e5 e6 hb3 hbw2
    rw [htm]
    clear htm tm
    simp only [List.foldl_cons, List.foldl_nil, List.setIfInBounds_toArray, List.set_cons_zero, List.set_cons_succ, h5, h6]
    clear h5 h6
    by_cases hst : s = t
    · have hstb : (s != t) = false := by simp [hst]
      have HST := Lib.hid hst
      clear hst
      go_upto_region 4 with fail
      refine wp_region_slots (by kernel_rfl) [21, 22, 23, 24, 25, 7] (fun w' => (w'.heap[w.heap.size]? = some (.cells #[.bool p, .slice a n c, .int .i64 E] 60 (0, 0))) ∧ (w'.heap[w1.heap.size]? = some (.cells #[.bool q, .slice a2 n2 c2, .int .i64 G] 60 (0, 0))) ∧ (Num w' (.slice a n c) A m) ∧ (Num w' (.slice a2 n2 c2) B m) ∧ (Below w3.heap.size w3 w')) (Said [Is (.agg #[.bool p, .slice a n c, .int .i64 E]), Is (.int .i64 (dtop A E)), Is (.agg #[.bool q, .slice a2 n2 c2, .int .i64 G]), Is (.int .i64 (dtop B G)), Is (.int .i64 o), Is (.int .i64 o)]) (by kernel_rfl) (by kernel_rfl) (by kernel_rfl) (by kernel_rfl) (Said.keep ?keep) ⟨slot_kept hc1 (bdn (Below.refl _ _) 1), slot_kept hc2 (bdn (Below.refl _ _) 1), hx.below (bdn (Below.refl _ _) 1), hy.below (bdn (Below.refl _ _) 1), bdn (Below.refl _ _) 1⟩ (l := [0, 1, 2, 3, 4, 5]) (by kernel_rfl) ?step ?fin
      case keep =>
        refine List.forall_mem_cons.2 ⟨Is.keeps _, ?_⟩
        refine List.forall_mem_cons.2 ⟨Is.keeps _, ?_⟩
        refine List.forall_mem_cons.2 ⟨Is.keeps _, ?_⟩
        refine List.forall_mem_cons.2 ⟨Is.keeps _, ?_⟩
        refine List.forall_mem_cons.2 ⟨Is.keeps _, ?_⟩
        refine List.forall_mem_cons.2 ⟨Is.keeps _, ?_⟩
        exact fun _ h => nomatch h
      case step =>
        refine List.forall_mem_cons.2 ⟨?_, ?_⟩
        · refine SlotStep.plain rfl rfl rfl ?_
          intro tm ws hsame hS hg K hK
          have e2 : tm[2]? = some (.pointer (some ⟨w.heap.size, 0, none⟩)) := hsame.2 2 rfl
          obtain ⟨⟨k0, k1, k2⟩, -⟩ := slot3 (hS.1)
          go_simp
          exact hK _ _ (Below.refl _ _) hS rfl
        refine List.forall_mem_cons.2 ⟨?_, ?_⟩
        · refine SlotStep.plain rfl rfl rfl ?_
          intro tm ws hsame hS hg K hK
          obtain ⟨v21, e21, rfl⟩ := hg 0 (by kernel_rfl) _ 21 rfl rfl
          go_simp
          refine (dtop_num p E hS.2.2.1 hm hE0 hE1).mono ?_
          rintro e wm ⟨rfl, hb⟩
          exact hK _ _ hb (⟨slot_kept (hS.1) (hb), slot_kept (hS.2.1) (hb), (hS.2.2.1).below (hb), (hS.2.2.2.1).below (hb), (hS.2.2.2.2).trans (Below.mono (hb) (hS.2.2.2.2).size)⟩) rfl
        refine List.forall_mem_cons.2 ⟨?_, ?_⟩
        · refine SlotStep.plain rfl rfl rfl ?_
          intro tm ws hsame hS hg K hK
          have e3 : tm[3]? = some (.pointer (some ⟨w1.heap.size, 0, none⟩)) := hsame.2 3 rfl
          obtain ⟨⟨k0, k1, k2⟩, -⟩ := slot3 (hS.2.1)
          go_simp
          exact hK _ _ (Below.refl _ _) hS rfl
        refine List.forall_mem_cons.2 ⟨?_, ?_⟩
        · refine SlotStep.plain rfl rfl rfl ?_
          intro tm ws hsame hS hg K hK
          obtain ⟨v23, e23, rfl⟩ := hg 2 (by kernel_rfl) _ 23 rfl rfl
          go_simp
          refine (dtop_num q G hS.2.2.2.1 hm hG0 hG1).mono ?_
          rintro e wm ⟨rfl, hb⟩
          exact hK _ _ hb (⟨slot_kept (hS.1) (hb), slot_kept (hS.2.1) (hb), (hS.2.2.1).below (hb), (hS.2.2.2.1).below (hb), (hS.2.2.2.2).trans (Below.mono (hb) (hS.2.2.2.2).size)⟩) rfl
        refine List.forall_mem_cons.2 ⟨?_, ?_⟩
        · refine SlotStep.plain rfl rfl rfl ?_
          intro tm ws hsame hS hg K hK
          obtain ⟨v22, e22, rfl⟩ := hg 1 (by kernel_rfl) _ 22 rfl rfl
          obtain ⟨v24, e24, rfl⟩ := hg 3 (by kernel_rfl) _ 24 rfl rfl
          go_simp
          have hcl := compare_int (dtop A E) (dtop B G) ws
          rw [HO.out] at hcl
          refine hcl.mono ?_
          rintro e wm ⟨rfl, rfl⟩
          exact hK _ _ (Below.refl _ _) hS rfl
        refine List.forall_mem_cons.2 ⟨?_, ?_⟩
        · refine SlotStep.plain rfl rfl rfl ?_
          intro tm ws hsame hS hg K hK
          obtain ⟨v25, e25, rfl⟩ := hg 4 (by kernel_rfl) _ 25 rfl rfl
          go_simp
          exact hK _ _ (Below.refl _ _) hS rfl
        exact fun _ h => nomatch h
      case fin =>
        intro tm w4 hsame hS hgot
        obtain ⟨u, hu, htm⟩ := hsame.form (by kernel_rfl)
        obtain ⟨v7, e7, rfl⟩ := hgot 5 _ 7 rfl rfl
        have h7 := hu _ _ e7
        obtain ⟨hc1, hc2, hx, hy, hb4⟩ := hS
        have hbw4 := hbw3.trans (hb4.mono hbw3.size)
        clear hgot hu hsame e7 hb4 hbw3
        rw [htm]
        clear htm tm
        simp only [List.foldl_cons, List.foldl_nil, List.setIfInBounds_toArray, List.set_cons_zero, List.set_cons_succ, h7]
        clear h7
        by_cases ho0 : o = 0
        · subst ho0
          have HAL := Lib.hid (align_num (P := P) p q E G hx hy hm hE0 hE1 hG0 hG1 HP.out)
          obtain ⟨⟨k0, k1, k2⟩, -⟩ := slot3 hc1
          obtain ⟨⟨l0, l1, l2⟩, -⟩ := slot3 hc2
          go_wp2_with fail
          refine HAL.out.mono ?_
          rintro e w5 ⟨pR, aR, nR, cR, NR, qR, bR, kR, dR, MR, rfl, hN, hX, hM, hY, hb5⟩
          have HCW := fun w' (hb : Below w5.heap.size w5 w') => Lib.hid (cmpw_num pR qR (hN.below hb) (hM.below hb) (by omega) (by omega))
          have HRR : Hid (cmpI (sg pR NR) (sg qR MR) = R) := Lib.hid (by rw [← hX, ← hY]; exact HRA.out)
          have hbw5 := hbw4.trans (hb5.mono hbw4.size)
          clear hX hY hN hM k0 k1 k2 l0 l1 l2
          go_upto_region 8 with fail
          obtain ⟨w6, hw6⟩ : ∃ w6, w5.alloc (.cells #[.bool pR, .slice aR nR cR] 58) = w6 := ⟨_, rfl⟩
          obtain ⟨w7, hw7⟩ : ∃ w7, w6.alloc (.cells #[.bool qR, .slice bR kR dR] 58) = w7 := ⟨_, rfl⟩
          have hb6 : Below w5.heap.size w5 w6 := hw6 ▸ below_alloc w5 _
          have hb7 : Below w6.heap.size w6 w7 := hw7 ▸ below_alloc w6 _
          have hb57 := hb6.trans (hb7.mono hb6.size)
          have hs6 : w6.heap.size = w5.heap.size + 1 := by rw [← hw6]; simp
          have hx1 : w7.heap[w5.heap.size]? = some (.cells #[.bool pR, .slice aR nR cR] 58 (0, 0)) := slot_kept (hw6 ▸ heap_alloc_new w5 _) hb7
          have hy1 : w7.heap[w5.heap.size + 1]? = some (.cells #[.bool qR, .slice bR kR dR] 58 (0, 0)) := by rw [← hs6]; exact hw7 ▸ heap_alloc_new w6 _
          obtain ⟨k0, k1, -, -⟩ := slot2 hx1
          obtain ⟨l0, l1, -, -⟩ := slot2 hy1
          have hcw := (HCW w7 hb57).out
          rw [HRR.out] at hcw
          have HC7 := Lib.hid hcw
          rw [hw6, hw7]
          clear hcw HCW hs6 hx1 hy1 hb6 hb7
          go_wp2_with fail
          refine HC7.out.mono ?_
          rintro e w8 ⟨rfl, hb8⟩
          go_wp2_with fail
          go_ret
          have hbw7 := hbw5.trans (hb57.mono hbw5.size)
          exact ⟨rfl, hbw7.trans (hb8.mono hbw7.size)⟩
        · have hob : (o != 0) = true := by simp [ho0]
          have hR := HRT.out HST.out ho0
          have hso : s * o = R := hR
          have hRb : -1 ≤ R ∧ R ≤ 1 := by
            rw [← hso]
            rcases hss with h | h | h <;> rcases hos with h2 | h2 | h2 <;> subst h <;> subst h2 <;> decide
          clear hR ho0 hss hos
          go_wp2_with fail
          go_ret
          exact ⟨rfl, hbw4⟩
    · have hstb : (s != t) = true := by simp [hst]
      have hR := HRS.out hst
      have hcm := compare_int s t w3
      rw [hR] at hcm
      have HCM := Lib.hid hcm
      clear hR hcm
      go_wp2_with fail
      refine HCM.out.mono ?_
      rintro e w' ⟨rfl, rfl⟩
      go_wp2_with fail
      go_ret
      exact ⟨rfl, hbw3⟩

set_option maxRecDepth 100000 in
set_option maxHeartbeats 1200000 in
theorem dof_num (v : Int) (w : World) (h0 : 0 ≤ v) (h1 : v ≤ 1000000) (hT : Tab64 w) :
    Calls Tryz.prog 83 #[.int .i64 v] w fun e w' => RetDy w false v 0 1 e w' := by
  obtain ⟨w1, hw1⟩ : ∃ w1, w.alloc (.cells #[.bool false, .slice none 0 0, .int .i64 0] 60) = w1 := ⟨_, rfl⟩
  have hb1 : Below w.heap.size w w1 := hw1 ▸ below_alloc w _
  have hc1 : w1.heap[w.heap.size]? = some (.cells #[.bool false, .slice none 0 0, .int .i64 0] 60 (0, 0)) := hw1 ▸ heap_alloc_new w _
  have hs1 : w.heap.size < w1.heap.size := (Array.getElem?_eq_some_iff.1 hc1).1
  replace hT := hT.below hb1
  go_enter Tryz.func83, Tryz.ntmps83
  go_wp2_with fail
  refine (wof_num v w1 (by omega) (by omega)).mono ?_
  rintro e w2 ⟨neg', a2, n2, c2, N2, rfl, h2, hz2, hn2, hb2⟩
  have hD := Lib.hid (dmake_num neg' 0 h2.num (by decide) (hT.below hb2) (by decide) (by decide))
  have h20 := h2.num.nonneg
  have HZ := Lib.hid hz2
  clear hz2 h2
  go_wp2_with fail
  refine hD.out.mono ?_
  intro e w3 hr
  have hr' := hr.of_sg (p := false) (N := v) h0 h20 (by rw [sg_false]; exact HZ.out)
  obtain ⟨pR, aR, nR, cR, NR, ER, t, rfl, hN, hv, hb3⟩ := hr'
  have hblk := slot_kept (slot_kept hc1 hb2) hb3
  obtain ⟨⟨k0, k1, k2⟩, f0, f1, f2⟩ := slot3 hblk
  have hend := slot3_set (u := .bool pR) (v := .slice aR nR cR) (s := .int .i64 ER) hblk
  have hon := slot3_only (w := w3) (g := w.heap.size) (.bool pR) (.slice aR nR cR) (.int .i64 ER)
  have hbw2 := hb1.trans (hb2.mono hb1.size)
  have hbw := hbw2.trans (hb3.mono hbw2.size)
  have hs2 := hb2.size
  have HR : Hid (RetDy w false v 0 1 (.returned (.agg #[.bool pR, .slice aR nR cR, .int .i64 ER])) (((w3.setCell ⟨w.heap.size, 0, none⟩ (.bool pR)).setCell ⟨w.heap.size, 1, none⟩ (.slice aR nR cR)).setCell ⟨w.heap.size, 2, none⟩ (.int .i64 ER))) :=
    Lib.hid (RetDy.mk (t := t) ((hN.only hon (by omega)).base (by omega)) hv (hbw.trans (hon.below (Nat.le_refl _) hbw.size)))
  clear hr hN hv hon
  go_wp2_with fail
  exact bodyPost_ret (results_cell_row rfl _ _ w.heap.size 60 _ (0, 0) _ rfl hend Tryz.underlying60 rfl (by kernel_rfl)) rfl HR.out
end Go.Proofs.YtfanhllcoaondaaGreatDoor
