/-
  Div64: Contract of math/bits.Div64: the quotient and the rest of two words by one, the high word less than the divisor.
  DivLimb: Contract of nat.divideByLimb: a number in a row is divided by a word, in place; the rest is returned.
  Chunks: Contract of nat.writeChunks: the decimal digits of a number are written into a row of bytes, nineteen at a time, from the end.
  Shift: Contracts of nat.shiftUp and nat.shiftDown, and the arithmetic of words that are shifted. Contract of nat.shiftDown. Contracts of nat.Shl and nat.Shr.
  LowBits: Contract of nat.lowBits: the rest of a number divided by a power of two.
  RefShift: Contracts of the reference's Shl and Shr.
  SqrtLimb: Contract of nat.sqrtLimb: the root of a number of one word, and what is left.
-/
import Derived.Test.YthfcncapgfkkjaaGreatDoorPk6
import Derived.Test.YthfcncapgfkkjaaGreatDoorPk1
import Derived.Test.YthfcncapgfkkjaaGreatDoorPk7
import Derived.Test.YthfcncapgfkkjaaGreatDoorPk3
import Derived.Deep.QuietTactic
import Derived.Test.YthfcncapgfkkjaaGreatDoorPk8

namespace Go.Proofs.YthfcncapgfkkjaaGreatDoor
open Go.RowKit

set_option maxRecDepth 100000 in
set_option maxHeartbeats 1000000 in
theorem div64_small (lo y : Int) (w : World) (h0 : 0 ≤ lo) (h1 : lo ≤ 18446744073709551615) (h2 : 0 < y) (h3 : y ≤ 18446744073709551615) :
    Calls Tryz.prog 73 #[.int .u64 0, .int .u64 lo, .int .u64 y] w fun e w' => RetV w (.tuple #[.int .u64 (lo / y), .int .u64 (lo % y)]) e w' := by
  have hy0 : (y == 0) = false := by simp; omega
  have hyn : ¬ y = 0 := by omega
  go_enter Tryz.func73, Tryz.ntmps73
  go_wp2_with fail
  go_quiet (fail)
  go_wp2_with fail
  go_ret2
  exact ⟨rfl, bdn (Below.refl _ _) _⟩

set_option maxRecDepth 100000 in
set_option maxHeartbeats 4000000 in
theorem div64_core (hi lo y Y v1 v0 u L u1 u0 q0 r0 Q1 u2 q2 r2 Q0 R : Int) (s : Nat) (w : World) (_h0 : 0 ≤ lo) (_h1 : lo ≤ 18446744073709551615) (h2 : 0 < y) (h3 : y ≤ 18446744073709551615) (h4 : 0 < hi) (h5 : hi < y) (hs2 : s ≤ 63)
    (hlz : ∀ w, Calls Tryz.prog 32 #[.int .u64 y] w fun e w' => e = .returned (.int .i64 s) ∧ w' = w)
    (hY : IntKind.u64.wrap (y * 2 ^ s) = Y) (hY0 : 9223372036854775808 ≤ Y) (hY1 : Y ≤ 18446744073709551615) (hv : Y / 4294967296 = v1) (hvp : 2147483648 ≤ v1) (hvp2 : v1 < 4294967296)
    (hv0 : bits .and .u64 Y 4294967295 = v0) (hv00 : 0 ≤ v0) (hv01 : v0 < 4294967296) (hYe : Hid (Y = v1 * 4294967296 + v0))
    (hu : bits .or .u64 (IntKind.u64.wrap (hi * 2 ^ s)) (lo / 2 ^ (64 - s)) = u) (hu0 : 0 ≤ u) (huY : u < Y)
    (hL : IntKind.u64.wrap (lo * 2 ^ s) = L) (_hL0 : 0 ≤ L) (_hL1 : L ≤ 18446744073709551615) (hl1 : L / 4294967296 = u1) (hl2 : 0 ≤ u1) (hl3 : u1 < 4294967296)
    (hl4 : bits .and .u64 L 4294967295 = u0) (hl5 : 0 ≤ u0) (hl6 : u0 < 4294967296)
    (hq0 : u / v1 = q0) (_hq1 : 0 ≤ q0) (hq2 : q0 ≤ 4294967297) (hm0 : 0 ≤ q0 * v1) (hm1 : q0 * v1 ≤ u) (hr0 : u - q0 * v1 = r0) (hr1 : 0 ≤ r0) (hr2 : r0 < v1)
    (hQ : Hid ((u * 4294967296 + u1) / Y = Q1)) (hQ0 : 0 ≤ Q1) (hQ1 : Q1 < 4294967296) (hQq : Q1 ≤ q0)
    (hU : IntKind.u64.wrap (IntKind.u64.wrap (IntKind.u64.wrap (u * 4294967296) + u1) - IntKind.u64.wrap (Q1 * Y)) = u2) (hU0 : 0 ≤ u2) (hUY : u2 < Y)
    (hq02 : u2 / v1 = q2) (_hq12 : 0 ≤ q2) (hq22 : q2 ≤ 4294967297) (hm02 : 0 ≤ q2 * v1) (hm12 : q2 * v1 ≤ u2) (hr02 : u2 - q2 * v1 = r2) (hr12 : 0 ≤ r2) (hr22 : r2 < v1)
    (hQ2 : Hid ((u2 * 4294967296 + u0) / Y = Q0)) (hQ02 : 0 ≤ Q0) (hQ12 : Q0 < 4294967296) (hQq2 : Q0 ≤ q2)
    (hR : IntKind.u64.wrap (IntKind.u64.wrap (IntKind.u64.wrap (u2 * 4294967296) + u0) - IntKind.u64.wrap (Q0 * Y)) = R) (_hR0 : 0 ≤ R) (_hR1 : R ≤ 18446744073709551615) :
    Calls Tryz.prog 73 #[.int .u64 hi, .int .u64 lo, .int .u64 y] w fun e w' => e = .returned (.tuple #[.int .u64 (Q1 * 4294967296 + Q0), .int .u64 (R / 2 ^ s)]) ∧ w = w' := by
  have hy0 : (y == 0) = false := by simp; omega
  have hyn : ¬ y = 0 := by omega
  have hyn2 : ¬ v1 = 0 := by omega
  have hh0 : (hi == 0) = false := by simp; omega
  have HL := Lib.hid hlz
  have hrv : Hid (q0 * v1 + r0 = u) := by show _ = _; omega
  have hrv2 : Hid (q2 * v1 + r2 = u2) := by show _ = _; omega
  have hYp : 0 < Y := by omega
  clear hlz
  go_enter Tryz.func73, Tryz.ntmps73
  go_wp2_with (go_at_call 32; refine (HL.out _).mono ?_; rintro e w' ⟨rfl, rfl⟩)
  have HD := Lib.hid hq0
  clear hr0 hm0 hm1 hq0
  go_loop [15, 16] (fun qq rr => ∃ q r : Int, qq = .int .u64 q ∧ rr = .int .u64 r ∧ Q1 ≤ q ∧ q ≤ 4294967297 ∧ 0 ≤ r ∧ r < 4294967296 ∧ Hid (q * v1 + r = u)) (fun qq _ => (intOf qq).toNat)
  case atStart => exact ⟨q0, r0, by first | rfl | rw [HD.out], rfl, hQq, hq2, hr1, by omega, hrv⟩
  case round =>
    obtain ⟨q, r, rfl, rfl, hqa, hqb, hra, hrb, HI⟩ := hrel
    by_cases htest : 4294967296 ≤ q ∨ 4294967296 * r + u1 < q * v0
    · have hgt := kn_gt hYe.out hYp huY hl3 hQ.out HI.out htest
      by_cases hbr : 4294967296 ≤ r + v1
      · have hqe := kn_break hYe.out hYp hv00 hv01 hl2 hQ.out HI.out hgt hqb hbr
        subst hqe
        clear HI hqa hqb hgt HD hq2 hr1 hr2 hQq hrv
        by_cases hbig : 4294967296 ≤ Q1 + 1
        · go_wp2
          have HD2 := Lib.hid hq02
          clear hr02 hm02 hm12 hq02
          go_loop [18, 16] (fun qq rr => ∃ q r : Int, qq = .int .u64 q ∧ rr = .int .u64 r ∧ Q0 ≤ q ∧ q ≤ 4294967297 ∧ 0 ≤ r ∧ r < 4294967296 ∧ Hid (q * v1 + r = u2)) (fun qq _ => (intOf qq).toNat)
          case atStart => exact ⟨q2, r2, by first | rfl | rw [HD2.out], rfl, hQq2, hq22, hr12, by omega, hrv2⟩
          case round =>
            obtain ⟨q, r, rfl, rfl, hqa, hqb, hra, hrb, HI⟩ := hrel
            by_cases htest : 4294967296 ≤ q ∨ 4294967296 * r + u0 < q * v0
            · have hgt := kn_gt hYe.out hYp hUY hl6 hQ2.out HI.out htest
              by_cases hbr : 4294967296 ≤ r + v1
              · have hqe := kn_break hYe.out hYp hv00 hv01 hl5 hQ2.out HI.out hgt hqb hbr
                subst hqe
                clear HI hqa hqb hgt HD2 hq22 hr12 hr22 hQq2 hrv2
                by_cases hbig : 4294967296 ≤ Q0 + 1
                · go_wp2
                  go_ret2
                  exact ⟨rfl, rfl⟩
                · have htest2 : 4294967296 * r + u0 < (Q0 + 1) * v0 := by omega
                  have hp := kn_prod (by omega) (by omega : Q0 + 1 < 4294967296) hv00 hv01
                  obtain ⟨hp1, hp2⟩ := hp
                  clear htest
                  go_wp2
                  go_ret2
                  exact ⟨rfl, rfl⟩
              · have hst := kn_step HI.out
                have HST := Lib.hid hst
                clear hst
                by_cases hbig : 4294967296 ≤ q
                · clear htest
                  go_wp2
                  go_round
                  case rel => exact ⟨q - 1, r + v1, rfl, rfl, by omega, by omega, by omega, by omega, HST⟩
                  case measure => simp [intOf]; omega
                · have htest2 : 4294967296 * r + u0 < q * v0 := by omega
                  obtain ⟨hp1, hp2⟩ := kn_prod (by omega) (by omega : q < 4294967296) hv00 hv01
                  clear htest
                  go_wp2
                  go_round
                  case rel => exact ⟨q - 1, r + v1, rfl, rfl, by omega, by omega, by omega, by omega, HST⟩
                  case measure => simp [intOf]; omega
            · have hbig : q < 4294967296 := by omega
              have htest2 : q * v0 ≤ 4294967296 * r + u0 := by omega
              have hqe := kn_done hYe.out hYp hQ2.out HI.out hqa htest2
              subst hqe
              obtain ⟨hp1, hp2⟩ := kn_prod hQ02 hQ12 hv00 hv01
              clear HI hqa hqb HD2 hq22 hr12 hr22 hQq2 hrv2 htest
              go_wp2
              go_ret2
              exact ⟨rfl, rfl⟩
        · have htest2 : 4294967296 * r + u1 < (Q1 + 1) * v0 := by omega
          have hp := kn_prod (by omega) (by omega : Q1 + 1 < 4294967296) hv00 hv01
          obtain ⟨hp1, hp2⟩ := hp
          clear htest
          go_wp2
          have HD2 := Lib.hid hq02
          clear hr02 hm02 hm12 hq02
          go_loop [18, 16] (fun qq rr => ∃ q r : Int, qq = .int .u64 q ∧ rr = .int .u64 r ∧ Q0 ≤ q ∧ q ≤ 4294967297 ∧ 0 ≤ r ∧ r < 4294967296 ∧ Hid (q * v1 + r = u2)) (fun qq _ => (intOf qq).toNat)
          case atStart => exact ⟨q2, r2, by first | rfl | rw [HD2.out], rfl, hQq2, hq22, hr12, by omega, hrv2⟩
          case round =>
            obtain ⟨q, r, rfl, rfl, hqa, hqb, hra, hrb, HI⟩ := hrel
            by_cases htest : 4294967296 ≤ q ∨ 4294967296 * r + u0 < q * v0
            · have hgt := kn_gt hYe.out hYp hUY hl6 hQ2.out HI.out htest
              by_cases hbr : 4294967296 ≤ r + v1
              · have hqe := kn_break hYe.out hYp hv00 hv01 hl5 hQ2.out HI.out hgt hqb hbr
                subst hqe
                clear HI hqa hqb hgt HD2 hq22 hr12 hr22 hQq2 hrv2
                by_cases hbig : 4294967296 ≤ Q0 + 1
                · go_wp2
                  go_ret2
                  exact ⟨rfl, rfl⟩
                · have htest2 : 4294967296 * r + u0 < (Q0 + 1) * v0 := by omega
                  have hp := kn_prod (by omega) (by omega : Q0 + 1 < 4294967296) hv00 hv01
                  obtain ⟨hp1, hp2⟩ := hp
                  clear htest
                  go_wp2
                  go_ret2
                  exact ⟨rfl, rfl⟩
              · have hst := kn_step HI.out
                have HST := Lib.hid hst
                clear hst
                by_cases hbig : 4294967296 ≤ q
                · clear htest
                  go_wp2
                  go_round
                  case rel => exact ⟨q - 1, r + v1, rfl, rfl, by omega, by omega, by omega, by omega, HST⟩
                  case measure => simp [intOf]; omega
                · have htest2 : 4294967296 * r + u0 < q * v0 := by omega
                  obtain ⟨hp1, hp2⟩ := kn_prod (by omega) (by omega : q < 4294967296) hv00 hv01
                  clear htest
                  go_wp2
                  go_round
                  case rel => exact ⟨q - 1, r + v1, rfl, rfl, by omega, by omega, by omega, by omega, HST⟩
                  case measure => simp [intOf]; omega
            · have hbig : q < 4294967296 := by omega
              have htest2 : q * v0 ≤ 4294967296 * r + u0 := by omega
              have hqe := kn_done hYe.out hYp hQ2.out HI.out hqa htest2
              subst hqe
              obtain ⟨hp1, hp2⟩ := kn_prod hQ02 hQ12 hv00 hv01
              clear HI hqa hqb HD2 hq22 hr12 hr22 hQq2 hrv2 htest
              go_wp2
              go_ret2
              exact ⟨rfl, rfl⟩
      · have hst := kn_step HI.out
        have HST := Lib.hid hst
        clear hst
        by_cases hbig : 4294967296 ≤ q
        · clear htest
          go_wp2
          go_round
          case rel => exact ⟨q - 1, r + v1, rfl, rfl, by omega, by omega, by omega, by omega, HST⟩
          case measure => simp [intOf]; omega
        · have htest2 : 4294967296 * r + u1 < q * v0 := by omega
          obtain ⟨hp1, hp2⟩ := kn_prod (by omega) (by omega : q < 4294967296) hv00 hv01
          clear htest
          go_wp2
          go_round
          case rel => exact ⟨q - 1, r + v1, rfl, rfl, by omega, by omega, by omega, by omega, HST⟩
          case measure => simp [intOf]; omega
    · have hbig : q < 4294967296 := by omega
      have htest2 : q * v0 ≤ 4294967296 * r + u1 := by omega
      have hqe := kn_done hYe.out hYp hQ.out HI.out hqa htest2
      subst hqe
      obtain ⟨hp1, hp2⟩ := kn_prod hQ0 hQ1 hv00 hv01
      clear HI hqa hqb HD hq2 hr1 hr2 hQq hrv htest
      go_wp2
      have HD2 := Lib.hid hq02
      clear hr02 hm02 hm12 hq02
      go_loop [18, 16] (fun qq rr => ∃ q r : Int, qq = .int .u64 q ∧ rr = .int .u64 r ∧ Q0 ≤ q ∧ q ≤ 4294967297 ∧ 0 ≤ r ∧ r < 4294967296 ∧ Hid (q * v1 + r = u2)) (fun qq _ => (intOf qq).toNat)
      case atStart => exact ⟨q2, r2, by first | rfl | rw [HD2.out], rfl, hQq2, hq22, hr12, by omega, hrv2⟩
      case round =>
        obtain ⟨q, r, rfl, rfl, hqa, hqb, hra, hrb, HI⟩ := hrel
        by_cases htest : 4294967296 ≤ q ∨ 4294967296 * r + u0 < q * v0
        · have hgt := kn_gt hYe.out hYp hUY hl6 hQ2.out HI.out htest
          by_cases hbr : 4294967296 ≤ r + v1
          · have hqe := kn_break hYe.out hYp hv00 hv01 hl5 hQ2.out HI.out hgt hqb hbr
            subst hqe
            clear HI hqa hqb hgt HD2 hq22 hr12 hr22 hQq2 hrv2
            by_cases hbig : 4294967296 ≤ Q0 + 1
            · go_wp2
              go_ret2
              exact ⟨rfl, rfl⟩
            · have htest2 : 4294967296 * r + u0 < (Q0 + 1) * v0 := by omega
              have hp := kn_prod (by omega) (by omega : Q0 + 1 < 4294967296) hv00 hv01
              obtain ⟨hp1, hp2⟩ := hp
              clear htest
              go_wp2
              go_ret2
              exact ⟨rfl, rfl⟩
          · have hst := kn_step HI.out
            have HST := Lib.hid hst
            clear hst
            by_cases hbig : 4294967296 ≤ q
            · clear htest
              go_wp2
              go_round
              case rel => exact ⟨q - 1, r + v1, rfl, rfl, by omega, by omega, by omega, by omega, HST⟩
              case measure => simp [intOf]; omega
            · have htest2 : 4294967296 * r + u0 < q * v0 := by omega
              obtain ⟨hp1, hp2⟩ := kn_prod (by omega) (by omega : q < 4294967296) hv00 hv01
              clear htest
              go_wp2
              go_round
              case rel => exact ⟨q - 1, r + v1, rfl, rfl, by omega, by omega, by omega, by omega, HST⟩
              case measure => simp [intOf]; omega
        · have hbig : q < 4294967296 := by omega
          have htest2 : q * v0 ≤ 4294967296 * r + u0 := by omega
          have hqe := kn_done hYe.out hYp hQ2.out HI.out hqa htest2
          subst hqe
          obtain ⟨hp1, hp2⟩ := kn_prod hQ02 hQ12 hv00 hv01
          clear HI hqa hqb HD2 hq22 hr12 hr22 hQq2 hrv2 htest
          go_wp2
          go_ret2
          exact ⟨rfl, rfl⟩
theorem two_pow_nat (s : Nat) : ((2 : Int) ^ s) = ((2 ^ s : Nat) : Int) := by simp

/-- The shift of a divisor: how far it may be moved up. -/
theorem lz_facts (y : Int) (h2 : 0 < y) (h3 : y ≤ 18446744073709551615) : ∃ s : Nat, s ≤ 63 ∧ (64 - (Lib.bitLen y.toNat : Int)) = (s : Int) ∧ 9223372036854775808 ≤ y * 2 ^ s ∧ y * 2 ^ s ≤ 18446744073709551615 ∧ (2 : Int) ^ s * 2 ^ (64 - s) = 18446744073709551616 ∧ 0 < (2 : Int) ^ s ∧ 0 < (2 : Int) ^ (64 - s) := by
  obtain ⟨n, rfl⟩ := Int.eq_ofNat_of_zero_le (Int.le_of_lt h2)
  have hx : n < 2 ^ 64 := by omega
  have hle := bitLen_le64 n hx
  obtain ⟨h5, h6⟩ := bitLen_spec 64 n hx hx
  obtain ⟨h7, h8⟩ := h6 (by omega)
  rw [Int.toNat_natCast]
  obtain ⟨k, hk⟩ : ∃ k, k = Lib.bitLen n := ⟨_, rfl⟩
  rw [← hk] at h5 h7 h8 hle ⊢
  have e64 : 2 ^ (64 - k) * 2 ^ k = 18446744073709551616 := by rw [← Nat.pow_add, show 64 - k + k = 64 by omega]
  have e63 : 2 ^ (64 - k) * 2 ^ (k - 1) = 9223372036854775808 := by rw [← Nat.pow_add, show 64 - k + (k - 1) = 63 by omega]
  have p1 : 0 < 2 ^ (64 - k) := Nat.two_pow_pos _
  have a1 : 2 ^ (64 - k) * 2 ^ (k - 1) ≤ 2 ^ (64 - k) * n := Nat.mul_le_mul_left _ h7
  have a2 : 2 ^ (64 - k) * (n + 1) ≤ 2 ^ (64 - k) * 2 ^ k := Nat.mul_le_mul_left _ h5
  rw [Nat.mul_add] at a2
  refine ⟨64 - k, by omega, by omega, ?_, ?_, ?_, ?_, ?_⟩
  · rw [two_pow_nat, ← Int.natCast_mul, Nat.mul_comm]; omega
  · rw [two_pow_nat, ← Int.natCast_mul, Nat.mul_comm]; omega
  · rw [show 64 - (64 - k) = k by omega, two_pow_nat, two_pow_nat, ← Int.natCast_mul]; omega
  · rw [two_pow_nat]; omega
  · rw [two_pow_nat]; have := Nat.two_pow_pos (64 - (64 - k)); omega

theorem wrap3 (a u1 b r : Int) (h : a + u1 - b = r) (h0 : 0 ≤ r) (h1 : r ≤ 18446744073709551615) : IntKind.u64.wrap (IntKind.u64.wrap (IntKind.u64.wrap a + u1) - IntKind.u64.wrap b) = r := by
  simp only [IntKind.wrap_u64]
  omega

theorem div64_any (hi lo y : Int) (w : World) (hh : 0 ≤ hi) (h0 : 0 ≤ lo) (h1 : lo ≤ 18446744073709551615) (h2 : 0 < y) (h3 : y ≤ 18446744073709551615) (h5 : hi < y) :
    Calls Tryz.prog 73 #[.int .u64 hi, .int .u64 lo, .int .u64 y] w fun e w' => RetV w (.tuple #[.int .u64 ((hi * 18446744073709551616 + lo) / y), .int .u64 ((hi * 18446744073709551616 + lo) % y)]) e w' := by
  by_cases hz : hi = 0
  · subst hz
    rw [Int.zero_mul, Int.zero_add]
    exact div64_small lo y w h0 h1 h2 h3
  · obtain ⟨s, hs, hlz, hY0, hY1, hPT, hP, hT⟩ := lz_facts y h2 h3
    have lz : ∀ w, Calls Tryz.prog 32 #[.int .u64 y] w fun e w' => e = .returned (.int .i64 s) ∧ w' = w := by
      intro w
      refine (lz64_any y w (by omega) h3).mono ?_
      rintro e w' ⟨rfl, rfl⟩
      exact ⟨by rw [hlz], rfl⟩
    obtain ⟨P, hPe⟩ : ∃ P, P = (2 : Int) ^ s := ⟨_, rfl⟩
    obtain ⟨T, hTe⟩ : ∃ T, T = (2 : Int) ^ (64 - s) := ⟨_, rfl⟩
    rw [← hPe] at hY0 hY1 hPT hP
    rw [← hTe] at hPT hT
    obtain ⟨Y, hYe⟩ : ∃ Y, Y = y * P := ⟨_, rfl⟩
    rw [← hYe] at hY0 hY1
    -- the parts of lo
    have l1 := Int.mul_ediv_add_emod lo T
    have l2 := Int.emod_lt_of_pos lo hT
    have l3 := Int.emod_nonneg lo (by omega : T ≠ 0)
    have l4 : 0 ≤ lo / T := Int.ediv_nonneg h0 (by omega)
    have l5 : lo / T < P := Int.ediv_lt_of_lt_mul hT (by rw [hPT]; omega)
    obtain ⟨c, hc⟩ : ∃ c, c = lo / T := ⟨_, rfl⟩
    obtain ⟨d, hd⟩ : ∃ d, d = lo % T := ⟨_, rfl⟩
    rw [← hc] at l1 l4 l5
    rw [← hd] at l1 l2 l3
    have dP0 : 0 ≤ d * P := Int.mul_nonneg l3 (by omega)
    have dP1 : d * P + P ≤ 18446744073709551616 := by
      have : (d + 1) * P ≤ T * P := Int.mul_le_mul_of_nonneg_right (by omega) (by omega)
      rw [Int.add_mul, Int.one_mul, Int.mul_comm T P, hPT] at this
      exact this
    have loP : lo * P = c * 18446744073709551616 + d * P := by
      rw [← l1, Int.add_mul, Int.mul_comm T c, Int.mul_assoc, Int.mul_comm T P, hPT]
    have hiP0 : 0 ≤ hi * P := Int.mul_nonneg hh (by omega)
    have hiP1 : hi * P + P ≤ Y := by
      have : (hi + 1) * P ≤ y * P := Int.mul_le_mul_of_nonneg_right (by omega) (by omega)
      rw [Int.add_mul, Int.one_mul, ← hYe] at this
      exact this
    have eL : IntKind.u64.wrap (lo * P) = d * P := by rw [IntKind.wrap_u64, loP]; omega
    have eH : IntKind.u64.wrap (hi * P) = hi * P := by rw [IntKind.wrap_u64]; omega
    have eY : IntKind.u64.wrap (y * P) = Y := by rw [IntKind.wrap_u64, ← hYe]; omega
    have eu : bits .or .u64 (IntKind.u64.wrap (hi * P)) (lo / T) = hi * P + c := by
      rw [eH, ← hc, hPe]
      exact or_parts hi c s hh l4 (by rw [← hPe]; exact l5) (by rw [← hPe]; omega)
    obtain ⟨u, hu⟩ : ∃ u, u = hi * P + c := ⟨_, rfl⟩
    obtain ⟨L, hL⟩ : ∃ L, L = d * P := ⟨_, rfl⟩
    have huY : u < Y := by omega
    have hYv : Y = Y / 4294967296 * 4294967296 + Y % 4294967296 := by omega
    have hv1 : 2147483648 ≤ Y / 4294967296 := by omega
    have hYp : 0 < Y := by omega
    obtain ⟨a1, a2, a3⟩ := kn_le (u := u) (u1 := L / 4294967296) hYv hv1 (by omega) (by omega) huY (by omega) (by omega)
    obtain ⟨b1, b2⟩ := kn_top (u := u) hYv hv1 (by omega) (by omega) huY
    obtain ⟨c1, c2, c3, c4⟩ := kn_rest (u := u) (v1 := Y / 4294967296) (by omega) (by omega)
    obtain ⟨d1, d2, d3⟩ := kn_left (u := u) (u1 := L / 4294967296) (Y := Y) hYp rfl
    obtain ⟨Q1, hQ1⟩ : ∃ Q1, Q1 = (u * 4294967296 + L / 4294967296) / Y := ⟨_, rfl⟩
    rw [← hQ1] at a1 a2 a3 d1 d2 d3
    obtain ⟨u2, hu2⟩ : ∃ u2, u2 = u * 4294967296 + L / 4294967296 - Q1 * Y := ⟨_, rfl⟩
    rw [← hu2] at d1 d2 d3
    obtain ⟨a1', a2', a3'⟩ := kn_le (u := u2) (u1 := L % 4294967296) hYv hv1 (by omega) d2 d3 (by omega) (by omega)
    obtain ⟨b1', b2'⟩ := kn_top (u := u2) hYv hv1 (by omega) d2 d3
    obtain ⟨c1', c2', c3', c4'⟩ := kn_rest (u := u2) (v1 := Y / 4294967296) (by omega) d2
    obtain ⟨d1', d2', d3'⟩ := kn_left (u := u2) (u1 := L % 4294967296) (Y := Y) hYp rfl
    obtain ⟨Q0, hQ0⟩ : ∃ Q0, Q0 = (u2 * 4294967296 + L % 4294967296) / Y := ⟨_, rfl⟩
    rw [← hQ0] at a1' a2' a3' d1' d2' d3'
    obtain ⟨R, hR⟩ : ∃ R, R = u2 * 4294967296 + L % 4294967296 - Q0 * Y := ⟨_, rfl⟩
    rw [← hR] at d1' d2' d3'
    have core := div64_core hi lo y Y (Y / 4294967296) (Y % 4294967296) u L (L / 4294967296) (L % 4294967296) (u / (Y / 4294967296)) (u - u / (Y / 4294967296) * (Y / 4294967296)) Q1 u2 (u2 / (Y / 4294967296)) (u2 - u2 / (Y / 4294967296) * (Y / 4294967296)) Q0 R s w
      h0 h1 h2 h3 (by omega) h5 hs lz (by rw [← hPe]; exact eY) hY0 hY1 rfl hv1 (by omega) (and_mask32 Y (by omega) (by omega)) (by omega) (by omega) hYv
      (by rw [← hPe, ← hTe, eu, hu]) (by omega) huY (by rw [← hPe, eL, hL]) (by omega) (by omega) rfl (by omega) (by omega) (and_mask32 L (by omega) (by omega)) (by omega) (by omega)
      rfl b1 b2 c1 c2 rfl c3 c4 hQ1.symm a1 a2 a3
      (wrap3 _ _ _ u2 hu2.symm d2 (by omega)) d2 d3 rfl b1' b2' c1' c2' rfl c3' c4' hQ0.symm a1' a2' a3' (wrap3 _ _ _ R hR.symm d2' (by omega)) d2' (by omega)
    -- what the two digits make together
    have hN : (hi * 18446744073709551616 + lo) * P = (Q1 * 4294967296 + Q0) * Y + R := by
      have e1 : (hi * 18446744073709551616 + lo) * P = u * 18446744073709551616 + L := by
        rw [Int.add_mul, loP, hu, hL, Int.mul_assoc, Int.mul_comm 18446744073709551616 P, ← Int.mul_assoc]
        omega
      rw [e1, Int.add_mul, Int.mul_assoc, Int.mul_comm 4294967296 Y, ← Int.mul_assoc]
      omega
    rw [hYe, ← Int.mul_assoc] at hN
    obtain ⟨q, hq⟩ : ∃ q, q = Q1 * 4294967296 + Q0 := ⟨_, rfl⟩
    rw [← hq] at hN core
    obtain ⟨N, hNe⟩ : ∃ N, N = hi * 18446744073709551616 + lo := ⟨_, rfl⟩
    rw [← hNe] at hN ⊢
    have hRP : R = (N - q * y) * P := by rw [Int.sub_mul]; omega
    have hRd : R / 2 ^ s = N - q * y := by rw [← hPe, hRP, Int.mul_ediv_cancel _ (by omega)]
    have hlo : 0 ≤ N - q * y := by
      rw [← hRd, ← hPe]
      exact Int.ediv_nonneg d2' (by omega)
    have hup : N - q * y < y := by
      rw [← hRd, ← hPe]
      refine Int.ediv_lt_of_lt_mul hP ?_
      rw [← hYe]; exact d3'
    have hdiv : N / y = q := by
      have e : N = (N - q * y) + y * q := by rw [Int.mul_comm y q]; omega
      rw [e, Int.add_mul_ediv_left _ _ (by omega), Int.ediv_eq_zero_of_lt hlo hup]; omega
    have hmod : N % y = N - q * y := by
      have := Int.mul_ediv_add_emod N y
      rw [hdiv, Int.mul_comm] at this
      omega
    refine core.mono ?_
    rintro e w' ⟨rfl, rfl⟩
    exact ⟨by rw [hdiv, hmod, hRd], Below.refl _ _⟩
end Go.Proofs.YthfcncapgfkkjaaGreatDoor

namespace Go.Proofs.YthfcncapgfkkjaaGreatDoor
open Go.RowKit

/-- One step of the division of a number by a word, from the top. -/
theorem dl_step {l m : List Int} {k : Nat} {r d q x : Int} (hk : k < l.length) (hlm : m.length = l.length) (h : vb B64 (m.drop (k + 1)) * d + r = vb B64 (l.drop (k + 1))) (hx : x = l.getD k 0) (_hd : 0 < d)
    (hq : q = (r * 18446744073709551616 + x) / d) : vb B64 ((m.set k q).drop k) * d + (r * 18446744073709551616 + x) % d = vb B64 (l.drop k) := by
  have hkm : k < (m.set k q).length := by rw [List.length_set, hlm]; exact hk
  rw [vb_drop B64 hk, vb_drop B64 hkm, getD_set_same (by rw [hlm]; exact hk), ← hx, ← h]
  have e : (m.set k q).drop (k + 1) = m.drop (k + 1) := by
    apply List.ext_getElem?
    intro j
    rw [List.getElem?_drop, List.getElem?_drop, List.getElem?_set, if_neg (by omega)]
  rw [e]
  have := Int.mul_ediv_add_emod (r * 18446744073709551616 + x) d
  rw [← hq, Int.mul_comm d q] at this
  have e2 : (q + B64 * vb B64 (m.drop (k + 1))) * d = q * d + B64 * (vb B64 (m.drop (k + 1)) * d) := by rw [Int.add_mul, Int.mul_assoc]
  rw [e2]
  unfold B64 at *
  omega

theorem divLimb_zero (ao : Option Addr) (cap : Nat) (d : Int) (w : World) :
    Calls Tryz.prog 31 #[.slice ao 0 cap, .int .u64 d] w fun e w' => e = .returned (.int .u64 0) ∧ w = w' := by
  go_enter Tryz.func31, Tryz.ntmps31
  go_wp2
  refine wp_loop_rounds 1 ?_
  rw [rounds_succ]
  go_wp2
  go_ret
  exact ⟨rfl, rfl⟩

/-- What nat.divideByLimb leaves. -/
def RetDL (b off n : Nat) (N d : Int) (w : World) (e : Ending) (w' : World) : Prop := e = .returned (.int .u64 (N % d)) ∧ InPl b off n (N / d) w w'

set_option maxRecDepth 100000 in
set_option maxHeartbeats 1000000 in
theorem divLimb_any (b off n cap : Nat) (l : List Int) (d : Int) (w : World) (hn : n = l.length) (h1 : n ≤ cap) (h2 : cap ≤ 9223372036854775807) (ha : Arr w b off l) (hl : Lim B64 l) (hd : 0 < d) (hd2 : d ≤ 18446744073709551615) :
    Calls Tryz.prog 31 #[.slice (some ⟨b, off, none⟩) n cap, .int .u64 d] w fun e w' => RetDL b off n (vb B64 l) d w e w' := by
  have HN := Lib.hid hn
  clear hn
  go_enter Tryz.func31, Tryz.ntmps31
  go_wp2
  go_loopw [5, 6] (fun rr i wr => ∃ (k : Nat) (r : Int) (m : List Int), k ≤ n ∧ i = .int .i64 ((k : Int) - 1) ∧ rr = .int .u64 r ∧ 0 ≤ r ∧ r < d ∧ Hid (m.length = n) ∧ Lim B64 m ∧ Arr wr b off m ∧ Only b off (off + n) w wr ∧ Hid (m.take k = l.take k) ∧ Hid (vb B64 (m.drop k) * d + r = vb B64 (l.drop k)))
    (fun _ i _ => ((intOf i) + 1).toNat)
  case atStart => exact ⟨n, 0, l, Nat.le_refl _, rfl, rfl, Int.le_refl _, hd, HN.out.symm, hl, ha, Only.refl _ _ _ _, rfl, by
    show _ = _
    rw [List.drop_of_length_le (by rw [HN.out]; exact Nat.le_refl _)]; simp⟩
  case round =>
    obtain ⟨k, r, m, hk, rfl, rfl, hr0, hr1, HM, hlim, harr, honly, HT, HV⟩ := hrel
    by_cases hk0 : k = 0
    · subst hk0
      have hv : vb B64 m * d + r = vb B64 l := HV.out
      have hdiv : vb B64 l / d = vb B64 m := by
        have e : vb B64 l = r + d * vb B64 m := by rw [Int.mul_comm]; omega
        rw [e, Int.add_mul_ediv_left _ _ (by omega), Int.ediv_eq_zero_of_lt hr0 hr1]; omega
      have hmod : vb B64 l % d = r := by
        have e : vb B64 l = r + d * vb B64 m := by rw [Int.mul_comm]; omega
        rw [e, Int.add_mul_emod_self_left, Int.emod_eq_of_lt hr0 hr1]
      have HDI := Lib.hid hdiv
      have HMO := Lib.hid hmod
      clear hv hdiv hmod
      go_wp2
      go_ret
      exact ⟨by rw [HMO.out]; rfl, m, HM.out, hlim, harr, HDI.out.symm, honly⟩
    · obtain ⟨j, rfl⟩ : ∃ j, k = j + 1 := ⟨k - 1, by omega⟩
      have hj : j < n := by omega
      obtain ⟨x, hxe⟩ : ∃ x, x = l.getD j 0 := ⟨_, rfl⟩
      have hcx : wr.cell? ⟨b, off + j, none⟩ = some (.int .u64 x) := by
        rw [hxe, ← getD_take (l := l) (k := j + 1) (by omega), ← HT.out, getD_take (by omega)]
        exact harr.at' j (by rw [HM.out]; exact hj)
      have hfr := harr.frozen (off + j)
      have bx : 0 ≤ x ∧ x < B64 := by rw [hxe]; exact hl.getD B64_pos j
      have bx0 : 0 ≤ x := bx.1
      have bx1 : x ≤ 18446744073709551615 := by have := bx.2; unfold B64 at this; omega
      have e0 : (((j + 1 : Nat) : Int) - 1) = (j : Int) := by omega
      rw [e0]
      have hq := div64_any r x d wr hr0 bx0 bx1 hd hd2 hr1
      obtain ⟨q, hqe⟩ : ∃ q, q = (r * 18446744073709551616 + x) / d := ⟨_, rfl⟩
      obtain ⟨r2, hre⟩ : ∃ r2, r2 = (r * 18446744073709551616 + x) % d := ⟨_, rfl⟩
      rw [← hqe, ← hre] at hq
      have hq0 : 0 ≤ q := by rw [hqe]; exact Int.ediv_nonneg (by omega) (by omega)
      have hq1 : q < B64 := by
        rw [hqe]
        refine Int.ediv_lt_of_lt_mul hd ?_
        unfold B64
        omega
      have hr20 : 0 ≤ r2 := by rw [hre]; exact Int.emod_nonneg _ (by omega)
      have hr21 : r2 < d := by rw [hre]; exact Int.emod_lt_of_pos _ hd
      have hst := dl_step (l := l) (m := m) (k := j) (by rw [← HN.out]; exact hj) (by rw [HM.out, HN.out]) HV.out hxe hd hqe
      rw [← hre] at hst
      have HQ := Lib.hid hq
      have HST := Lib.hid hst
      clear hq hst hqe hre hxe e0 bx
      go_wp2_with fail
      refine HQ.out.mono ?_
      rintro e w1 ⟨rfl, hb1⟩
      have hon1 : Only b off (off + n) wr w1 := Only.of_below hb1
      have harr1 : Arr w1 b off m := by
        obtain ⟨cur, e, hh, hc⟩ := harr
        exact ⟨cur, e, (hb1.block b (Array.getElem?_eq_some_iff.1 hh).1).trans hh, hc⟩
      have hcx1 : w1.cell? ⟨b, off + j, none⟩ = some (.int .u64 x) := by rw [← hcx]; exact hb1.cell (p := ⟨b, off + j, none⟩) harr.lt
      have hfr1 := harr1.frozen (off + j)
      go_wp2_with fail
      go_roundw
      case rel =>
        refine ⟨j, r2, m.set j q, by omega, by go_num, rfl, hr20, hr21, ?_, hlim.set j hq0 hq1, harr1.store j q, (honly.trans hon1).trans (Only.store _ _ (by omega) (by omega)), ?_, HST.out⟩
        · show _ = _
          rw [List.length_set]; exact HM.out
        · show _ = _
          have := HT.out
          rw [List.take_set_of_le (Nat.le_refl _)]
          have e := congrArg (List.take j) this
          rw [List.take_take, List.take_take, Nat.min_eq_left (by omega)] at e
          exact e
      case measure => simp [intOf]
end Go.Proofs.YthfcncapgfkkjaaGreatDoor

namespace Go.Proofs.YthfcncapgfkkjaaGreatDoor
open Go.RowKit

/-- What nat.divideByLimb leaves of a row of the call's own. -/
def RetDLO (B : Nat) (v : Value) (l : List Int) (d : Int) (w : World) (e : Ending) (w' : World) : Prop :=
  e = .returned (.int .u64 (vb B64 l % d)) ∧ ∃ l', Ow B w' v l' ∧ Lim B64 l' ∧ vb B64 l' = vb B64 l / d ∧ Below B w w'

theorem divLimb_ow (B : Nat) (v : Value) (l : List Int) (d : Int) (w : World) (h : Ow B w v l) (hl : Lim B64 l) (hd : 0 < d) (hd2 : d ≤ 18446744073709551615) (hB : B ≤ w.heap.size) :
    Calls Tryz.prog 31 #[v, .int .u64 d] w fun e w' => RetDLO B v l d w e w' := by
  rcases h.cases with ⟨rfl, rfl⟩ | ⟨g, cap, rfl, hg, h1, h2, harr⟩
  · refine (divLimb_zero none 0 d w).mono ?_
    rintro e w' ⟨rfl, rfl⟩
    refine ⟨by simp, [], h, Lim.nil _, by simp, Below.refl _ _⟩
  · refine (divLimb_any g 0 l.length cap l d w rfl h1 h2 harr hl hd hd2).mono ?_
    rintro e w' ⟨rfl, l', hl', hlim', harr', hv, honly⟩
    exact ⟨rfl, l', by have := h.only honly harr' hl'; exact this, hlim', hv, honly.below hg hB⟩

def RetTrO (B : Nat) (l : List Int) (w : World) (e : Ending) (w' : World) : Prop := ∃ v', e = .returned v' ∧ Ow B w v' (tr l) ∧ w = w'
theorem trim_ow (B : Nat) (v : Value) (l : List Int) (w : World) (h : Ow B w v l) : Calls Tryz.prog 28 #[v] w fun e w' => RetTrO B l w e w' := by
  obtain ⟨ao, cap, rfl, h1, h2, hr⟩ := h.form
  refine (trim_any ao l.length cap l w rfl h1 h2 hr).mono ?_
  rintro e w' ⟨rfl, rfl⟩
  exact ⟨_, rfl, h.take (tlen l) (tlen_le l), rfl⟩

theorem drop_set_at {l : List Int} {p : Nat} {x : Int} (hp : p < l.length) : (l.set p x).drop p = x :: l.drop (p + 1) := by
  rw [drop_getD_cons (by rw [List.length_set]; exact hp), getD_set_same hp]
  congr 1
  apply List.ext_getElem?
  intro j
  rw [List.getElem?_drop, List.getElem?_drop, List.getElem?_set, if_neg (by omega)]

theorem pow_chunk (N : Int) (a : Nat) : N / 10 ^ (19 * a) / 10000000000000000000 = N / 10 ^ (19 * (a + 1)) := by
  have e : (10 : Int) ^ (19 * (a + 1)) = 10 ^ (19 * a) * 10000000000000000000 := by rw [Nat.mul_add, Int.pow_add]; rfl
  rw [e, Int.ediv_ediv_of_nonneg (Int.le_of_lt (Int.pow_pos (by decide)))]
theorem dg_chunk (x : Int) : dg 19 (x % 10000000000000000000) = dg 19 x := by
  have := dg_mod 19 19 x (Nat.le_refl _)
  exact this

/-- What writeChunks leaves. -/
def RetWC (B g off n : Nat) (N : Int) (w : World) (e : Ending) (w' : World) : Prop := e = .returned (.tuple #[]) ∧ ArrB w' g off (dg n N) ∧ OnlyB B g off (off + n) w w'

set_option maxRecDepth 100000 in
set_option maxHeartbeats 2000000 in
theorem writeChunks_any (g off n cap M : Nat) (D : List Int) (va : Value) (la : List Int) (B : Nat) (w : World) (hn : n = 19 * M) (hD : D.length = n) (h1 : n ≤ cap) (h2 : cap ≤ 9223372036854775807)
    (hd : ArrB w g off D) (ha : Ow B w va la) (hl : Lim B64 la) (hg : g < B) (hB : B ≤ w.heap.size) :
    Calls Tryz.prog 88 #[.slice (some ⟨g, off, none⟩) n cap, va] w fun e w' => RetWC B g off n (vb B64 la) w e w' := by
  obtain ⟨N, hN⟩ : ∃ N, N = vb B64 la := ⟨_, rfl⟩
  have HN := Lib.hid hN
  rw [← hN]
  clear hN
  have HNN := Lib.hid hn
  have HD := Lib.hid hD
  have hMn : 19 * (M : Int) = (n : Int) := by omega
  have HMN := Lib.hid hMn
  have hM63 : 19 * (M : Int) ≤ 9223372036854775807 := by omega
  clear hn hD hMn
  go_enter Tryz.func88, Tryz.ntmps88
  go_wp2
  go_loopw [1, 4] (fun a e wr => ∃ (k : Nat) (la' D' : List Int), k ≤ M ∧ e = .int .i64 (19 * (k : Int)) ∧ Ow B wr a la' ∧ Lim B64 la' ∧ Hid (vb B64 la' = N / 10 ^ (19 * (M - k))) ∧ ArrB wr g off D' ∧ Hid (D'.length = n) ∧ Hid (D'.drop (19 * k) = dg (19 * (M - k)) N) ∧ OnlyB B g off (off + n) w wr)
    (fun _ e _ => (intOf e).toNat)
  case atStart => exact ⟨M, la, D, Nat.le_refl _, by rw [HMN.out], ha, hl, by
    show _ = _
    rw [Nat.sub_self, Nat.mul_zero, Int.pow_zero, Int.ediv_one, HN.out], hd, HD, by
    show _ = _
    rw [Nat.sub_self, Nat.mul_zero, ← HNN.out, ← HD.out, List.drop_length]; rfl, OnlyB.refl _ _ _ _ _⟩
  case round =>
    obtain ⟨k, la', D', hk, rfl, hO, hlim, HV, harr, HL, HT, honly⟩ := hrel
    by_cases hk0 : k = 0
    · subst hk0
      have e1 : D' = dg n N := by
        have := HT.out
        rw [Nat.mul_zero, List.drop_zero, Nat.sub_zero, ← HNN.out] at this
        exact this
      have harr2 : ArrB wr g off (dg n N) := by rw [← e1]; exact harr
      clear e1
      go_wp2
      go_end0
      exact ⟨rfl, harr2, honly⟩
    · obtain ⟨j, rfl⟩ : ∃ j, k = j + 1 := ⟨k - 1, by omega⟩
      have hBr : B ≤ wr.heap.size := Nat.le_trans hB honly.size
      have hdl := divLimb_ow B u1 la' 10000000000000000000 wr hO hlim (by decide) (by decide) hBr
      have HDL := Lib.hid hdl
      clear hdl
      go_wp2_with fail
      refine HDL.out.mono ?_
      rintro e w1 ⟨rfl, l1, hO1, hlim1, hv1, hb1⟩
      obtain ⟨x, hx⟩ : ∃ x, x = vb B64 la' % 10000000000000000000 := ⟨_, rfl⟩
      rw [← hx]
      have hx0 : 0 ≤ x := by rw [hx]; exact Int.emod_nonneg _ (by decide)
      have hx1 : x < 10000000000000000000 := by rw [hx]; exact Int.emod_lt_of_pos _ (by decide)
      have HX := Lib.hid hx
      have HV1 := Lib.hid hv1
      clear hx hv1
      go_wp2_with fail
      refine (trim_ow B _ l1 w1 hO1).mono ?_
      rintro e w' ⟨v2, rfl, hO2, rfl⟩
      have harr1 := harr.below hb1 hg
      have honly1 := honly.trans (OnlyB.of_below hb1 hg)
      clear hO hlim harr honly hO1 hb1
      go_wp2_with fail
      obtain ⟨tl, htl⟩ : ∃ tl, tl = dg (19 * (M - (j + 1))) N := ⟨_, rfl⟩
      have HTL := Lib.hid htl
      rw [← htl] at HT
      clear htl
      go_loopw [5, 6] (fun yy ii wr => ∃ (i p : Nat) (y : Int) (D2 : List Int), i ≤ 19 ∧ p + i = 19 * (j + 1) ∧ ii = .int .i64 ((p : Int) - 1) ∧ yy = .int .u64 y ∧ 0 ≤ y ∧ y < 10000000000000000000 ∧ Hid (y = x / 10 ^ i) ∧ ArrB wr g off D2 ∧ Hid (D2.length = n) ∧ Hid (D2.drop p = dg i x ++ tl) ∧ OnlyB B g off (off + n) w wr ∧ Ow B wr v2 (tr l1))
        (fun _ ii _ => ((intOf ii) + 1).toNat)
      case atStart => exact ⟨0, 19 * (j + 1), x, D', by omega, by omega, by go_num, rfl, hx0, hx1, by
        show _ = _
        rw [Int.pow_zero, Int.ediv_one], harr1, HL, HT, honly1, hO2⟩
      case round =>
        clear harr1 HL HT honly1 hO2
        obtain ⟨i, p, y, D2, hi, hpi, rfl, rfl, hy0, hy1, HY, harr, HL, HT, honly, hO⟩ := hrel
        by_cases hi19 : i = 19
        · have hlt : ((p : Int) - 1) < 19 * ((j : Int) + 1) - 19 := by omega
          have hp : p = 19 * j := by omega
          have hpos : D2.drop (19 * j) = dg (19 * (M - j)) N := by
            rw [← hp, HT.out, hi19, HTL.out, show 19 * (M - j) = 19 + 19 * (M - (j + 1)) by omega, dg_add, HX.out, dg_chunk, HV.out]
          have hval : vb B64 (tr l1) = N / 10 ^ (19 * (M - j)) := by
            rw [vb_tr, HV1.out, HV.out, pow_chunk, show M - (j + 1) + 1 = M - j by omega]
          have HPOS := Lib.hid hpos
          have HVAL := Lib.hid hval
          clear hpos hval hi19 hp
          go_wp2
          go_roundw
          case rel => exact ⟨j, tr l1, D2, by omega, by go_num, hO, hlim1.take _, HVAL, harr, HL, HPOS, honly⟩
          case measure => simp [intOf]; omega
        · obtain ⟨p, rfl⟩ : ∃ p', p = p' + 1 := ⟨p - 1, by omega⟩
          have hge : 19 * ((j : Int) + 1) - 19 ≤ (p : Int) := by omega
          have hpn : p < n := by have := HNN.out; omega
          have e0 : (((p + 1 : Nat) : Int) - 1) = (p : Int) := by omega
          have hcell := harr.at' p (by rw [HL.out]; exact hpn)
          have hfr := harr.frozen (off + p)
          have hpl : p < D2.length := by rw [HL.out]; exact hpn
          have hm0 : 0 ≤ y % 10 := by omega
          have hm1 : y % 10 < 10 := by omega
          rw [e0]
          clear e0
          go_wp2
          go_roundw
          case rel =>
            refine ⟨i + 1, p, y / 10, D2.set p (48 + y % 10), by omega, by omega, by go_num, rfl, by omega, by omega, ?_, harr.store p _, ?_, ?_, honly.trans (OnlyB.of_only (Only.store _ _ (by omega) (by omega)) (Nat.le_trans hB honly.size)), ?_⟩
            · show _ = _
              rw [HY.out, ediv_pow10']
            · show _ = _
              rw [List.length_set]; exact HL.out
            · show _ = _
              rw [drop_set_at hpl, HT.out, dg_cons, HY.out, List.cons_append]
            · refine hO.only' (Only.store (lo := off + p) (hi := off + p + 1) _ _ (Nat.le_refl _) (by omega)) ?_
              intro e
              have := hO.block g e
              omega
          case measure => simp [intOf]
end Go.Proofs.YthfcncapgfkkjaaGreatDoor

namespace Go.Proofs.YthfcncapgfkkjaaGreatDoor
open Go.RowKit


theorem pow2_split {r : Nat} (hr : r ≤ 64) : (18446744073709551616 : Int) = 2 ^ (64 - r) * 2 ^ r := by
  rw [← Int.pow_add, show 64 - r + r = 64 by omega]; rfl
theorem pow2_pos (r : Nat) : (0 : Int) < 2 ^ r := Int.pow_pos (by decide)
theorem or_comm64 (a b : Int) (ha : 0 ≤ a) (ha2 : a < 18446744073709551616) (hb : 0 ≤ b) (hb2 : b < 18446744073709551616) : bits .or .u64 a b = bits .or .u64 b a := by
  obtain ⟨a, rfl⟩ := Int.eq_ofNat_of_zero_le ha
  obtain ⟨b, rfl⟩ := Int.eq_ofNat_of_zero_le hb
  rw [bits_or_u64_nat _ _ (by omega) (by omega), bits_or_u64_nat _ _ (by omega) (by omega), Nat.or_comm]

/-- A word that is shifted up is laid over a word below the shift. -/
theorem or_shl (c x : Int) (r : Nat) (hr : r ≤ 64) (hc : 0 ≤ c) (hcr : c < 2 ^ r) (_hx : 0 ≤ x) : bits .or .u64 c (IntKind.u64.wrap (x * 2 ^ r)) = c + (x * 2 ^ r) % 18446744073709551616 := by
  have hp := pow2_pos r
  have e : (x * 2 ^ r) % 18446744073709551616 = (x % 2 ^ (64 - r)) * 2 ^ r := by
    rw [pow2_split hr, Int.mul_comm x, Int.mul_comm (2 ^ (64 - r)), Int.mul_emod_mul_of_pos _ _ hp, Int.mul_comm]
  have h0 : 0 ≤ x % 2 ^ (64 - r) := Int.emod_nonneg _ (by have := pow2_pos (64 - r); omega)
  have h1 : x % 2 ^ (64 - r) < 2 ^ (64 - r) := Int.emod_lt_of_pos _ (pow2_pos _)
  have h2 : (x % 2 ^ (64 - r)) * 2 ^ r + 2 ^ r ≤ 18446744073709551616 := by
    have h3 : (x % 2 ^ (64 - r) + 1) * 2 ^ r ≤ 2 ^ (64 - r) * 2 ^ r := Int.mul_le_mul_of_nonneg_right (by omega) (Int.le_of_lt hp)
    rw [← pow2_split hr, Int.add_mul, Int.one_mul] at h3
    exact h3
  have h4 : 0 ≤ (x % 2 ^ (64 - r)) * 2 ^ r := Int.mul_nonneg h0 (Int.le_of_lt hp)
  have e2 : IntKind.u64.wrap (x * 2 ^ r) = (x % 2 ^ (64 - r)) * 2 ^ r := by rw [IntKind.wrap_u64, e]
  rw [e2, or_comm64 _ _ hc (by omega) h4 (by omega), or_parts _ _ r h0 hc hcr (by omega), e, Int.add_comm]

/-- What a shift down by the rest takes. -/
theorem shr_shl (x : Int) (r : Nat) (hr : r ≤ 64) : x / 2 ^ (64 - r) = (x * 2 ^ r) / 18446744073709551616 := by
  rw [pow2_split hr, Int.mul_ediv_mul_of_pos_left _ _ (pow2_pos r)]

theorem up_step {o m : List Int} {q i : Nat} {x c P : Int} (hi : i < m.length) (hx : x = m.getD i 0) (hp : q + i + 1 < o.length) (hc : o.getD (q + i) 0 = c) (hz : o.getD (q + i + 1) 0 = 0)
    (hv : vb B64 o = B64 ^ q * (P * vb B64 (m.take i))) :
    vb B64 ((o.set (q + i) (c + (x * P) % 18446744073709551616)).set (q + i + 1) (x * P / 18446744073709551616)) = B64 ^ q * (P * vb B64 (m.take (i + 1))) := by
  rw [vb_set _ _ _ _ (by rw [List.length_set]; exact hp), vb_set _ _ _ _ (by omega), getD_set_other _ (by omega), hc, hz, hv, vb_take_succ B64 hi, ← hx, Int.pow_succ, Int.mul_assoc, Int.add_assoc, ← Int.mul_add]
  have e : c + x * P % 18446744073709551616 - c + B64 * (x * P / 18446744073709551616 - 0) = x * P := by unfold B64; omega
  rw [e, Int.mul_add, Int.mul_add, Int.pow_add]
  have e2 : B64 ^ q * (P * (B64 ^ i * x)) = B64 ^ q * B64 ^ i * (x * P) := by
    rw [Int.mul_assoc, Int.mul_comm P, Int.mul_assoc]
  rw [e2]

theorem pow2_words (k : Nat) : (2 : Int) ^ k = B64 ^ (k / 64) * 2 ^ (k % 64) := by
  have e : B64 ^ (k / 64) = 2 ^ (64 * (k / 64)) := by
    rw [Int.pow_mul]; rfl
  rw [e, ← Int.pow_add]
  congr 1
  omega

theorem getD_rep (n j : Nat) : (List.replicate n (0 : Int)).getD j 0 = 0 := by
  rw [List.getD_eq_getElem?_getD, List.getElem?_replicate]
  split <;> rfl
theorem or_lt (c x : Int) : bits .or .u64 c (IntKind.u64.wrap x) < 18446744073709551616 := by
  show IntKind.u64.wrap _ < _
  rw [IntKind.wrap_u64]
  omega

theorem tlen_zero_vb {l : List Int} (h : tlen l = 0) : vb B64 l = 0 := by
  rw [← vb_tr, tr, h]; rfl

set_option maxRecDepth 100000 in
set_option maxHeartbeats 4000000 in
theorem shiftUp_any (ao : Option Addr) (n cap : Nat) (l : List Int) (k : Nat) (w : World) (hn : n = l.length) (h1 : n ≤ cap) (h2 : cap ≤ 9223372036854775807) (h : Rd w ao l) (hl : Lim B64 l) (hk : k ≤ 16777216) (hM : n + 300000 ≤ MaxW) :
    Calls Tryz.prog 34 #[.slice ao n cap, .int .i64 k] w fun e w' => RetNum w (vb B64 l * 2 ^ k) e w' := by
  have ht := tlen_le l
  have HT := Lib.hid (trim_any ao n cap l w hn h1 h2 h)
  obtain ⟨t, hte⟩ : ∃ t, t = tlen l := ⟨_, rfl⟩
  have htn : t ≤ n := by omega
  have htc : t ≤ cap := by omega
  rw [← hte] at HT
  have HTE := Lib.hid hte
  have hM2 := hM
  unfold MaxW at hM2
  clear hn ht
  by_cases h0 : t = 0
  · have hz : ((t : Int) == 0) = true := by rw [h0]; rfl
    have hv : vb B64 l = 0 := tlen_zero_vb (by rw [← HTE.out, h0])
    have HV := Lib.hid hv
    clear hv hte h0
    go_enter Tryz.func34, Tryz.ntmps34
    go_wp2_with (go_at_call 28; refine HT.out.mono ?_; rintro e w' ⟨rfl, rfl⟩)
    go_ret
    exact ⟨_, [], rfl, Ow.nil _ _, Can.nil _, by rw [HV.out]; simp, Below.refl _ _⟩
  · have hz : ((t : Int) == 0) = false := by rw [beq_eq_false_iff_ne]; omega
    obtain ⟨m, hm⟩ : ∃ m, m = tr l := ⟨_, rfl⟩
    have hml : m.length = t := by rw [hm, tr_length, hte]
    have hcan : Can B64 m := by rw [hm]; exact can_tr hl
    have hvm : vb B64 m = vb B64 l := by rw [hm, vb_tr]
    have hrd : Rd w ao m := by rw [hm]; exact h.take _
    have HML := Lib.hid hml
    have HVM := Lib.hid hvm
    obtain ⟨b, off, rfl, hat⟩ := hrd.cases (by intro e; rw [e] at hml; simp at hml; omega)
    obtain ⟨q, hq⟩ : ∃ q, q = k / 64 := ⟨_, rfl⟩
    obtain ⟨r, hr⟩ : ∃ r, r = k % 64 := ⟨_, rfl⟩
    have hq1 : ((k : Int)).tdiv 64 = (q : Int) := by rw [Int.tdiv_eq_ediv_of_nonneg (by omega)]; omega
    have hr1 : ((k : Int)).tmod 64 = (r : Int) := by rw [Int.tmod_eq_emod_of_nonneg (by omega)]; omega
    have hr63 : r ≤ 63 := by omega
    have hqb : q ≤ 262144 := by omega
    have hpow : (2 : Int) ^ k = B64 ^ q * 2 ^ r := by rw [hq, hr]; exact pow2_words k
    have HPOW := Lib.hid hpow
    obtain ⟨N, hN⟩ : ∃ N, q + t + 1 = N := ⟨_, rfl⟩
    have hNI : (q : Int) + (t : Int) + 1 = (N : Int) := by omega
    have hNM : N ≤ MaxW := by omega
    have hN63 : N ≤ 17592186344416 := by omega
    have HQ := Lib.hid hq
    have HR := Lib.hid hr
    have HN := Lib.hid hN
    clear hq hr hpow hN hm hml hvm hrd h hte
    go_enter Tryz.func34, Tryz.ntmps34
    go_wp2_with (first
      | (go_at_call 28; refine HT.out.mono ?_; rintro e w' ⟨rfl, rfl⟩)
      | (at_make; refine wpList_make_words w rfl (.tmp 23) (.tmp 23) 36 rfl Tryz.underlying36 info_u64 _ _ N rfl rfl (by omega) (by omega) hNM ?_; intro w1 hw1 hb1 hs1))
    go_loopw [27] (fun ii wr => ∃ (i : Nat) (o : List Int), i ≤ t ∧ ii = .int .i64 i ∧ Hid (o.length = N) ∧ Lim B64 o ∧ Arr wr w.heap.size 0 o ∧ Only w.heap.size 0 N w1 wr ∧ Hid (o.getD (q + i) 0 < 2 ^ r) ∧ Hid (∀ j, q + i < j → o.getD j 0 = 0) ∧ Hid (vb B64 o = B64 ^ q * (2 ^ r * vb B64 (m.take i))))
      (fun ii _ => t - (intOf ii).toNat)
    case atStart => exact ⟨0, List.replicate N 0, Nat.zero_le _, rfl, by show _ = _; simp, Lim.replicate B64_pos N, hw1.arr.1, Only.refl _ _ _ _, by rw [getD_rep]; exact pow2_pos r, fun j _ => getD_rep N j, by show _ = _; rw [vb_replicate]; simp⟩
    case round =>
      obtain ⟨i, o, hi, rfl, HL, hlim, harr, honly, HC, HZ, HV⟩ := hrel
      by_cases hlt : i < t
      · have hbw : Below w.heap.size w wr := hb1.trans (honly.below (Nat.le_refl _) (by omega))
        obtain ⟨x, hxe⟩ : ∃ x, x = m.getD i 0 := ⟨_, rfl⟩
        have bx : 0 ≤ x ∧ x < B64 := by rw [hxe]; exact hcan.lim.getD B64_pos _
        have bx0 : 0 ≤ x := bx.1
        have bx1 : x ≤ 18446744073709551615 := by have := bx.2; unfold B64 at this; omega
        have hcx : wr.cell? ⟨b, off + i, none⟩ = some (.int .u64 x) := by rw [hxe]; exact hat.below hbw i (by rw [HML.out]; exact hlt)
        obtain ⟨p, hp⟩ : ∃ p, q + i = p := ⟨_, rfl⟩
        have hNo := HN.out
        have hpN : p + 1 < N := by omega
        have hpN2 : p < N := by omega
        have hpI : (q : Int) + (i : Int) = (p : Int) := by omega
        obtain ⟨c, hce⟩ : ∃ c, c = o.getD p 0 := ⟨_, rfl⟩
        have bc : 0 ≤ c := by rw [hce]; exact (hlim.getD B64_pos _).1
        have bcr : c < 2 ^ r := by rw [hce, ← hp]; exact HC.out
        have hco : wr.cell? ⟨w.heap.size, p, none⟩ = some (.int .u64 c) := by
          rw [hce]
          have := harr.at' p (by rw [HL.out]; exact hpN2)
          rwa [Nat.zero_add] at this
        have hfr := harr.frozen p
        obtain ⟨y, hy⟩ : ∃ y, y = c + (x * 2 ^ r) % 18446744073709551616 := ⟨_, rfl⟩
        have hor : bits .or .u64 c (IntKind.u64.wrap (x * 2 ^ r)) = y := by rw [hy]; exact or_shl c x r (by omega) bc bcr bx0
        obtain ⟨z, hze⟩ : ∃ z, z = x * 2 ^ r / 18446744073709551616 := ⟨_, rfl⟩
        have hsh : x / 2 ^ (64 - r) = z := by rw [hze]; exact shr_shl x r (by omega)
        have hzr : z < 2 ^ r := by
          rw [hze]
          refine Int.ediv_lt_of_lt_mul (by decide) ?_
          rw [Int.mul_comm]
          have := Int.mul_lt_mul_of_pos_left (show x < 18446744073709551616 by omega) (pow2_pos r)
          exact this
        have hz0 : 0 ≤ z := by rw [hze]; exact Int.ediv_nonneg (Int.mul_nonneg bx0 (Int.le_of_lt (pow2_pos r))) (by decide)
        have hr64 : (2 : Int) ^ r ≤ 18446744073709551616 := by
          rw [pow2_split (show r ≤ 64 by omega)]
          have h5 := Int.mul_le_mul_of_nonneg_right (show (1 : Int) ≤ 2 ^ (64 - r) from pow2_pos _) (Int.le_of_lt (pow2_pos r))
          omega
        have hy01 : 0 ≤ y ∧ y < B64 := by
          rw [← hor]
          unfold B64
          have hw0 := or_shl c x r (by omega) bc bcr bx0
          rw [hw0]
          have h6 : 0 ≤ (x * 2 ^ r) % 18446744073709551616 := Int.emod_nonneg _ (by decide)
          refine ⟨by omega, ?_⟩
          rw [← hw0]
          exact or_lt c (x * 2 ^ r)
        have hst := up_step (o := o) (m := m) (q := q) (i := i) (x := x) (c := c) (P := 2 ^ r) (by rw [HML.out]; exact hlt) hxe (by rw [HL.out, hp]; exact hpN) (by rw [hp]; exact hce.symm) (HZ.out _ (by omega)) HV.out
        rw [← hy, ← hze, hp] at hst
        have HST := Lib.hid hst
        have HZR := Lib.hid hzr
        have HY := Lib.hid hy01
        have HP := Lib.hid hp
        clear hst hzr hy hze hxe hce bx hp hNo hr64 hy01
        go_wp2_with fail
        go_region
        have harr2 : Arr (wr.setCell ⟨w.heap.size, p, none⟩ (.int .u64 y)) w.heap.size 0 (o.set p y) := by
          have := harr.store p y
          rwa [Nat.zero_add] at this
        have hcp1 : (wr.setCell ⟨w.heap.size, p, none⟩ (.int .u64 y)).cell? ⟨w.heap.size, p + 1, none⟩ = some (.int .u64 0) := by
          have h7 := harr2.at' (p + 1) (by rw [List.length_set, HL.out]; exact hpN)
          rw [Nat.zero_add, getD_set_other _ (by omega), HZ.out (p + 1) (by have := HP.out; omega)] at h7
          exact h7
        have hfp1 : (wr.setCell ⟨w.heap.size, p, none⟩ (.int .u64 y)).frozen? ⟨w.heap.size, p + 1, none⟩ = false := harr2.frozen (p + 1)
        go_wp2_with fail
        go_roundw
        case rel =>
          have hp' := HP.out
          have harr3 := harr2.store (p + 1) z
          rw [Nat.zero_add] at harr3
          have hon3 : Only w.heap.size 0 N wr ((wr.setCell ⟨w.heap.size, p, none⟩ (.int .u64 y)).setCell ⟨w.heap.size, p + 1, none⟩ (.int .u64 z)) := (Only.store p _ (by omega) (by omega)).trans (Only.store (p + 1) _ (by omega) (by omega))
          refine ⟨i + 1, (o.set p y).set (p + 1) z, by omega, by go_num, ?_, (hlim.set p HY.out.1 HY.out.2).set (p + 1) hz0 ?_, harr3, (honly.trans hon3).trans (Only.of_below ((Below.refl _ _).drew)), ?_, ?_, HST.out⟩
          · show _ = _
            rw [List.length_set, List.length_set]; exact HL.out
          · have h8 := HZR.out
            have h9 : (2 : Int) ^ r ≤ B64 := by
              unfold B64
              rw [pow2_split (show r ≤ 64 by omega)]
              have h5 := Int.mul_le_mul_of_nonneg_right (show (1 : Int) ≤ 2 ^ (64 - r) from pow2_pos _) (Int.le_of_lt (pow2_pos r))
              omega
            omega
          · show _ < _
            rw [show q + (i + 1) = p + 1 by omega, getD_set_same (by rw [List.length_set, HL.out]; exact hpN)]
            exact HZR.out
          · intro j hj
            rw [getD_set_other _ (by omega), getD_set_other _ (by omega)]
            exact HZ.out j (by omega)
        case measure => simp [intOf]; omega
      · have hit : i = m.length := by rw [HML.out]; omega
        have hv : vb B64 o = vb B64 l * 2 ^ k := by
          have h8 := HV.out
          rw [hit, List.take_length, HVM.out, ← Int.mul_assoc, ← HPOW.out, Int.mul_comm] at h8
          exact h8
        have HVO := Lib.hid hv
        have hOo : Ow w.heap.size wr (.slice (some ⟨w.heap.size, 0, none⟩) N N) o := hw1.only honly harr (by rw [HL.out, List.length_replicate])
        have hbw : Below w.heap.size w wr := hb1.trans (honly.below (Nat.le_refl _) (by omega))
        have hrd : Rd wr (some ⟨w.heap.size, 0, none⟩) o := Rd.of_at harr.at'
        have htl := tlen_le o
        rw [HL.out] at htl
        clear hit hv HV HZ HC
        go_wp2_with (go_at_call 28; refine (trim_any (some ⟨w.heap.size, 0, none⟩) N N o _ HL.out.symm (Nat.le_refl _) (by omega) hrd).mono ?_; rintro e w' ⟨rfl, rfl⟩)
        go_ret
        exact ⟨_, tr o, rfl, hOo.take (tlen o) htl, can_tr hlim, by rw [vb_tr]; exact HVO.out, hbw⟩


theorem down_first {o m : List Int} {x r : Int} (ho : 0 < o.length) (hm : 0 < m.length) (hx : x = m.getD 0 0) :
    vb B64 ((o.set 0 (x / r)).take (0 + 1)) = vb B64 (m.take (0 + 1)) / r := by
  rw [vb_take_succ B64 hm, vb_take_succ B64 (by rw [List.length_set]; exact ho), getD_set_same ho, ← hx]
  simp

theorem down_step {o m : List Int} {j : Nat} {x d : Int} {r : Nat} (hr : r ≤ 63) (ho : j + 1 < o.length) (hm : j + 1 < m.length) (hx : x = m.getD (j + 1) 0) (hd : d = o.getD j 0)
    (hv : vb B64 (o.take (j + 1)) = vb B64 (m.take (j + 1)) / 2 ^ r) :
    vb B64 (((o.set (j + 1) (x / 2 ^ r)).set j (d + (x * 2 ^ (64 - r)) % 18446744073709551616)).take (j + 1 + 1)) = vb B64 (m.take (j + 1 + 1)) / 2 ^ r := by
  have hp := pow2_pos r
  have e0 : (o.set (j + 1) (x / 2 ^ r)).take j = o.take j := List.take_set_of_le (by omega)
  have e1 : ((o.set (j + 1) (x / 2 ^ r)).set j (d + (x * 2 ^ (64 - r)) % 18446744073709551616)).take j = o.take j := by
    rw [List.take_set_of_le (Nat.le_refl _), e0]
  have l1 : ((o.set (j + 1) (x / 2 ^ r)).set j (d + (x * 2 ^ (64 - r)) % 18446744073709551616)).length = o.length := by rw [List.length_set, List.length_set]
  rw [vb_take_succ B64 (by omega), vb_take_succ B64 (by omega), e1, getD_set_same (by rw [List.length_set]; omega), getD_set_other _ (by omega), getD_set_same (by omega)]
  rw [vb_take_succ B64 (l := m) hm, ← hx]
  rw [vb_take_succ B64 (l := o) (by omega), ← hd] at hv
  have hs := shr_shl x (64 - r) (by omega)
  rw [show 64 - (64 - r) = r by omega] at hs
  have hb : d + (x * 2 ^ (64 - r)) % 18446744073709551616 + B64 * (x / 2 ^ r) = d + x * 2 ^ (64 - r) := by
    rw [hs]; unfold B64; omega
  have e2 : vb B64 (o.take j) + B64 ^ j * (d + (x * 2 ^ (64 - r)) % 18446744073709551616) + B64 ^ (j + 1) * (x / 2 ^ r) = vb B64 (o.take j) + B64 ^ j * d + B64 ^ j * (x * 2 ^ (64 - r)) := by
    rw [Int.pow_succ, Int.mul_assoc, Int.add_assoc, ← Int.mul_add, hb, Int.mul_add]
    omega
  rw [e2, hv]
  have e3 : B64 ^ (j + 1) * x = (B64 ^ j * (x * 2 ^ (64 - r))) * 2 ^ r := by
    have h64 : (B64 : Int) = 2 ^ (64 - r) * 2 ^ r := pow2_split (by omega)
    rw [Int.pow_succ, Int.mul_assoc, Int.mul_assoc, Int.mul_assoc, ← h64, Int.mul_comm B64 x]
  rw [e3, Int.add_mul_ediv_right _ _ (by omega)]

/-- The words above the q-th. -/
theorem vb_drop_div {m : List Int} (h : Lim B64 m) (q : Nat) (hq : q ≤ m.length) : vb B64 (m.drop q) = vb B64 m / B64 ^ q := by
  have h1 := vb_split B64 m q hq
  have h2 := vb_lt B64_pos (h.take q)
  rw [List.length_take, Nat.min_eq_left hq] at h2
  have h3 := vb_nonneg B64_pos (h.take q)
  rw [h1, Int.add_mul_ediv_left _ _ (by have := pow_pos' B64_pos q; omega), Int.ediv_eq_zero_of_lt h3 h2]
  omega

set_option maxRecDepth 100000 in
set_option maxHeartbeats 4000000 in
theorem shiftDown_any (ao : Option Addr) (n cap : Nat) (l : List Int) (k : Nat) (w : World) (hn : n = l.length) (h1 : n ≤ cap) (h2 : cap ≤ 9223372036854775807) (h : Rd w ao l) (hl : Lim B64 l) (hk : k ≤ 16777216) (hM : n ≤ MaxW) :
    Calls Tryz.prog 35 #[.slice ao n cap, .int .i64 k] w fun e w' => RetNum w (vb B64 l / 2 ^ k) e w' := by
  have ht := tlen_le l
  have HT := Lib.hid (trim_any ao n cap l w hn h1 h2 h)
  obtain ⟨t, hte⟩ : ∃ t, t = tlen l := ⟨_, rfl⟩
  have htn : t ≤ n := by omega
  have htc : t ≤ cap := by omega
  rw [← hte] at HT
  have HTE := Lib.hid hte
  have hM2 := hM
  unfold MaxW at hM2
  clear hn ht
  obtain ⟨m, hm⟩ : ∃ m, m = tr l := ⟨_, rfl⟩
  have hml : m.length = t := by rw [hm, tr_length, hte]
  have hcan : Can B64 m := by rw [hm]; exact can_tr hl
  have hvm : vb B64 m = vb B64 l := by rw [hm, vb_tr]
  have hrd : Rd w ao m := by rw [hm]; exact h.take _
  have HML := Lib.hid hml
  have HVM := Lib.hid hvm
  obtain ⟨q, hq⟩ : ∃ q, q = k / 64 := ⟨_, rfl⟩
  obtain ⟨r, hr⟩ : ∃ r, r = k % 64 := ⟨_, rfl⟩
  have hq1 : ((k : Int)).tdiv 64 = (q : Int) := by rw [Int.tdiv_eq_ediv_of_nonneg (by omega)]; omega
  have hr1 : ((k : Int)).tmod 64 = (r : Int) := by rw [Int.tmod_eq_emod_of_nonneg (by omega)]; omega
  have hr63 : r ≤ 63 := by omega
  have hqb : q ≤ 262144 := by omega
  have hpow : (2 : Int) ^ k = B64 ^ q * 2 ^ r := by rw [hq, hr]; exact pow2_words k
  have HPOW := Lib.hid hpow
  have HQ := Lib.hid hq
  have HR := Lib.hid hr
  clear hq hr hpow hm hml hvm h hte
  by_cases h0 : t ≤ q
  · have hv : vb B64 l / 2 ^ k = 0 := by
      rw [← HVM.out]
      refine Int.ediv_eq_zero_of_lt (vb_nonneg B64_pos hcan.lim) ?_
      have h3 := vb_lt B64_pos hcan.lim
      rw [HML.out] at h3
      have h4 := pow_le_pow B64_pos h0
      rw [HPOW.out]
      have h5 := Int.mul_le_mul_of_nonneg_left (show (1 : Int) ≤ 2 ^ r from pow2_pos r) (Int.le_of_lt (pow_pos' B64_pos q))
      omega
    have HV := Lib.hid hv
    have hqt : (t : Int) ≤ (q : Int) := by omega
    clear hv
    go_enter Tryz.func35, Tryz.ntmps35
    go_wp2_with (go_at_call 28; refine HT.out.mono ?_; rintro e w' ⟨rfl, rfl⟩)
    go_ret
    exact ⟨_, [], rfl, Ow.nil _ _, Can.nil _, by rw [HV.out]; rfl, Below.refl _ _⟩
  · have hqt : ¬ (t : Int) ≤ (q : Int) := by omega
    have hqt2 : (q : Int) < (t : Int) := by omega
    obtain ⟨b, off, rfl, hat⟩ := hrd.cases (by intro e; have := HML.out; rw [e] at this; simp at this; omega)
    obtain ⟨u, hu⟩ : ∃ u, t - q = u := ⟨_, rfl⟩
    have huI : (t : Int) - (q : Int) = (u : Int) := by omega
    have huM : u ≤ MaxW := by unfold MaxW; omega
    have hu63 : u ≤ 17592186044416 := by omega
    have HU := Lib.hid hu
    clear hrd
    go_enter Tryz.func35, Tryz.ntmps35
    go_wp2_with (first
      | (go_at_call 28; refine HT.out.mono ?_; rintro e w' ⟨rfl, rfl⟩)
      | (at_make; refine wpList_make_words w rfl (.tmp 24) (.tmp 24) 36 rfl Tryz.underlying36 info_u64 _ _ u rfl rfl (by omega) (by omega) huM ?_; intro w1 hw1 hb1 hs1))
    obtain ⟨md, hmd⟩ : ∃ md, md = m.drop q := ⟨_, rfl⟩
    have hmdl : md.length = u := by rw [hmd, List.length_drop, HML.out, HU.out]
    have hlimd : Lim B64 md := by rw [hmd]; exact hcan.lim.drop q
    have hatd : At w b (off + q) md := by rw [hmd]; exact hat.drop q
    have hvd : vb B64 md / 2 ^ r = vb B64 l / 2 ^ k := by
      rw [hmd, vb_drop_div hcan.lim q (by rw [HML.out]; omega), HPOW.out, HVM.out, Int.ediv_ediv_of_nonneg (Int.le_of_lt (pow_pos' B64_pos q))]
    have HMDL := Lib.hid hmdl
    have HVD := Lib.hid hvd
    clear hmd hmdl hvd hat HVM HML HPOW HT
    go_loopw [28] (fun ii wr => ∃ (i : Nat) (o : List Int), i ≤ u ∧ ii = .int .i64 i ∧ Hid (o.length = u) ∧ Lim B64 o ∧ Arr wr w.heap.size 0 o ∧ Only w.heap.size 0 u w1 wr ∧ Hid (0 < i → o.getD (i - 1) 0 < 2 ^ (64 - r)) ∧ Hid (vb B64 (o.take i) = vb B64 (md.take i) / 2 ^ r))
      (fun ii _ => u - (intOf ii).toNat)
    case atStart => exact ⟨0, List.replicate u 0, Nat.zero_le _, rfl, by show _ = _; simp, Lim.replicate B64_pos u, hw1.arr.1, Only.refl _ _ _ _, fun h => absurd h (Nat.lt_irrefl _), by show _ = _; simp⟩
    case round =>
      obtain ⟨i, o, hi, rfl, HL, hlim, harr, honly, HC, HV⟩ := hrel
      by_cases hlt : i < u
      · have hbw : Below w.heap.size w wr := hb1.trans (honly.below (Nat.le_refl _) (by omega))
        obtain ⟨x, hxe⟩ : ∃ x, x = md.getD i 0 := ⟨_, rfl⟩
        have bx : 0 ≤ x ∧ x < B64 := by rw [hxe]; exact hlimd.getD B64_pos _
        have bx0 : 0 ≤ x := bx.1
        have bx1 : x ≤ 18446744073709551615 := by have := bx.2; unfold B64 at this; omega
        have hcx : wr.cell? ⟨b, off + q + i, none⟩ = some (.int .u64 x) := by rw [hxe]; exact hatd.below hbw i (by rw [HMDL.out]; exact hlt)
        obtain ⟨c0, hc0⟩ : ∃ c0, c0 = o.getD i 0 := ⟨_, rfl⟩
        have hci : wr.cell? ⟨w.heap.size, i, none⟩ = some (.int .u64 c0) := by
          rw [hc0]
          have := harr.at' i (by rw [HL.out]; exact hlt)
          rwa [Nat.zero_add] at this
        have hfr := harr.frozen i
        obtain ⟨z, hze⟩ : ∃ z, x / 2 ^ r = z := ⟨_, rfl⟩
        have hz0 : 0 ≤ z := by rw [← hze]; exact Int.ediv_nonneg bx0 (Int.le_of_lt (pow2_pos r))
        have hzx : z ≤ x := by rw [← hze]; exact Int.ediv_le_self _ bx0
        have hzB : z < 2 ^ (64 - r) := by
          rw [← hze]
          refine Int.ediv_lt_of_lt_mul (pow2_pos r) ?_
          rw [← pow2_split (show r ≤ 64 by omega)]
          omega
        have HZB := Lib.hid hzB
        have harr2 : Arr (wr.setCell ⟨w.heap.size, i, none⟩ (.int .u64 z)) w.heap.size 0 (o.set i z) := by
          have := harr.store i z
          rwa [Nat.zero_add] at this
        by_cases hi0 : 0 < i
        · obtain ⟨j, hj⟩ : ∃ j, i - 1 = j := ⟨_, rfl⟩
          have hjI : (i : Int) - 1 = (j : Int) := by omega
          have hju : j < u := by omega
          have hi1 : (0 : Int) < (i : Int) := by omega
          obtain ⟨d, hd⟩ : ∃ d, d = o.getD j 0 := ⟨_, rfl⟩
          have hd0 : 0 ≤ d := by rw [hd]; exact (hlim.getD B64_pos _).1
          have hdr : d < 2 ^ (64 - r) := by rw [hd, ← hj]; exact HC.out hi0
          obtain ⟨y, hy⟩ : ∃ y, y = d + (x * 2 ^ (64 - r)) % 18446744073709551616 := ⟨_, rfl⟩
          have hor : bits .or .u64 d (IntKind.u64.wrap (x * 2 ^ (64 - r))) = y := by rw [hy]; exact or_shl d x (64 - r) (by omega) hd0 hdr bx0
          have hy0 : 0 ≤ y := by
            rw [hy]
            have := Int.emod_nonneg (x * 2 ^ (64 - r)) (show (18446744073709551616 : Int) ≠ 0 by decide)
            omega
          have hy1 : y < B64 := by rw [← hor]; unfold B64; exact or_lt _ _
          have hcj : (wr.setCell ⟨w.heap.size, i, none⟩ (.int .u64 z)).cell? ⟨w.heap.size, j, none⟩ = some (.int .u64 d) := by
            have h7 := harr2.at' j (by rw [List.length_set, HL.out]; exact hju)
            rw [Nat.zero_add, getD_set_other _ (by omega), ← hd] at h7
            exact h7
          have hfj : (wr.setCell ⟨w.heap.size, i, none⟩ (.int .u64 z)).frozen? ⟨w.heap.size, j, none⟩ = false := harr2.frozen j
          have hij : i = j + 1 := by omega
          have hst := down_step (o := o) (m := md) (j := j) (x := x) (d := d) (r := r) hr63 (by rw [HL.out]; omega) (by rw [HMDL.out]; omega) (by rw [← hij]; exact hxe) hd (by rw [← hij]; exact HV.out)
          rw [hze, ← hy, ← hij] at hst
          have HST := Lib.hid hst
          have HIJ := Lib.hid hij
          clear hst hy hd hxe hc0 bx hij hj hdr hzB HV
          go_wp2_with fail
          go_region
          go_wp2_with fail
          go_roundw
          case rel =>
            have hij := HIJ.out
            have harr3 := harr2.store j y
            rw [Nat.zero_add] at harr3
            have hon3 : Only w.heap.size 0 u wr ((wr.setCell ⟨w.heap.size, i, none⟩ (.int .u64 z)).setCell ⟨w.heap.size, j, none⟩ (.int .u64 y)) := (Only.store i _ (by omega) (by omega)).trans (Only.store j _ (by omega) (by omega))
            refine ⟨i + 1, (o.set i z).set j y, by omega, by go_num, ?_, (hlim.set i hz0 (by unfold B64; omega)).set j hy0 hy1, harr3, (honly.trans hon3).trans (Only.of_below ((Below.refl _ _).drew)), ?_, HST.out⟩
            · show _ = _
              rw [List.length_set, List.length_set]; exact HL.out
            · intro _
              rw [Nat.add_sub_cancel, getD_set_other _ (by omega), getD_set_same (by rw [HL.out]; exact hlt)]
              exact HZB.out
          case measure => simp [intOf]; omega
        · have hiz : i = 0 := by omega
          subst hiz
          rw [Nat.add_zero] at hcx
          have hst := down_first (o := o) (m := md) (x := x) (r := 2 ^ r) (by rw [HL.out]; exact hlt) (by rw [HMDL.out]; exact hlt) hxe
          rw [hze] at hst
          have HST := Lib.hid hst
          clear hst hxe hc0 bx hzB HV hi0
          go_wp2_with fail
          go_roundw
          case rel =>
            refine ⟨0 + 1, o.set 0 z, by omega, by go_num, ?_, hlim.set 0 hz0 (by unfold B64; omega), harr2, honly.trans (Only.store 0 _ (by omega) (by omega)), ?_, HST.out⟩
            · show _ = _
              rw [List.length_set]; exact HL.out
            · intro _
              rw [Nat.add_sub_cancel, getD_set_same (by rw [HL.out]; exact hlt)]
              exact HZB.out
          case measure => simp [intOf]; omega
      · have hiu : i = u := by omega
        have hv : vb B64 o = vb B64 l / 2 ^ k := by
          have h8 := HV.out
          rw [List.take_of_length_le (l := o) (by rw [HL.out]; omega), List.take_of_length_le (l := md) (by rw [HMDL.out]; omega), HVD.out] at h8
          exact h8
        have HVO := Lib.hid hv
        have hOo : Ow w.heap.size wr (.slice (some ⟨w.heap.size, 0, none⟩) u u) o := hw1.only honly harr (by rw [HL.out, List.length_replicate])
        have hbw : Below w.heap.size w wr := hb1.trans (honly.below (Nat.le_refl _) (by omega))
        have hrdo : Rd wr (some ⟨w.heap.size, 0, none⟩) o := Rd.of_at harr.at'
        have htl := tlen_le o
        rw [HL.out] at htl
        clear hiu hv HV HC
        go_wp2_with (go_at_call 28; refine (trim_any (some ⟨w.heap.size, 0, none⟩) u u o _ HL.out.symm (Nat.le_refl _) (by omega) hrdo).mono ?_; rintro e w' ⟨rfl, rfl⟩)
        go_ret
        exact ⟨_, tr o, rfl, hOo.take (tlen o) htl, can_tr hlim, by rw [vb_tr]; exact HVO.out, hbw⟩


end Go.Proofs.YthfcncapgfkkjaaGreatDoor

namespace Go.Proofs.YthfcncapgfkkjaaGreatDoor
open Go.RowKit

theorem and_mask (x : Int) (r : Nat) (hr : r ≤ 63) (h0 : 0 ≤ x) (h1 : x < 18446744073709551616) : bits .and .u64 x (2 ^ r - 1) = x % 2 ^ r := by
  obtain ⟨n, rfl⟩ := Int.eq_ofNat_of_zero_le h0
  have h2 : (2:Nat) ^ r ≤ 2 ^ 63 := Nat.pow_le_pow_right (by decide) hr
  have h3 : 1 ≤ (2:Nat) ^ r := Nat.one_le_two_pow
  have e : (2:Int) ^ r - 1 = ((2 ^ r - 1 : Nat) : Int) := by
    rw [Int.natCast_sub h3, Int.natCast_pow]; rfl
  rw [e, bits_and_u64_nat _ _ (by omega) (by omega), Nat.and_two_pow_sub_one_eq_mod, Int.natCast_emod, Int.natCast_pow]
  rfl

/-- What the copy leaves, and its number. -/
theorem low_copy {l : List Int} {N : Nat} (hl : Lim B64 l) : ∃ l0 H, l0 = l.take N ++ (List.replicate N (0 : Int)).drop l.length ∧ l0.length = N ∧ Lim B64 l0 ∧ vb B64 l = vb B64 l0 + B64 ^ N * H := by
  refine ⟨_, vb B64 (l.drop N), rfl, ?_, (hl.take N).app ((Lim.replicate B64_pos N).drop _), ?_⟩
  · rw [List.length_append, List.length_take, List.length_drop, List.length_replicate]; omega
  · rw [vb_append, List.drop_replicate, vb_replicate, Int.mul_zero, Int.add_zero]
    rcases Nat.lt_or_ge l.length N with h | h
    · rw [List.take_of_length_le (by omega), List.drop_of_length_le (by omega)]; simp
    · exact vb_split B64 l N h

theorem low_val {l0 : List Int} {q r k : Nat} {x V H : Int} (hl : l0.length = q + 1) (hlim : Lim B64 l0) (hr : r ≤ 63) (hk : (2:Int) ^ k = B64 ^ q * 2 ^ r) (hx : x = l0.getD q 0) (hV : V = vb B64 l0 + B64 ^ (q + 1) * H) :
    vb B64 (l0.set q (x % 2 ^ r)) = V % 2 ^ k := by
  have e1 := vb_set B64 l0 q (x % 2 ^ r) (by omega)
  have e2 := vb_take_succ B64 (l := l0) (k := q) (by omega)
  rw [List.take_of_length_le (by omega), ← hx] at e2
  have h0 := vb_nonneg B64_pos (hlim.take q)
  have h1 := vb_lt B64_pos (hlim.take q)
  rw [List.length_take, Nat.min_eq_left (by omega)] at h1
  rw [← hx, e2] at e1
  obtain ⟨A, hA⟩ : ∃ A, A = vb B64 (l0.take q) := ⟨_, rfl⟩
  obtain ⟨W, hW⟩ : ∃ W, W = B64 ^ q := ⟨_, rfl⟩
  obtain ⟨P, hP⟩ : ∃ P, P = (2:Int) ^ r := ⟨_, rfl⟩
  have hP0 : 0 < P := by rw [hP]; exact pow2_pos r
  have hW0 : 0 < W := by rw [hW]; exact pow_pos' B64_pos q
  have hPB : (18446744073709551616 : Int) = 2 ^ (64 - r) * P := by rw [hP]; exact pow2_split (by omega)
  have hB : B64 ^ (q + 1) = W * 18446744073709551616 := by rw [Int.pow_succ, ← hW]; rfl
  rw [← hA, ← hW] at e1 e2 h1
  rw [← hA] at h0
  rw [← hW, ← hP] at hk
  rw [← hP] at e1 ⊢
  have hm0 := Int.emod_nonneg x (show P ≠ 0 by omega)
  have hm1 := Int.emod_lt_of_pos x hP0
  have hdm := Int.mul_ediv_add_emod x P
  have hval : vb B64 (l0.set q (x % P)) = A + W * (x % P) := by
    rw [e1]; grind
  rw [hval, hk]
  have e5 : V = (A + W * (x % P)) + (W * P) * (x / P + 2 ^ (64 - r) * H) := by
    rw [hV, e2, hB, hPB]
    grind
  have h5 : W * (x % P + 1) ≤ W * P := Int.mul_le_mul_of_nonneg_left (by omega) (Int.le_of_lt hW0)
  rw [Int.mul_add, Int.mul_one] at h5
  have h6 := Int.mul_nonneg (Int.le_of_lt hW0) hm0
  rw [e5, Int.add_mul_emod_self_left]
  exact (Int.emod_eq_of_lt (a := A + W * (x % P)) (b := W * P) (by omega) (by omega)).symm

set_option maxRecDepth 100000 in
set_option maxHeartbeats 2000000 in
theorem lowBits_any (ao : Option Addr) (n cap : Nat) (l : List Int) (k : Nat) (w : World) (hn : n = l.length) (_h1 : n ≤ cap) (_h2 : cap ≤ 9223372036854775807) (h : Rd w ao l) (hl : Lim B64 l) (hk : k ≤ 16777216) :
    Calls Tryz.prog 64 #[.slice ao n cap, .int .i64 k] w fun e w' => RetNum w (vb B64 l % 2 ^ k) e w' := by
  obtain ⟨q, hq⟩ : ∃ q, q = k / 64 := ⟨_, rfl⟩
  obtain ⟨r, hr⟩ : ∃ r, r = k % 64 := ⟨_, rfl⟩
  have hq1 : ((k : Int)).tdiv 64 = (q : Int) := by rw [Int.tdiv_eq_ediv_of_nonneg (by omega)]; omega
  have hr1 : ((k : Int)).tmod 64 = (r : Int) := by rw [Int.tmod_eq_emod_of_nonneg (by omega)]; omega
  have hr63 : r ≤ 63 := by omega
  have hpow : (2 : Int) ^ k = B64 ^ q * 2 ^ r := by rw [hq, hr]; exact pow2_words k
  obtain ⟨N, hN⟩ : ∃ N, q + 1 = N := ⟨_, rfl⟩
  have hNI : (q : Int) + 1 = (N : Int) := by omega
  have hqN : q < N := by omega
  have hNM : N ≤ MaxW := by unfold MaxW; omega
  have hN63 : N ≤ 17592186044416 := hNM
  have hp1 : (2:Int) ^ r ≤ 9223372036854775808 := by
    have h1 : (2:Int) ^ r ≤ 2 ^ 63 := pow_le_pow (by decide) hr63
    have h2 : (2:Int) ^ 63 = 9223372036854775808 := by decide
    omega
  have hp0 := pow2_pos r

  have hwr : IntKind.u64.wrap ((2:Int) ^ r) = 2 ^ r := by rw [IntKind.wrap_u64]; omega
  have hwr1 : IntKind.u64.wrap (1 * (2:Int) ^ r) = 2 ^ r := by rw [IntKind.wrap_u64]; omega
  have hwr2 : IntKind.u64.wrap ((2:Int) ^ r - 1) = 2 ^ r - 1 := by rw [IntKind.wrap_u64]; omega
  have HPOW := Lib.hid hpow
  have HN := Lib.hid hN
  have HLN := Lib.hid hn
  clear hq hr hpow hN hn
  go_enter Tryz.func64, Tryz.ntmps64
  go_wp2_with (first
    | (at_make; refine wpList_make_words w rfl (.tmp 13) (.tmp 13) 36 rfl Tryz.underlying36 info_u64 _ _ N rfl rfl (by omega) (by omega) hNM ?_; intro w1 hw1 hb1 hs1; have harr1 := hw1.arr.1; have hrd1 := h.below hb1)
    | (with_reducible refine wpList_copy_words rfl (.tmp 15) (.tmp 16) 36 36 rfl Tryz.underlying36 info_u64 w.heap.size 0 N N ao n cap rfl rfl (List.replicate N 0) l List.length_replicate HLN.out.symm harr1 hrd1 ?_; intro w3 ha3 ho3))
  obtain ⟨l0, H, hl0, hlen0, hlim0, hV⟩ := low_copy (N := N) hl
  rw [← HLN.out] at hl0
  rw [← hl0] at ha3
  obtain ⟨x, hx⟩ : ∃ x, x = l0.getD q 0 := ⟨_, rfl⟩
  have hxl := hlim0.getD B64_pos q
  rw [← hx] at hxl
  have hx0 : 0 ≤ x := hxl.1
  have hx1 : x ≤ 18446744073709551615 := by have := hxl.2; unfold B64 at this; omega
  have hcx : w3.cell? ⟨w.heap.size, q, none⟩ = some (.int .u64 x) := by
    have h1 := ha3.at' q (by omega)
    rw [Nat.zero_add, ← hx] at h1; exact h1
  have hfx := ha3.frozen q
  have hand := and_mask x r hr63 hx0 (by omega)
  have hOw := hw1.only ho3 ha3 (by rw [hlen0, List.length_replicate])
  have hV' : vb B64 l = vb B64 l0 + B64 ^ (q + 1) * H := by rw [HN.out]; exact hV
  have hval := low_val (by rw [hlen0, HN.out]) hlim0 hr63 HPOW.out hx hV'
  obtain ⟨z, hz⟩ : ∃ z, z = x % 2 ^ r := ⟨_, rfl⟩
  have harr4 := ha3.store q (x % 2 ^ r)
  rw [Nat.zero_add] at harr4
  have honly : Only w.heap.size 0 N w3 (w3.setCell ⟨w.heap.size, q, none⟩ (.int .u64 (x % 2 ^ r))) := Only.store q _ (Nat.zero_le _) hqN
  have hO4 := hOw.only honly harr4 (by rw [List.length_set])
  have hm0 := Int.emod_nonneg x (show (2:Int) ^ r ≠ 0 by omega)
  have hm1 := Int.emod_lt_of_pos x hp0
  rw [← hz] at hand hval harr4 honly hO4 hm0 hm1
  have hlim4 : Lim B64 (l0.set q z) := hlim0.set q hm0 (by unfold B64; omega)
  have hb3 : Below w.heap.size w w3 := hb1.trans (ho3.below (Nat.le_refl _) hb1.size)
  have hb4 := hb3.trans (honly.below (Nat.le_refl _) hb3.size)
  have HV := Lib.hid hval
  have HL0 := Lib.hid hlen0
  have hwN : IntKind.i64.wrap (q : Int) = (q : Int) := by rw [IntKind.wrap_i64]; omega
  have hO5 := hO4.drew
  have hb5 := bdn hb4 1
  have hrd5 : Rd ((w3.setCell ⟨w.heap.size, q, none⟩ (.int .u64 z)).drew) (some ⟨w.heap.size, 0, none⟩) (l0.set q z) := Rd.of_at hO5.arr.1.at'
  have hlen5 : (l0.set q z).length = N := by rw [List.length_set]; exact HL0.out
  have HL5 := Lib.hid hlen5
  clear hV hV' hx hval hl0 hlen0 hlen5 ho3 hw1 harr1 hrd1 h HPOW hz
  go_region
  go_wp2_with fail
  refine (trim_any _ N N (l0.set q z) _ HL5.out.symm (Nat.le_refl _) (by omega) hrd5).mono ?_
  rintro e w' ⟨rfl, rfl⟩
  go_wp2_with fail
  go_ret
  exact ⟨_, tr (l0.set q z), rfl, hO5.take (tlen (l0.set q z)) (by rw [← HL5.out]; exact tlen_le _), can_tr hlim4, by rw [vb_tr]; exact HV.out, hb5⟩
end Go.Proofs.YthfcncapgfkkjaaGreatDoor

namespace Go.Proofs.YthfcncapgfkkjaaGreatDoor
open Go.RowKit

/-- make([]uint64, k, n), k and n variables. -/
theorem wpList_make_words_cap {P : Program} (w : World) {ops : Array Oper} {rest : List Oper} {o : Oper} {a : Act} {Q : Exit → Act → World → Prop}
    (hg : o.guard = none) (l c : Operand) (t : TypeId) (hop : o.op = Op.makeSlice t l c)
    (h1 : P.underlying t = some (.slice 53)) (hi : (P.info? 53).map (fun i => (i.zero, i.size, i.bytes)) = some (some (.int .u64 0), 1, 8))
    (L C : Int) (k n : Nat) (hl : a.eval l = .int .i64 L) (hc : a.eval c = .int .i64 C) (hL : L = (k : Int)) (hC : C = (n : Int)) (hkn : k ≤ n) (b : n ≤ MaxW)
    (hK : ∀ w', Ow w.heap.size w' (.slice (some ⟨w.heap.size, 0, none⟩) k n) (List.replicate k 0) → Below w.heap.size w w' → w.heap.size < w'.heap.size → wpList P ops Q rest (a.put o.dst (.slice (some ⟨w.heap.size, 0, none⟩) k n)) w') :
    wpList P ops Q (o :: rest) a w := by
  obtain ⟨i, h2, h3, h4, h5⟩ := info_parts hi
  unfold MaxW at b
  have hr := run_make (P := P) w t 53 i (.int .u64 0) h1 h2 h3 .i64 .i64 (k : Int) (n : Int) (by omega) (by omega) (by rw [h5]; omega) (by omega)
  simp only [Int.toNat_natCast] at hr
  have hown0 := World.ownsRow_lit (e := 53) (size := i.size) w (madeCells (Value.int .u64 0).cells (n * i.size)) n (Nat.le_refl _) (by unfold maxLen; omega) (size_madeCells _ _)
  have e : (madeCells (Value.int .u64 0).cells (n * i.size)).toList = vals (List.replicate n 0) := by
    rw [h4, Nat.mul_one, show (Value.int .u64 0).cells = #[.int .u64 0] from rfl, toList_madeCells_one, vals, List.map_replicate]
  rw [e, h4] at hown0
  have hown1 : Ow w.heap.size (w.alloc (.cells (madeCells (Value.int .u64 0).cells (n * i.size)) 53)) (.slice (some ⟨w.heap.size, 0, none⟩) n n) (List.replicate n 0) := by
    unfold Ow; rw [List.length_replicate, h4]; exact hown0
  have hown2 := hown1.take k hkn
  rw [List.take_replicate, Nat.min_eq_left hkn] at hown2
  refine wpList_plain hg fun K hK' => ?_
  subst hL
  subst hC
  unfold Oper.wp
  simp [execOp, hop, hl, hc, hr, Result.andThen]
  exact hK' _ _ (hK _ hown2 ((Below.refl _ _).alloc (Nat.le_refl _) _) (by simp))

theorem rshl_step {o a : List Int} {q i : Nat} {x c v P : Int} (hi : i < a.length) (hx : x = a.getD i 0) (hol : o.length = q + i) (hv : v = x * P + c)
    (h : vb B32 o + B32 ^ (q + i) * c = B32 ^ q * (P * vb B32 (a.take i))) :
    vb B32 (o ++ [v % 4294967296]) + B32 ^ (q + (i + 1)) * (v / 4294967296) = B32 ^ q * (P * vb B32 (a.take (i + 1))) := by
  rw [vb_snoc, hol, vb_take_succ B32 hi, ← hx, ← Nat.add_assoc, Int.pow_succ, Int.mul_assoc, Int.add_assoc, ← Int.mul_add]
  have e : v % 4294967296 + B32 * (v / 4294967296) = c + x * P := by unfold B32; omega
  rw [e, Int.mul_add (B32 ^ (q + i)), ← Int.add_assoc, h, Int.mul_add P, Int.mul_add (B32 ^ q), Int.pow_add]
  have e2 : B32 ^ q * (P * (B32 ^ i * x)) = B32 ^ q * B32 ^ i * (x * P) := by
    rw [Int.mul_assoc, Int.mul_comm P, Int.mul_assoc]
  rw [e2]

theorem pow2_words32 (k : Nat) : (2 : Int) ^ k = B32 ^ (k / 32) * 2 ^ (k % 32) := by
  have e : B32 ^ (k / 32) = 2 ^ (32 * (k / 32)) := by
    rw [Int.pow_mul]; rfl
  rw [e, ← Int.pow_add]
  congr 1
  omega
theorem pow2_le31 {r : Nat} (hr : r ≤ 31) : (2 : Int) ^ r ≤ 2147483648 := by
  have := pow_le_pow (b := 2) (by decide) hr
  exact this

/-- A function has returned a number: a slice of digits with no room behind it. -/
def RetRdF (b : Int) (w : World) (N : Int) (e : Ending) (w' : World) : Prop :=
  ∃ ao n l, e = .returned (.slice ao n n) ∧ n = l.length ∧ n ≤ 9223372036854775807 ∧ Rd w' ao l ∧ Can b l ∧ vb b l = N ∧ Below w.heap.size w w' ∧ ∀ g o, ao = some ⟨g, o, none⟩ → w.heap.size ≤ g
theorem RetRdF.rd {b : Int} {w : World} {N : Int} {e : Ending} {w' : World} (h : RetRdF b w N e w') : RetRd b w N e w' := by
  obtain ⟨ao, n, l, h1, h2, h3, h4⟩ := h
  exact ⟨ao, n, n, l, h1, h2, Nat.le_refl _, h3, h4⟩
set_option maxRecDepth 100000 in
set_option maxHeartbeats 4000000 in
theorem rshl_full (ax : Option Addr) (na ca : Nat) (a : List Int) (k : Nat) (w : World) (hna : na = a.length) (_h1 : na ≤ ca) (_h2 : ca ≤ 9223372036854775807) (hx : Rd w ax a) (hla : Lim B32 a) (hk : k ≤ 16777216) (hM : na + 600000 ≤ MaxW) :
    Calls Tryz.prog 41 #[.slice ax na ca, .int .i64 k] w fun e w' => RetRdF B32 w (vb B32 a * 2 ^ k) e w' := by
  have HA := Lib.hid hna
  have hM2 := hM
  unfold MaxW at hM2
  by_cases h0 : na = 0
  · have hz : ((na : Int) == 0) = true := by rw [h0]; rfl
    have ha0 : a = [] := List.eq_nil_of_length_eq_zero (by omega)
    have HA0 := Lib.hid ha0
    clear hna ha0 h0
    go_enter Tryz.func41, Tryz.ntmps41
    go_wp2
    go_ret
    exact ⟨none, 0, [], rfl, rfl, by omega, Rd.nil _ _, Can.nil _, by rw [HA0.out]; simp, Below.refl _ _, fun g o e => by cases e⟩
  · have hz : ((na : Int) == 0) = false := by rw [beq_eq_false_iff_ne]; omega
    obtain ⟨b, off, rfl, hat⟩ := hx.cases (by intro e; rw [e] at hna; simp at hna; omega)
    obtain ⟨q, hq⟩ : ∃ q, q = k / 32 := ⟨_, rfl⟩
    obtain ⟨r, hr⟩ : ∃ r, r = k % 32 := ⟨_, rfl⟩
    have hq1 : ((k : Int)).tdiv 32 = (q : Int) := by rw [Int.tdiv_eq_ediv_of_nonneg (by omega)]; omega
    have hr1 : ((k : Int)).tmod 32 = (r : Int) := by rw [Int.tmod_eq_emod_of_nonneg (by omega)]; omega
    have hr31 : r ≤ 31 := by omega
    have hqb : q ≤ 524288 := by omega
    have hpow : (2 : Int) ^ k = B32 ^ q * 2 ^ r := by rw [hq, hr]; exact pow2_words32 k
    have hp31 := pow2_le31 hr31
    have hpp := pow2_pos r
    have HPOW := Lib.hid hpow
    obtain ⟨N, hN⟩ : ∃ N, q + na + 1 = N := ⟨_, rfl⟩
    have hNI : (q : Int) + (na : Int) + 1 = (N : Int) := by omega
    have hNM : N ≤ MaxW := by omega
    have hqN : q ≤ N := by omega
    have hN63 : N ≤ 17592186344416 := by omega
    have HN := Lib.hid hN
    obtain ⟨P, hP⟩ : ∃ P : Int, P = 2 ^ r := ⟨_, rfl⟩
    have HP := Lib.hid hP
    rw [← hP] at hp31 hpp HPOW
    clear hq hr hpow hN hna h0 hP
    go_enter Tryz.func41, Tryz.ntmps41
    go_wp2_with (at_make; refine wpList_make_words_cap w rfl (.tmp 13) (.tmp 19) 25 rfl Tryz.underlying25 info_u64 _ _ q N rfl rfl (by omega) (by omega) hqN hNM ?_; intro w1 hw1 hb1 hs1)
    go_loopw [5, 6, 7] (fun vo cc ii wr => ∃ (i : Nat) (c : Int) (o : List Int), i ≤ na ∧ ii = .int .i64 i ∧ cc = .int .u64 c ∧ 0 ≤ c ∧ c < P ∧ Hid (o.length = q + i) ∧ Lim B32 o ∧ Ow w.heap.size wr vo o ∧ Below w.heap.size w wr ∧ Hid (vb B32 o + B32 ^ (q + i) * c = B32 ^ q * (P * vb B32 (a.take i))))
      (fun _ _ ii _ => na - (intOf ii).toNat)
    case atStart => exact ⟨0, 0, List.replicate q 0, Nat.zero_le _, rfl, rfl, Int.le_refl _, hpp, by show _ = _; simp, Lim.replicate B32_pos q, hw1, hb1, by show _ = _; rw [vb_replicate]; simp⟩
    case round =>
      obtain ⟨i, c, o, hi, rfl, rfl, hc0, hc1, HL, hlim, hO, hb, HV⟩ := hrel
      by_cases hlt : i < na
      · obtain ⟨x, hxe⟩ : ∃ x, x = a.getD i 0 := ⟨_, rfl⟩
        have bx : 0 ≤ x ∧ x < 4294967296 := by rw [hxe]; exact hla.getD B32_pos _
        obtain ⟨bx0, bx1⟩ := bx
        have hcx : wr.cell? ⟨b, off + i, none⟩ = some (.int .u64 x) := by rw [hxe]; exact hat.below hb i (by rw [← HA.out]; exact hlt)
        obtain ⟨S, hS⟩ : ∃ S, x * 2 ^ r = S := ⟨_, rfl⟩
        have hSP : x * P = S := by rw [HP.out]; exact hS
        have hS0 : 0 ≤ S := by rw [← hSP]; exact Int.mul_nonneg bx0 (by omega)
        have hS1 : S + P ≤ 4294967296 * P := by
          rw [← hSP]
          have := Int.mul_le_mul_of_nonneg_right (show x + 1 ≤ 4294967296 by omega) (show 0 ≤ P by omega)
          rw [Int.add_mul, Int.one_mul] at this
          exact this
        have hS2 : S ≤ 9223372036854775807 := by omega
        have hst := rshl_step (o := o) (a := a) (q := q) (i := i) (x := x) (c := c) (v := S + c) (P := P) (by rw [← HA.out]; exact hlt) hxe HL.out (by rw [hSP]) HV.out
        have hc2 : (S + c) / 4294967296 < P := Int.ediv_lt_of_lt_mul (by decide) (by omega)
        have HC2 := Lib.hid hc2
        have HST := Lib.hid hst
        have hlen : o.length + 1 ≤ MaxW := by rw [HL.out]; unfold MaxW; omega
        have hbs := hb.size
        clear hst hxe hat hSP hc2
        go_wp2_with (at_builtin; refine wpList_append_words _ rfl _ _ 25 rfl Tryz.underlying25 info_u64 w.heap.size u5 o rfl (hO.alloc _) ⟨wr.heap.size, 0, none⟩ 1 1 [(S + c) % 4294967296] rfl rfl (news1 _ _ _) hlen (by simp; omega) ?_; intro v' w2 hO2 hb2)
        go_roundw
        case rel =>
          refine ⟨i + 1, (S + c) / 4294967296, o ++ [(S + c) % 4294967296], by omega, by go_num, rfl, by omega, HC2.out, ?_, hlim.app (Lim.cons (by omega) (by unfold B32; omega) (Lim.nil _)), hO2, (hb.alloc hbs _).trans hb2, HST.out⟩
          show _ = _
          rw [List.length_append, HL.out]; rfl
        case measure => simp [intOf]; omega
      · have hin : i = na := by omega
        have hlen : o.length + 1 ≤ MaxW := by rw [HL.out]; unfold MaxW; omega
        have hbs := hb.size
        have hlimc : Lim B32 (o ++ [c]) := hlim.app (Lim.cons hc0 (by unfold B32; omega) (Lim.nil _))
        have hv : vb B32 (o ++ [c]) = vb B32 a * 2 ^ k := by
          have h8 := HV.out
          rw [hin, List.take_of_length_le (l := a) (by rw [← HA.out]; exact Nat.le_refl _)] at h8
          rw [vb_snoc, HL.out, hin, h8, HPOW.out, ← Int.mul_assoc, Int.mul_comm]
        have hl2 : (o ++ [c]).length = N := by rw [List.length_append, HL.out, hin, ← HN.out]; rfl
        have HVC := Lib.hid hv
        have HL2 := Lib.hid hl2
        clear hv hin hl2
        go_wp2_with (at_builtin; refine wpList_append_words _ rfl _ _ 25 rfl Tryz.underlying25 info_u64 w.heap.size u5 o rfl (hO.alloc _) ⟨wr.heap.size, 0, none⟩ 1 1 [c] rfl rfl (news1 _ _ _) hlen (by simp; omega) ?_; intro v' w2 hO2 hb2; obtain ⟨ao', cap', rfl, hq1', hq2', hr', hfr'⟩ := hO2.form'; rw [HL2.out] at hq1' ⊢)
        refine (rtrim_any ao' N cap' (o ++ [c]) w2 HL2.out.symm hq1' hq2' hr').mono ?_
        rintro e w' ⟨rfl, rfl⟩
        go_wp2_with fail
        go_ret
        have htl := tlen_le (o ++ [c])
        exact ⟨ao', tlen (o ++ [c]), tr (o ++ [c]), rfl, (tr_length _).symm, by have := HL2.out; omega, hr'.take _, can_tr hlimc, by rw [vb_tr]; exact HVC.out, (hb.alloc hbs _).trans hb2, hfr'⟩

theorem rshl_any (ax : Option Addr) (na ca : Nat) (a : List Int) (k : Nat) (w : World) (hna : na = a.length) (h1 : na ≤ ca) (h2 : ca ≤ 9223372036854775807) (hx : Rd w ax a) (hla : Lim B32 a) (hk : k ≤ 16777216) (hM : na + 600000 ≤ MaxW) :
    Calls Tryz.prog 41 #[.slice ax na ca, .int .i64 k] w fun e w' => RetRd B32 w (vb B32 a * 2 ^ k) e w' :=
  (rshl_full ax na ca a k w hna h1 h2 hx hla hk hM).mono fun _ _ h => h.rd

theorem shr_shl32 (x : Int) (r : Nat) (hr : r ≤ 32) : x / 2 ^ r = (x * 2 ^ (32 - r)) / 4294967296 := by
  have e : (4294967296 : Int) = 2 ^ r * 2 ^ (32 - r) := by rw [← Int.pow_add, show r + (32 - r) = 32 by omega]; rfl
  rw [e, Int.mul_ediv_mul_of_pos_left _ _ (pow2_pos _)]

theorem rshr_step {o m : List Int} {j r : Nat} {x y d : Int} (hr : r ≤ 31) (hj : j + 1 < m.length) (hy : y = m.getD (j + 1) 0) (hol : o.length = j) (hx : d = x / 2 ^ r + (y * 2 ^ (32 - r)) % 4294967296)
    (h : vb B32 o + B32 ^ j * (x / 2 ^ r) = vb B32 (m.take (j + 1)) / 2 ^ r) :
    vb B32 (o ++ [d]) + B32 ^ (j + 1) * (y / 2 ^ r) = vb B32 (m.take (j + 1 + 1)) / 2 ^ r := by
  rw [vb_snoc, hol, hx, vb_take_succ B32 hj, ← hy, Int.pow_succ, Int.mul_assoc, Int.add_assoc, ← Int.mul_add]
  have e : x / 2 ^ r + (y * 2 ^ (32 - r)) % 4294967296 + B32 * (y / 2 ^ r) = x / 2 ^ r + y * 2 ^ (32 - r) := by
    rw [shr_shl32 y r (by omega)]; unfold B32; omega
  rw [e, Int.mul_add, ← Int.add_assoc, h]
  have e3 : B32 ^ j * (B32 * y) = (B32 ^ j * (y * 2 ^ (32 - r))) * 2 ^ r := by
    have h64 : (B32 : Int) = 2 ^ (32 - r) * 2 ^ r := by rw [← Int.pow_add, show 32 - r + r = 32 by omega]; rfl
    rw [Int.mul_assoc, Int.mul_assoc, ← h64, Int.mul_comm B32 y]
  rw [Int.mul_assoc (B32 ^ j) B32 y, e3, Int.add_mul_ediv_right _ _ (by have := pow2_pos r; omega)]

theorem vb_drop_div32 {m : List Int} (h : Lim B32 m) (q : Nat) (hq : q ≤ m.length) : vb B32 (m.drop q) = vb B32 m / B32 ^ q := by
  have h1 := vb_split B32 m q hq
  have h2 := vb_lt B32_pos (h.take q)
  rw [List.length_take, Nat.min_eq_left hq] at h2
  have h3 := vb_nonneg B32_pos (h.take q)
  rw [h1, Int.add_mul_ediv_left _ _ (by have := pow_pos' B32_pos q; omega), Int.ediv_eq_zero_of_lt h3 h2]
  omega

/-- A digit shifted down, and the lower part of the next one, are a digit. -/
theorem rshr_digit {x y : Int} {r : Nat} (hr : r ≤ 31) (hx0 : 0 ≤ x) (hx1 : x < 4294967296) : 0 ≤ x / 2 ^ r ∧ x / 2 ^ r + (y * 2 ^ (32 - r)) % 4294967296 < 4294967296 := by
  have hp := pow2_pos r
  have hp2 := pow2_pos (32 - r)
  have e32 : (4294967296 : Int) = 2 ^ (32 - r) * 2 ^ r := by rw [← Int.pow_add, show 32 - r + r = 32 by omega]; rfl
  refine ⟨Int.ediv_nonneg hx0 (Int.le_of_lt hp), ?_⟩
  have h1 : x / 2 ^ r < 2 ^ (32 - r) := Int.ediv_lt_of_lt_mul hp (by rw [← e32]; exact hx1)
  have h2 : (y * 2 ^ (32 - r)) % 4294967296 = (y % 2 ^ r) * 2 ^ (32 - r) := by
    rw [e32, Int.mul_comm y, Int.mul_emod_mul_of_pos _ _ hp2, Int.mul_comm]
  have h3 : y % 2 ^ r < 2 ^ r := Int.emod_lt_of_pos _ hp
  have h4 := Int.mul_le_mul_of_nonneg_right (show y % 2 ^ r + 1 ≤ 2 ^ r by omega) (Int.le_of_lt hp2)
  rw [Int.add_mul, Int.one_mul, Int.mul_comm (2 ^ r) (2 ^ (32 - r)), ← e32] at h4
  omega

set_option maxRecDepth 100000 in
set_option maxHeartbeats 4000000 in
theorem rshr_any (ax : Option Addr) (na ca : Nat) (a : List Int) (k : Nat) (w : World) (hna : na = a.length) (_h1 : na ≤ ca) (_h2 : ca ≤ 9223372036854775807) (hx : Rd w ax a) (hla : Lim B32 a) (hk : k ≤ 16777216) (hM : na ≤ MaxW) :
    Calls Tryz.prog 42 #[.slice ax na ca, .int .i64 k] w fun e w' => RetRd B32 w (vb B32 a / 2 ^ k) e w' := by
  have HA := Lib.hid hna
  have hM2 := hM
  unfold MaxW at hM2
  obtain ⟨q, hq⟩ : ∃ q, q = k / 32 := ⟨_, rfl⟩
  obtain ⟨r, hr⟩ : ∃ r, r = k % 32 := ⟨_, rfl⟩
  have hq1 : ((k : Int)).tdiv 32 = (q : Int) := by rw [Int.tdiv_eq_ediv_of_nonneg (by omega)]; omega
  have hr1 : ((k : Int)).tmod 32 = (r : Int) := by rw [Int.tmod_eq_emod_of_nonneg (by omega)]; omega
  have hr31 : r ≤ 31 := by omega
  have hqb : q ≤ 524288 := by omega
  have hpow : (2 : Int) ^ k = B32 ^ q * 2 ^ r := by rw [hq, hr]; exact pow2_words32 k
  obtain ⟨m, hm⟩ : ∃ m, m = a.drop q := ⟨_, rfl⟩
  have hml : m.length = na - q := by rw [hm, List.length_drop, hna]
  have hlm : Lim B32 m := by rw [hm]; exact hla.drop q
  have hvm : vb B32 m / 2 ^ r = vb B32 a / 2 ^ k := by
    by_cases hqn : q ≤ a.length
    · rw [hm, vb_drop_div32 hla q hqn, hpow, Int.ediv_ediv_of_nonneg (Int.le_of_lt (pow_pos' B32_pos q))]
    · have e0 : m = [] := by rw [hm]; exact List.drop_eq_nil_of_le (by omega)
      have e1 := vb_lt B32_pos hla
      have e2 := pow_le_pow B32_pos (show a.length ≤ q by omega)
      have e3 := Int.mul_le_mul_of_nonneg_left (show (1 : Int) ≤ 2 ^ r from pow2_pos r) (Int.le_of_lt (pow_pos' B32_pos q))
      rw [e0, hpow, Int.ediv_eq_zero_of_lt (vb_nonneg B32_pos hla) (by omega)]
      simp
  have HML := Lib.hid hml
  have HVM := Lib.hid hvm
  have hgm : ∀ j, m.getD j 0 = a.getD (q + j) 0 := by intro j; rw [hm, getD_drop]
  have HGM := Lib.hid hgm
  clear hq hr hpow hm hml hvm hna hgm
  go_enter Tryz.func42, Tryz.ntmps42
  go_wp2
  go_loopw [5, 6] (fun vo ii wr => ∃ (i j : Nat) (o : List Int), Hid (q + j = i) ∧ ii = .int .i64 i ∧ q ≤ i ∧ (q ≤ na → i ≤ na) ∧ i ≤ 17592186968704 ∧ Hid (o.length = j) ∧ Lim B32 o ∧ Ow w.heap.size wr vo o ∧ Below w.heap.size w wr ∧ Hid (i < na → vb B32 o + B32 ^ j * (m.getD j 0 / 2 ^ r) = vb B32 (m.take (j + 1)) / 2 ^ r) ∧ Hid (na ≤ i → vb B32 o = vb B32 m / 2 ^ r))
    (fun _ ii _ => na - (intOf ii).toNat)
  case atStart =>
    refine ⟨q, 0, [], rfl, rfl, Nat.le_refl _, fun h => h, by omega, rfl, Lim.nil _, Ow.nil _ _, Below.refl _ _, fun h => ?_, fun h => ?_⟩
    · have hl0 : 0 < m.length := by rw [HML.out]; omega
      rw [vb_take_succ B32 hl0]; simp
    · have : m = [] := List.eq_nil_of_length_eq_zero (by rw [HML.out]; omega)
      rw [this]; simp
  case round =>
    obtain ⟨i, j, o, HIJ, rfl, hqi, hin, hib, HL, hlim, hO, hb, HV, HV2⟩ := hrel
    by_cases hlt : i < na
    · obtain ⟨b, off, rfl, hat⟩ := hx.cases (by intro e; have := HA.out; rw [e] at this; simp at this; omega)
      obtain ⟨x, hxe⟩ : ∃ x, x = m.getD j 0 := ⟨_, rfl⟩
      have hxa : x = a.getD i 0 := by rw [hxe, HGM.out, HIJ.out]
      have bx : 0 ≤ x ∧ x < 4294967296 := by rw [hxe]; exact hlm.getD B32_pos _
      obtain ⟨bx0, bx1⟩ := bx
      have hcx : wr.cell? ⟨b, off + i, none⟩ = some (.int .u64 x) := by rw [hxa]; exact hat.below hb i (by rw [← HA.out]; exact hlt)
      obtain ⟨z, hz⟩ : ∃ z, x / 2 ^ r = z := ⟨_, rfl⟩
      have hz0 : 0 ≤ z := by rw [← hz]; exact Int.ediv_nonneg bx0 (Int.le_of_lt (pow2_pos r))
      have hz1 : z < 4294967296 := by rw [← hz]; exact Int.lt_of_le_of_lt (Int.ediv_le_self _ bx0) bx1
      have hlen : o.length + 1 ≤ MaxW := by rw [HL.out]; have := HIJ.out; unfold MaxW; omega
      have hbs := hb.size
      have hij := HIJ.out
      have hV := HV.out hlt
      rw [← hxe] at hV
      by_cases h2 : i + 1 < na
      · have h2I : (i : Int) + 1 < (na : Int) := by omega
        obtain ⟨y, hye⟩ : ∃ y, y = m.getD (j + 1) 0 := ⟨_, rfl⟩
        have hya : y = a.getD (i + 1) 0 := by rw [hye, HGM.out, ← hij]; rfl
        have bY : 0 ≤ y ∧ y < 4294967296 := by rw [hye]; exact hlm.getD B32_pos _
        obtain ⟨by0, by1⟩ := bY
        have hcy : wr.cell? ⟨b, off + (i + 1), none⟩ = some (.int .u64 y) := by rw [hya]; exact hat.below hb (i + 1) (by rw [← HA.out]; exact h2)
        obtain ⟨T, hT⟩ : ∃ T, y * 2 ^ (32 - r) = T := ⟨_, rfl⟩
        have hT0 : 0 ≤ T := by rw [← hT]; exact Int.mul_nonneg by0 (Int.le_of_lt (pow2_pos _))
        have hT1 : T ≤ 18446744069414584320 := by
          have hp32 : (2 : Int) ^ (32 - r) ≤ 4294967296 := by
            have := pow_le_pow (b := 2) (by decide) (show 32 - r ≤ 32 by omega)
            exact this
          have h5 := Int.mul_le_mul (show y ≤ 4294967295 by omega) hp32 (Int.le_of_lt (pow2_pos _)) (by decide)
          rw [hT] at h5
          omega
        have hdg := rshr_digit (x := x) (y := y) (r := r) hr31 bx0 bx1
        rw [hz, hT] at hdg
        have hst := rshr_step (o := o) (m := m) (j := j) (r := r) (x := x) (y := y) (d := z + T % 4294967296) hr31 (by rw [HML.out]; omega) hye HL.out (by rw [hz, hT]) hV
        have hd0 : 0 ≤ z + T % 4294967296 := by omega
        have hd1 : z + T % 4294967296 < 4294967296 := hdg.2
        have hdm : (z + T) % 4294967296 = z + T % 4294967296 := by omega
        rw [hye] at hst
        have HST := Lib.hid hst
        have HD0 := Lib.hid hd0
        have HD1 := Lib.hid hd1
        have HDM := Lib.hid hdm
        clear hst hye hya hxe hxa hat hdg hij hV hd0 hd1 hdm
        go_wp2_with (at_builtin; refine wpList_append_words _ rfl _ _ 25 rfl Tryz.underlying25 info_u64 w.heap.size u5 o rfl (hO.alloc _) ⟨wr.heap.size, 0, none⟩ 1 1 [(z + T) % 4294967296] rfl rfl (news1 _ _ _) hlen (by simp; omega) ?_; intro v' w2 hO2 hb2)
        rw [HDM.out] at hO2
        go_roundw
        case rel =>
          have hij := HIJ.out
          refine ⟨i + 1, j + 1, o ++ [z + T % 4294967296], by show _ = _; omega, by go_num, by omega, fun _ => by omega, by omega, ?_, hlim.app (Lim.cons HD0.out (by unfold B32; exact HD1.out) (Lim.nil _)), hO2, (hb.alloc hbs _).trans hb2, fun _ => HST.out, fun h => absurd h (by omega)⟩
          show _ = _
          rw [List.length_append, HL.out]; rfl
        case measure => simp [intOf]; omega
      · have h2I : ¬ (i : Int) + 1 < (na : Int) := by omega
        have hjm : j + 1 = m.length := by rw [HML.out]; omega
        have hst : vb B32 (o ++ [z]) = vb B32 m / 2 ^ r := by
          rw [hjm, List.take_length, hz] at hV
          rw [vb_snoc, HL.out]; exact hV
        have HST := Lib.hid hst
        have hzm : z % 4294967296 = z := Int.emod_eq_of_lt hz0 hz1
        have HZM := Lib.hid hzm
        clear hst hxe hxa hat hij hV hjm hzm
        go_wp2_with (at_builtin; refine wpList_append_words _ rfl _ _ 25 rfl Tryz.underlying25 info_u64 w.heap.size u5 o rfl (hO.alloc _) ⟨wr.heap.size, 0, none⟩ 1 1 [z % 4294967296] rfl rfl (news1 _ _ _) hlen (by simp; omega) ?_; intro v' w2 hO2 hb2)
        rw [HZM.out] at hO2
        go_roundw
        case rel =>
          have hij := HIJ.out
          refine ⟨i + 1, j + 1, o ++ [z], by show _ = _; omega, by go_num, by omega, fun _ => by omega, by omega, ?_, hlim.app (Lim.cons hz0 (by unfold B32; exact hz1) (Lim.nil _)), hO2, (hb.alloc hbs _).trans hb2, fun h => absurd h (by omega), fun _ => HST.out⟩
          show _ = _
          rw [List.length_append, HL.out]; rfl
        case measure => simp [intOf]; omega
    · have hv := HV2.out (by omega)
      rw [HVM.out] at hv
      have HVO := Lib.hid hv
      obtain ⟨ao', cap', rfl, hq1', hq2', hr', hfr'⟩ := hO.form'
      obtain ⟨n, hn⟩ : ∃ n, n = o.length := ⟨_, rfl⟩
      rw [← hn] at hq1' ⊢
      have HNO := Lib.hid hn
      clear hn hv HV HV2
      go_wp2_with (go_at_call 26; refine (rtrim_any ao' n cap' o _ HNO.out hq1' hq2' hr').mono ?_; rintro e w' ⟨rfl, rfl⟩)
      go_ret
      have htl := tlen_le o
      exact ⟨ao', tlen o, tlen o, tr o, rfl, (tr_length _).symm, Nat.le_refl _, by have := HNO.out; omega, hr'.take _, can_tr hlim, by rw [vb_tr]; exact HVO.out, hb, hfr'⟩
end Go.Proofs.YthfcncapgfkkjaaGreatDoor

namespace Go.Proofs.YthfcncapgfkkjaaGreatDoor
open Go.RowKit

/-- One step of Newton's from above: never below the root. -/
theorem newton_ge {x r : Int} (hr : 0 < r) : x < ((r + x / r) / 2 + 1) * ((r + x / r) / 2 + 1) := by
  obtain ⟨q, hq⟩ : ∃ q, q = x / r := ⟨_, rfl⟩
  rw [← hq]
  have h1 : x < r * (q + 1) := by
    have a := Int.mul_ediv_add_emod x r
    have b := Int.emod_lt_of_pos x hr
    rw [← hq] at a
    rw [Int.mul_add]
    omega
  obtain ⟨n, hn⟩ : ∃ n, n = (r + q) / 2 + 1 := ⟨_, rfl⟩
  rw [← hn]
  have h2 : r + (q + 1) ≤ 2 * n := by omega
  -- 4 n^2 is at least (r + (q + 1))^2, that is at least 4 r (q + 1)
  by_cases hq1 : 0 ≤ q + 1
  · have h3 : (r + (q + 1)) * (r + (q + 1)) ≤ (2 * n) * (2 * n) := Int.mul_le_mul h2 h2 (by omega) (by omega)
    have h4 : 0 ≤ (r - (q + 1)) * (r - (q + 1)) := by
      rcases Int.le_total 0 (r - (q + 1)) with h | h
      · exact Int.mul_nonneg h h
      · exact Int.mul_nonneg_of_nonpos_of_nonpos h h
    have e1 : (r + (q + 1)) * (r + (q + 1)) = (r - (q + 1)) * (r - (q + 1)) + 4 * (r * (q + 1)) := by
      simp only [Int.add_mul, Int.mul_add, Int.sub_mul, Int.mul_sub, Int.mul_comm (q + 1) r, Int.mul_one, Int.one_mul]
      omega
    have e2 : (2 * n) * (2 * n) = 4 * (n * n) := by rw [Int.mul_assoc, Int.mul_left_comm n 2 n]; omega
    omega
  · have h3 : r * (q + 1) ≤ 0 := Int.mul_nonpos_of_nonneg_of_nonpos (by omega) (by omega)
    have h4 : 0 ≤ n * n := by
      rcases Int.le_total 0 n with h | h
      · exact Int.mul_nonneg h h
      · exact Int.mul_nonneg_of_nonpos_of_nonpos h h
    omega

theorem newton_done {x r : Int} (hr : 0 < r) (h : r ≤ (r + x / r) / 2) : r * r ≤ x := by
  have a := Int.mul_ediv_add_emod x r
  have b := Int.emod_nonneg x (by omega : r ≠ 0)
  have : r * r ≤ r * (x / r) := Int.mul_le_mul_of_nonneg_left (by omega) (by omega)
  omega

theorem newton_quo {x r : Int} (hr : 0 < r) (h : x < (r + 1) * (r + 1)) : x / r ≤ r + 2 := by
  have : x / r < r + 3 := by
    refine Int.ediv_lt_of_lt_mul hr ?_
    have e : (r + 1) * (r + 1) = r * r + 2 * r + 1 := by rw [Int.add_mul, Int.mul_add]; omega
    rw [Int.add_mul]
    omega
  omega

/-- Two numbers of the call's own are returned. -/
def RetTwo (w : World) (R S : Int) (e : Ending) (w' : World) : Prop :=
  ∃ v1 l1 v2 l2, e = .returned (.tuple #[v1, v2]) ∧ Ow w.heap.size w' v1 l1 ∧ Can B64 l1 ∧ vb B64 l1 = R ∧ Ow w.heap.size w' v2 l2 ∧ Can B64 l2 ∧ vb B64 l2 = S ∧ Below w.heap.size w w'

/-- The greatest number whose square is not above N. -/
def IsRoot (N R : Int) : Prop := 0 ≤ R ∧ R * R ≤ N ∧ N < (R + 1) * (R + 1)

theorem root_unique {N R S : Int} (h : IsRoot N R) (k : IsRoot N S) : R = S := by
  obtain ⟨h1, h2, h3⟩ := h
  obtain ⟨k1, k2, k3⟩ := k
  rcases Int.lt_trichotomy R S with a | a | a
  · have : (R + 1) * (R + 1) ≤ S * S := Int.mul_le_mul (by omega) (by omega) (by omega) (by omega)
    omega
  · exact a
  · have : (S + 1) * (S + 1) ≤ R * R := Int.mul_le_mul (by omega) (by omega) (by omega) (by omega)
    omega

def RetSqrt (w : World) (N : Int) (e : Ending) (w' : World) : Prop := ∃ R, IsRoot N R ∧ RetTwo w R (N - R * R) e w'

theorem at_new (w : World) (x : Int) (t : TypeId) : Rd (w.alloc (.cells #[.int .u64 x] t)) (some ⟨w.heap.size, 0, none⟩) [x] := by
  refine Rd.of_at fun j hj => ?_
  have := news1 w x t j hj
  rwa [addr_add_none] at this

theorem vb_one (x : Int) : vb B64 [x] = x := by simp [vb_cons]

set_option maxRecDepth 100000 in
set_option maxHeartbeats 2000000 in
theorem sqrtLimb_any (ao : Option Addr) (n cap : Nat) (l : List Int) (w : World) (hn : n = l.length) (h1 : n ≤ cap) (h2 : cap ≤ 9223372036854775807) (h : Rd w ao l) (hl : Lim B64 l) (hM : n ≤ MaxW) (hN : vb B64 l < 18446744073709551616) :
    Calls Tryz.prog 63 #[.slice ao n cap] w fun e w' => RetSqrt w (vb B64 l) e w' := by
  have hbits := bits_any ao n cap l w hn h1 h2 h hl hM
  have HBI := Lib.hid hbits
  have hN0 := vb_nonneg B64_pos hl
  by_cases h0 : vb B64 l = 0
  · have hb0 : nb (vb B64 l) = 0 := by rw [h0]; rfl
    rw [hb0] at HBI
    rw [h0]
    clear hbits hb0 h0 hn hN hN0
    go_enter Tryz.func63, Tryz.ntmps63
    go_wp2_with fail
    refine HBI.out.mono ?_
    rintro e w' ⟨rfl, rfl⟩
    go_wp2_with fail
    go_ret2
    exact ⟨0, ⟨by decide, by decide, by decide⟩, _, [], _, [], rfl, Ow.nil _ _, Can.nil _, rfl, Ow.nil _ _, Can.nil _, rfl, Below.refl _ _⟩
  · -- one word, and it is the first
    have hpos : 0 < vb B64 l := by omega
    have hl0 : l ≠ [] := by intro e; subst e; exact h0 rfl
    obtain ⟨x, m, rfl⟩ : ∃ x m, l = x :: m := by cases l with | nil => exact absurd rfl hl0 | cons x m => exact ⟨x, m, rfl⟩
    have hx : vb B64 (x :: m) = x := by
      rw [vb_cons] at hN ⊢
      have a := hl.head
      have b := vb_nonneg B64_pos hl.tail
      unfold B64 at *
      omega
    rw [hx] at HBI hpos hN ⊢
    obtain ⟨b, off, rfl, hat⟩ := h.cases hl0
    have hcx : w.cell? ⟨b, off, none⟩ = some (.int .u64 x) := hat 0 (by simp)
    have hn0 : 0 < n := by rw [hn]; simp
    obtain ⟨n1, n2, n3⟩ := nb_spec hpos
    obtain ⟨t, ht⟩ : ∃ t, t = nb x := ⟨_, rfl⟩
    rw [← ht] at HBI n1 n2 n3
    have ht64 : t ≤ 64 := by rw [ht]; exact nb_le (m := 64) hN
    obtain ⟨s, hs⟩ : ∃ s, s = (t + 1) / 2 := ⟨_, rfl⟩
    have hs32 : s ≤ 32 := by omega
    have hts : t ≤ 2 * s := by omega
    obtain ⟨r0, hr0⟩ : ∃ r0 : Int, r0 = 2 ^ s := ⟨_, rfl⟩
    have hr1 : 1 ≤ r0 := by rw [hr0]; exact Int.pow_pos (by decide)
    have hr2 : r0 ≤ 4294967296 := by
      have : (2 : Int) ^ s ≤ 2 ^ 32 := by
        have : ((2 ^ s : Nat) : Int) ≤ ((2 ^ 32 : Nat) : Int) := by
          have := Nat.pow_le_pow_right (show 0 < 2 by decide) hs32
          omega
        simpa using this
      rw [hr0]; omega
    have hrx : x < (r0 + 1) * (r0 + 1) := by
      have e1 : (2 : Int) ^ t ≤ 2 ^ (2 * s) := by
        have : ((2 ^ t : Nat) : Int) ≤ ((2 ^ (2 * s) : Nat) : Int) := by
          have := Nat.pow_le_pow_right (show 0 < 2 by decide) hts
          omega
        simpa using this
      have e2 : (2 : Int) ^ (2 * s) = r0 * r0 := by rw [hr0, ← Int.pow_add]; congr 1; omega
      rw [Int.add_mul, Int.mul_add]
      omega
    have hsi : ((t : Int) + 1) / 2 = (s : Int) := by omega
    have htne : ((t : Int) == 0) = false := by simp; omega
    have hn63 : (t : Int) ≤ 64 := by omega
    have hx1 : x ≤ 18446744073709551615 := by omega
    have hwr : IntKind.u64.wrap (2 ^ s) = r0 := by rw [← hr0, IntKind.wrap_u64]; omega
    have hq0 : 0 ≤ x / r0 := Int.ediv_nonneg (by omega) (by omega)
    have hq1 : x / r0 ≤ r0 + 2 := newton_quo hr1 hrx
    have hr0n : ¬ r0 = 0 := by omega
    have HRX := Lib.hid hrx
    clear hbits h0 hN hN0 hl0 hat hn hx n1 n2 ht hs hts hr0 hrx
    go_enter Tryz.func63, Tryz.ntmps63
    go_wp2_with fail
    refine HBI.out.mono ?_
    rintro e w' ⟨rfl, rfl⟩
    go_wp2_with fail
    go_loop [6, 7] (fun rr nn => ∃ r nx : Int, rr = .int .u64 r ∧ nn = .int .u64 nx ∧ 1 ≤ r ∧ r ≤ 4294967296 ∧ 0 ≤ nx ∧ Hid (nx = (r + x / r) / 2) ∧ Hid (x < (r + 1) * (r + 1))) (fun rr _ => (intOf rr).toNat)
    case atStart => exact ⟨r0, (r0 + x / r0) / 2, rfl, rfl, hr1, hr2, by omega, rfl, HRX⟩
    case round =>
      clear HRX hr1 hr2 hq0 hq1 hr0n
      obtain ⟨r, nx, rfl, rfl, hr1, hr2, hn0, HNX, HRX⟩ := hrel
      by_cases hlt : nx < r
      · have hnew := newton_ge (x := x) (r := r) (by omega)
        rw [← HNX.out] at hnew
        have hnx1 : 1 ≤ nx := by
          rcases Int.lt_or_le nx 1 with h | h
          · have : nx = 0 := by omega
            rw [this] at hnew
            omega
          · exact h
        have hq0 : 0 ≤ x / nx := Int.ediv_nonneg (by omega) (by omega)
        have hq1 : x / nx ≤ nx + 2 := newton_quo hnx1 hnew
        have hnn : ¬ nx = 0 := by omega
        have HNEW := Lib.hid hnew
        clear hnew
        go_wp2
        go_round
        case rel => exact ⟨nx, (nx + x / nx) / 2, rfl, rfl, hnx1, by omega, by omega, rfl, HNEW⟩
        case measure => simp [intOf]; omega
      · have hdone : r * r ≤ x := newton_done (by omega) (by rw [← HNX.out]; omega)
        have hsq0 : 0 ≤ r * r := Int.mul_nonneg (by omega) (by omega)
        have hroot : IsRoot x r := ⟨by omega, hdone, HRX.out⟩
        have HROOT := Lib.hid hroot
        clear hroot
        obtain ⟨y, hy⟩ : ∃ y, y = x - r * r := ⟨_, rfl⟩
        have hy0 : 0 ≤ y := by omega
        have hy1 : y ≤ 18446744073709551615 := by omega
        have limr : Lim B64 [r] := Lim.cons (by omega) (by unfold B64; omega) (Lim.nil _)
        have limy : Lim B64 [y] := Lim.cons hy0 (by unfold B64; omega) (Lim.nil _)
        have hyw : x - r * r = y := hy.symm
        clear hy
        go_wp2_with fail
        refine (of_any _ 1 1 [r] _ rfl (Nat.le_refl _) (by decide) (at_new _ r _) (by decide)).mono ?_
        rintro e w1 ⟨v1, rfl, hO1, hb1⟩
        go_wp2_with fail
        refine (of_any _ 1 1 [y] _ rfl (Nat.le_refl _) (by decide) (at_new _ y _) (by decide)).mono ?_
        rintro e w2 ⟨v2, rfl, hO2, hb2⟩
        go_wp2_with fail
        go_ret2
        have hbA : Below w.heap.size w w1 := ((Below.refl _ _).alloc (Nat.le_refl _) _).trans (hb1.mono (by simp))
        have hbB : Below w1.heap.size w1 w2 := ((Below.refl _ _).alloc (Nat.le_refl _) _).trans (hb2.mono (by simp))
        refine ⟨r, HROOT.out, v1, tr [r], v2, tr [y], rfl, (hO1.below hbB).mono (by simp), can_tr limr, by rw [vb_tr, vb_one], hO2.mono (by have := hbA.size; simp; omega), can_tr limy, by rw [vb_tr, vb_one, hyw], hbA.trans (hbB.mono hbA.size)⟩
end Go.Proofs.YthfcncapgfkkjaaGreatDoor
