/-
  Contract of math/bits.Div64: the quotient and the rest of two words by one, the high word less than the divisor.
-/
import Derived.Test.YtbieldebkfkpkaaDoorNat1
import Derived.Test.YtbieldebkfkpkaaDoorMath
import Derived.Test.YtbieldebkfkpkaaDoorBits
namespace Go.Proofs.YtbieldebkfkpkaaDoor
open Go.RowKit

set_option maxRecDepth 100000 in
set_option maxHeartbeats 1000000 in
theorem div64_small (lo y : Int) (w : World) (h0 : 0 ≤ lo) (h1 : lo ≤ 18446744073709551615) (h2 : 0 < y) (h3 : y ≤ 18446744073709551615) :
    Calls Tryd.prog 98 #[.int .u64 0, .int .u64 lo, .int .u64 y] w fun e w' => RetV w (.tuple #[.int .u64 (lo / y), .int .u64 (lo % y)]) e w' := by
  have hy0 : (y == 0) = false := by simp; omega
  have hyn : ¬ y = 0 := by omega
  go_enter Tryd.func98, Tryd.ntmps98
  go_wp2_with fail
  go_quiet (fail)
  go_wp2_with fail
  go_ret2
  exact ⟨rfl, bdn (Below.refl _ _) _⟩

set_option maxRecDepth 100000 in
set_option maxHeartbeats 4000000 in
theorem div64_core (hi lo y Y v1 v0 u L u1 u0 q0 r0 Q1 u2 q2 r2 Q0 R : Int) (s : Nat) (w : World) (_h0 : 0 ≤ lo) (_h1 : lo ≤ 18446744073709551615) (h2 : 0 < y) (h3 : y ≤ 18446744073709551615) (h4 : 0 < hi) (h5 : hi < y) (hs2 : s ≤ 63)
    (hlz : ∀ w, Calls Tryd.prog 86 #[.int .u64 y] w fun e w' => e = .returned (.int .i64 s) ∧ w' = w)
    (hY : IntKind.u64.wrap (y * 2 ^ s) = Y) (hY0 : 9223372036854775808 ≤ Y) (hY1 : Y ≤ 18446744073709551615) (hv : Y / 4294967296 = v1) (hvp : 2147483648 ≤ v1) (hvp2 : v1 < 4294967296)
    (hv0 : bits .and .u64 Y 4294967295 = v0) (hv00 : 0 ≤ v0) (hv01 : v0 < 4294967296) (hYe : Hid (Y = v1 * 4294967296 + v0))
    (hu : bits .or .u64 (IntKind.u64.wrap (hi * 2 ^ s)) (lo / 2 ^ (64 - s)) = u) (hu0 : 0 ≤ u) (huY : u < Y)
    (hL : IntKind.u64.wrap (lo * 2 ^ s) = L) (_hL0 : 0 ≤ L) (_hL1 : L ≤ 18446744073709551615) (hl1 : L / 4294967296 = u1) (hl2 : 0 ≤ u1) (hl3 : u1 < 4294967296)
    (hl4 : bits .and .u64 L 4294967295 = u0) (hl5 : 0 ≤ u0) (hl6 : u0 < 4294967296)
    (hq0 : u / v1 = q0) (_hq1 : 0 ≤ q0) (hq2 : q0 ≤ 4294967297) (hm0 : 0 ≤ q0 * v1) (hm1 : q0 * v1 ≤ u) (hr0 : u - q0 * v1 = r0) (hr1 : 0 ≤ r0) (hr2 : r0 < v1)
    (hQ : Hid ((u * 4294967296 + u1) / Y = Q1)) (hQ0 : 0 ≤ Q1) (hQ1 : Q1 < 4294967296) (hQq : Q1 ≤ q0)
    (hU : IntKind.u64.wrap (IntKind.u64.wrap (IntKind.u64.wrap (u * 4294967296) + u1) - IntKind.u64.wrap (Q1 * Y)) = u2) (hU0 : 0 ≤ u2) (hUY : u2 < Y)
    (hq02 : u2 / v1 = q2) (_hq12 : 0 ≤ q2) (hq22 : q2 ≤ 4294967297) (hm02 : 0 ≤ q2 * v1) (hm12 : q2 * v1 ≤ u2) (hr02 : u2 - q2 * v1 = r2) (hr12 : 0 ≤ r2) (hr22 : r2 < v1)
    (hQ2 : Hid ((u2 * 4294967296 + u0) / Y = Q0)) (hQ02 : 0 ≤ Q0) (hQ12 : Q0 < 4294967296) (hQq2 : Q0 ≤ q2)
    (hR : IntKind.u64.wrap (IntKind.u64.wrap (IntKind.u64.wrap (u2 * 4294967296) + u0) - IntKind.u64.wrap (Q0 * Y)) = R) (_hR0 : 0 ≤ R) (_hR1 : R ≤ 18446744073709551615) :
    Calls Tryd.prog 98 #[.int .u64 hi, .int .u64 lo, .int .u64 y] w fun e w' => e = .returned (.tuple #[.int .u64 (Q1 * 4294967296 + Q0), .int .u64 (R / 2 ^ s)]) ∧ w = w' := by
  have hy0 : (y == 0) = false := by simp; omega
  have hyn : ¬ y = 0 := by omega
  have hyn2 : ¬ v1 = 0 := by omega
  have hh0 : (hi == 0) = false := by simp; omega
  have HL := Lib.hid hlz
  have hrv : Hid (q0 * v1 + r0 = u) := by show _ = _; omega
  have hrv2 : Hid (q2 * v1 + r2 = u2) := by show _ = _; omega
  have hYp : 0 < Y := by omega
  clear hlz
  go_enter Tryd.func98, Tryd.ntmps98
  go_wp2_with (go_at_call 86; refine (HL.out _).mono ?_; rintro e w' ⟨rfl, rfl⟩)
  have HD := Lib.hid hq0
  clear hr0 hm0 hm1 hq0
  go_loop [15, 16] (fun qq rr => ∃ q r : Int, qq = .int .u64 q ∧ rr = .int .u64 r ∧ Q1 ≤ q ∧ q ≤ 4294967297 ∧ 0 ≤ r ∧ r < 4294967296 ∧ Hid (q * v1 + r = u)) (fun qq _ => (intOf qq).toNat)
  case atStart => exact ⟨q0, r0, by first | rfl | rw [HD.out], rfl, hQq, hq2, hr1, by omega, hrv⟩
  case round =>
    obtain ⟨q, r, rfl, rfl, hqa, hqb, hra, hrb, HI⟩ := hrel
    by_cases htest : 4294967296 ≤ q ∨ 4294967296 * r + u1 < q * v0
    · have hgt := kn_gt hYe.out hYp huY hl3 hQ.out HI.out htest
      by_cases hbr : 4294967296 ≤ r + v1
      · have hqe := kn_break hYe.out hYp hv00 hv01 hl2 hQ.out HI.out hgt hqb hbr
        subst hqe
        clear HI hqa hqb hgt HD hq2 hr1 hr2 hQq hrv
        by_cases hbig : 4294967296 ≤ Q1 + 1
        · go_wp2
          have HD2 := Lib.hid hq02
          clear hr02 hm02 hm12 hq02
          go_loop [18, 16] (fun qq rr => ∃ q r : Int, qq = .int .u64 q ∧ rr = .int .u64 r ∧ Q0 ≤ q ∧ q ≤ 4294967297 ∧ 0 ≤ r ∧ r < 4294967296 ∧ Hid (q * v1 + r = u2)) (fun qq _ => (intOf qq).toNat)
          case atStart => exact ⟨q2, r2, by first | rfl | rw [HD2.out], rfl, hQq2, hq22, hr12, by omega, hrv2⟩
          case round =>
            obtain ⟨q, r, rfl, rfl, hqa, hqb, hra, hrb, HI⟩ := hrel
            by_cases htest : 4294967296 ≤ q ∨ 4294967296 * r + u0 < q * v0
            · have hgt := kn_gt hYe.out hYp hUY hl6 hQ2.out HI.out htest
              by_cases hbr : 4294967296 ≤ r + v1
              · have hqe := kn_break hYe.out hYp hv00 hv01 hl5 hQ2.out HI.out hgt hqb hbr
                subst hqe
                clear HI hqa hqb hgt HD2 hq22 hr12 hr22 hQq2 hrv2
                by_cases hbig : 4294967296 ≤ Q0 + 1
                · go_wp2
                  go_ret2
                  exact ⟨rfl, rfl⟩
                · have htest2 : 4294967296 * r + u0 < (Q0 + 1) * v0 := by omega
                  have hp := kn_prod (by omega) (by omega : Q0 + 1 < 4294967296) hv00 hv01
                  obtain ⟨hp1, hp2⟩ := hp
                  clear htest
                  go_wp2
                  go_ret2
                  exact ⟨rfl, rfl⟩
              · have hst := kn_step HI.out
                have HST := Lib.hid hst
                clear hst
                by_cases hbig : 4294967296 ≤ q
                · clear htest
                  go_wp2
                  go_round
                  case rel => exact ⟨q - 1, r + v1, rfl, rfl, by omega, by omega, by omega, by omega, HST⟩
                  case measure => simp [intOf]; omega
                · have htest2 : 4294967296 * r + u0 < q * v0 := by omega
                  obtain ⟨hp1, hp2⟩ := kn_prod (by omega) (by omega : q < 4294967296) hv00 hv01
                  clear htest
                  go_wp2
                  go_round
                  case rel => exact ⟨q - 1, r + v1, rfl, rfl, by omega, by omega, by omega, by omega, HST⟩
                  case measure => simp [intOf]; omega
            · have hbig : q < 4294967296 := by omega
              have htest2 : q * v0 ≤ 4294967296 * r + u0 := by omega
              have hqe := kn_done hYe.out hYp hQ2.out HI.out hqa htest2
              subst hqe
              obtain ⟨hp1, hp2⟩ := kn_prod hQ02 hQ12 hv00 hv01
              clear HI hqa hqb HD2 hq22 hr12 hr22 hQq2 hrv2 htest
              go_wp2
              go_ret2
              exact ⟨rfl, rfl⟩
        · have htest2 : 4294967296 * r + u1 < (Q1 + 1) * v0 := by omega
          have hp := kn_prod (by omega) (by omega : Q1 + 1 < 4294967296) hv00 hv01
          obtain ⟨hp1, hp2⟩ := hp
          clear htest
          go_wp2
          have HD2 := Lib.hid hq02
          clear hr02 hm02 hm12 hq02
          go_loop [18, 16] (fun qq rr => ∃ q r : Int, qq = .int .u64 q ∧ rr = .int .u64 r ∧ Q0 ≤ q ∧ q ≤ 4294967297 ∧ 0 ≤ r ∧ r < 4294967296 ∧ Hid (q * v1 + r = u2)) (fun qq _ => (intOf qq).toNat)
          case atStart => exact ⟨q2, r2, by first | rfl | rw [HD2.out], rfl, hQq2, hq22, hr12, by omega, hrv2⟩
          case round =>
            obtain ⟨q, r, rfl, rfl, hqa, hqb, hra, hrb, HI⟩ := hrel
            by_cases htest : 4294967296 ≤ q ∨ 4294967296 * r + u0 < q * v0
            · have hgt := kn_gt hYe.out hYp hUY hl6 hQ2.out HI.out htest
              by_cases hbr : 4294967296 ≤ r + v1
              · have hqe := kn_break hYe.out hYp hv00 hv01 hl5 hQ2.out HI.out hgt hqb hbr
                subst hqe
                clear HI hqa hqb hgt HD2 hq22 hr12 hr22 hQq2 hrv2
                by_cases hbig : 4294967296 ≤ Q0 + 1
                · go_wp2
                  go_ret2
                  exact ⟨rfl, rfl⟩
                · have htest2 : 4294967296 * r + u0 < (Q0 + 1) * v0 := by omega
                  have hp := kn_prod (by omega) (by omega : Q0 + 1 < 4294967296) hv00 hv01
                  obtain ⟨hp1, hp2⟩ := hp
                  clear htest
                  go_wp2
                  go_ret2
                  exact ⟨rfl, rfl⟩
              · have hst := kn_step HI.out
                have HST := Lib.hid hst
                clear hst
                by_cases hbig : 4294967296 ≤ q
                · clear htest
                  go_wp2
                  go_round
                  case rel => exact ⟨q - 1, r + v1, rfl, rfl, by omega, by omega, by omega, by omega, HST⟩
                  case measure => simp [intOf]; omega
                · have htest2 : 4294967296 * r + u0 < q * v0 := by omega
                  obtain ⟨hp1, hp2⟩ := kn_prod (by omega) (by omega : q < 4294967296) hv00 hv01
                  clear htest
                  go_wp2
                  go_round
                  case rel => exact ⟨q - 1, r + v1, rfl, rfl, by omega, by omega, by omega, by omega, HST⟩
                  case measure => simp [intOf]; omega
            · have hbig : q < 4294967296 := by omega
              have htest2 : q * v0 ≤ 4294967296 * r + u0 := by omega
              have hqe := kn_done hYe.out hYp hQ2.out HI.out hqa htest2
              subst hqe
              obtain ⟨hp1, hp2⟩ := kn_prod hQ02 hQ12 hv00 hv01
              clear HI hqa hqb HD2 hq22 hr12 hr22 hQq2 hrv2 htest
              go_wp2
              go_ret2
              exact ⟨rfl, rfl⟩
      · have hst := kn_step HI.out
        have HST := Lib.hid hst
        clear hst
        by_cases hbig : 4294967296 ≤ q
        · clear htest
          go_wp2
          go_round
          case rel => exact ⟨q - 1, r + v1, rfl, rfl, by omega, by omega, by omega, by omega, HST⟩
          case measure => simp [intOf]; omega
        · have htest2 : 4294967296 * r + u1 < q * v0 := by omega
          obtain ⟨hp1, hp2⟩ := kn_prod (by omega) (by omega : q < 4294967296) hv00 hv01
          clear htest
          go_wp2
          go_round
          case rel => exact ⟨q - 1, r + v1, rfl, rfl, by omega, by omega, by omega, by omega, HST⟩
          case measure => simp [intOf]; omega
    · have hbig : q < 4294967296 := by omega
      have htest2 : q * v0 ≤ 4294967296 * r + u1 := by omega
      have hqe := kn_done hYe.out hYp hQ.out HI.out hqa htest2
      subst hqe
      obtain ⟨hp1, hp2⟩ := kn_prod hQ0 hQ1 hv00 hv01
      clear HI hqa hqb HD hq2 hr1 hr2 hQq hrv htest
      go_wp2
      have HD2 := Lib.hid hq02
      clear hr02 hm02 hm12 hq02
      go_loop [18, 16] (fun qq rr => ∃ q r : Int, qq = .int .u64 q ∧ rr = .int .u64 r ∧ Q0 ≤ q ∧ q ≤ 4294967297 ∧ 0 ≤ r ∧ r < 4294967296 ∧ Hid (q * v1 + r = u2)) (fun qq _ => (intOf qq).toNat)
      case atStart => exact ⟨q2, r2, by first | rfl | rw [HD2.out], rfl, hQq2, hq22, hr12, by omega, hrv2⟩
      case round =>
        obtain ⟨q, r, rfl, rfl, hqa, hqb, hra, hrb, HI⟩ := hrel
        by_cases htest : 4294967296 ≤ q ∨ 4294967296 * r + u0 < q * v0
        · have hgt := kn_gt hYe.out hYp hUY hl6 hQ2.out HI.out htest
          by_cases hbr : 4294967296 ≤ r + v1
          · have hqe := kn_break hYe.out hYp hv00 hv01 hl5 hQ2.out HI.out hgt hqb hbr
            subst hqe
            clear HI hqa hqb hgt HD2 hq22 hr12 hr22 hQq2 hrv2
            by_cases hbig : 4294967296 ≤ Q0 + 1
            · go_wp2
              go_ret2
              exact ⟨rfl, rfl⟩
            · have htest2 : 4294967296 * r + u0 < (Q0 + 1) * v0 := by omega
              have hp := kn_prod (by omega) (by omega : Q0 + 1 < 4294967296) hv00 hv01
              obtain ⟨hp1, hp2⟩ := hp
              clear htest
              go_wp2
              go_ret2
              exact ⟨rfl, rfl⟩
          · have hst := kn_step HI.out
            have HST := Lib.hid hst
            clear hst
            by_cases hbig : 4294967296 ≤ q
            · clear htest
              go_wp2
              go_round
              case rel => exact ⟨q - 1, r + v1, rfl, rfl, by omega, by omega, by omega, by omega, HST⟩
              case measure => simp [intOf]; omega
            · have htest2 : 4294967296 * r + u0 < q * v0 := by omega
              obtain ⟨hp1, hp2⟩ := kn_prod (by omega) (by omega : q < 4294967296) hv00 hv01
              clear htest
              go_wp2
              go_round
              case rel => exact ⟨q - 1, r + v1, rfl, rfl, by omega, by omega, by omega, by omega, HST⟩
              case measure => simp [intOf]; omega
        · have hbig : q < 4294967296 := by omega
          have htest2 : q * v0 ≤ 4294967296 * r + u0 := by omega
          have hqe := kn_done hYe.out hYp hQ2.out HI.out hqa htest2
          subst hqe
          obtain ⟨hp1, hp2⟩ := kn_prod hQ02 hQ12 hv00 hv01
          clear HI hqa hqb HD2 hq22 hr12 hr22 hQq2 hrv2 htest
          go_wp2
          go_ret2
          exact ⟨rfl, rfl⟩
theorem two_pow_nat (s : Nat) : ((2 : Int) ^ s) = ((2 ^ s : Nat) : Int) := by simp

/-- The shift of a divisor: how far it may be moved up. -/
theorem lz_facts (y : Int) (h2 : 0 < y) (h3 : y ≤ 18446744073709551615) : ∃ s : Nat, s ≤ 63 ∧ (64 - (Lib.bitLen y.toNat : Int)) = (s : Int) ∧ 9223372036854775808 ≤ y * 2 ^ s ∧ y * 2 ^ s ≤ 18446744073709551615 ∧ (2 : Int) ^ s * 2 ^ (64 - s) = 18446744073709551616 ∧ 0 < (2 : Int) ^ s ∧ 0 < (2 : Int) ^ (64 - s) := by
  obtain ⟨n, rfl⟩ := Int.eq_ofNat_of_zero_le (Int.le_of_lt h2)
  have hx : n < 2 ^ 64 := by omega
  have hle := bitLen_le64 n hx
  obtain ⟨h5, h6⟩ := bitLen_spec 64 n hx hx
  obtain ⟨h7, h8⟩ := h6 (by omega)
  rw [Int.toNat_natCast]
  obtain ⟨k, hk⟩ : ∃ k, k = Lib.bitLen n := ⟨_, rfl⟩
  rw [← hk] at h5 h7 h8 hle ⊢
  have e64 : 2 ^ (64 - k) * 2 ^ k = 18446744073709551616 := by rw [← Nat.pow_add, show 64 - k + k = 64 by omega]
  have e63 : 2 ^ (64 - k) * 2 ^ (k - 1) = 9223372036854775808 := by rw [← Nat.pow_add, show 64 - k + (k - 1) = 63 by omega]
  have p1 : 0 < 2 ^ (64 - k) := Nat.two_pow_pos _
  have a1 : 2 ^ (64 - k) * 2 ^ (k - 1) ≤ 2 ^ (64 - k) * n := Nat.mul_le_mul_left _ h7
  have a2 : 2 ^ (64 - k) * (n + 1) ≤ 2 ^ (64 - k) * 2 ^ k := Nat.mul_le_mul_left _ h5
  rw [Nat.mul_add] at a2
  refine ⟨64 - k, by omega, by omega, ?_, ?_, ?_, ?_, ?_⟩
  · rw [two_pow_nat, ← Int.natCast_mul, Nat.mul_comm]; omega
  · rw [two_pow_nat, ← Int.natCast_mul, Nat.mul_comm]; omega
  · rw [show 64 - (64 - k) = k by omega, two_pow_nat, two_pow_nat, ← Int.natCast_mul]; omega
  · rw [two_pow_nat]; omega
  · rw [two_pow_nat]; have := Nat.two_pow_pos (64 - (64 - k)); omega

theorem wrap3 (a u1 b r : Int) (h : a + u1 - b = r) (h0 : 0 ≤ r) (h1 : r ≤ 18446744073709551615) : IntKind.u64.wrap (IntKind.u64.wrap (IntKind.u64.wrap a + u1) - IntKind.u64.wrap b) = r := by
  simp only [IntKind.wrap_u64]
  omega

theorem div64_any (hi lo y : Int) (w : World) (hh : 0 ≤ hi) (h0 : 0 ≤ lo) (h1 : lo ≤ 18446744073709551615) (h2 : 0 < y) (h3 : y ≤ 18446744073709551615) (h5 : hi < y) :
    Calls Tryd.prog 98 #[.int .u64 hi, .int .u64 lo, .int .u64 y] w fun e w' => RetV w (.tuple #[.int .u64 ((hi * 18446744073709551616 + lo) / y), .int .u64 ((hi * 18446744073709551616 + lo) % y)]) e w' := by
  by_cases hz : hi = 0
  · subst hz
    rw [Int.zero_mul, Int.zero_add]
    exact div64_small lo y w h0 h1 h2 h3
  · obtain ⟨s, hs, hlz, hY0, hY1, hPT, hP, hT⟩ := lz_facts y h2 h3
    have lz : ∀ w, Calls Tryd.prog 86 #[.int .u64 y] w fun e w' => e = .returned (.int .i64 s) ∧ w' = w := by
      intro w
      refine (lz64_any y w (by omega) h3).mono ?_
      rintro e w' ⟨rfl, rfl⟩
      exact ⟨by rw [hlz], rfl⟩
    obtain ⟨P, hPe⟩ : ∃ P, P = (2 : Int) ^ s := ⟨_, rfl⟩
    obtain ⟨T, hTe⟩ : ∃ T, T = (2 : Int) ^ (64 - s) := ⟨_, rfl⟩
    rw [← hPe] at hY0 hY1 hPT hP
    rw [← hTe] at hPT hT
    obtain ⟨Y, hYe⟩ : ∃ Y, Y = y * P := ⟨_, rfl⟩
    rw [← hYe] at hY0 hY1
    -- the parts of lo
    have l1 := Int.mul_ediv_add_emod lo T
    have l2 := Int.emod_lt_of_pos lo hT
    have l3 := Int.emod_nonneg lo (by omega : T ≠ 0)
    have l4 : 0 ≤ lo / T := Int.ediv_nonneg h0 (by omega)
    have l5 : lo / T < P := Int.ediv_lt_of_lt_mul hT (by rw [hPT]; omega)
    obtain ⟨c, hc⟩ : ∃ c, c = lo / T := ⟨_, rfl⟩
    obtain ⟨d, hd⟩ : ∃ d, d = lo % T := ⟨_, rfl⟩
    rw [← hc] at l1 l4 l5
    rw [← hd] at l1 l2 l3
    have dP0 : 0 ≤ d * P := Int.mul_nonneg l3 (by omega)
    have dP1 : d * P + P ≤ 18446744073709551616 := by
      have : (d + 1) * P ≤ T * P := Int.mul_le_mul_of_nonneg_right (by omega) (by omega)
      rw [Int.add_mul, Int.one_mul, Int.mul_comm T P, hPT] at this
      exact this
    have loP : lo * P = c * 18446744073709551616 + d * P := by
      rw [← l1, Int.add_mul, Int.mul_comm T c, Int.mul_assoc, Int.mul_comm T P, hPT]
    have hiP0 : 0 ≤ hi * P := Int.mul_nonneg hh (by omega)
    have hiP1 : hi * P + P ≤ Y := by
      have : (hi + 1) * P ≤ y * P := Int.mul_le_mul_of_nonneg_right (by omega) (by omega)
      rw [Int.add_mul, Int.one_mul, ← hYe] at this
      exact this
    have eL : IntKind.u64.wrap (lo * P) = d * P := by rw [IntKind.wrap_u64, loP]; omega
    have eH : IntKind.u64.wrap (hi * P) = hi * P := by rw [IntKind.wrap_u64]; omega
    have eY : IntKind.u64.wrap (y * P) = Y := by rw [IntKind.wrap_u64, ← hYe]; omega
    have eu : bits .or .u64 (IntKind.u64.wrap (hi * P)) (lo / T) = hi * P + c := by
      rw [eH, ← hc, hPe]
      exact or_parts hi c s hh l4 (by rw [← hPe]; exact l5) (by rw [← hPe]; omega)
    obtain ⟨u, hu⟩ : ∃ u, u = hi * P + c := ⟨_, rfl⟩
    obtain ⟨L, hL⟩ : ∃ L, L = d * P := ⟨_, rfl⟩
    have huY : u < Y := by omega
    have hYv : Y = Y / 4294967296 * 4294967296 + Y % 4294967296 := by omega
    have hv1 : 2147483648 ≤ Y / 4294967296 := by omega
    have hYp : 0 < Y := by omega
    obtain ⟨a1, a2, a3⟩ := kn_le (u := u) (u1 := L / 4294967296) hYv hv1 (by omega) (by omega) huY (by omega) (by omega)
    obtain ⟨b1, b2⟩ := kn_top (u := u) hYv hv1 (by omega) (by omega) huY
    obtain ⟨c1, c2, c3, c4⟩ := kn_rest (u := u) (v1 := Y / 4294967296) (by omega) (by omega)
    obtain ⟨d1, d2, d3⟩ := kn_left (u := u) (u1 := L / 4294967296) (Y := Y) hYp rfl
    obtain ⟨Q1, hQ1⟩ : ∃ Q1, Q1 = (u * 4294967296 + L / 4294967296) / Y := ⟨_, rfl⟩
    rw [← hQ1] at a1 a2 a3 d1 d2 d3
    obtain ⟨u2, hu2⟩ : ∃ u2, u2 = u * 4294967296 + L / 4294967296 - Q1 * Y := ⟨_, rfl⟩
    rw [← hu2] at d1 d2 d3
    obtain ⟨a1', a2', a3'⟩ := kn_le (u := u2) (u1 := L % 4294967296) hYv hv1 (by omega) d2 d3 (by omega) (by omega)
    obtain ⟨b1', b2'⟩ := kn_top (u := u2) hYv hv1 (by omega) d2 d3
    obtain ⟨c1', c2', c3', c4'⟩ := kn_rest (u := u2) (v1 := Y / 4294967296) (by omega) d2
    obtain ⟨d1', d2', d3'⟩ := kn_left (u := u2) (u1 := L % 4294967296) (Y := Y) hYp rfl
    obtain ⟨Q0, hQ0⟩ : ∃ Q0, Q0 = (u2 * 4294967296 + L % 4294967296) / Y := ⟨_, rfl⟩
    rw [← hQ0] at a1' a2' a3' d1' d2' d3'
    obtain ⟨R, hR⟩ : ∃ R, R = u2 * 4294967296 + L % 4294967296 - Q0 * Y := ⟨_, rfl⟩
    rw [← hR] at d1' d2' d3'
    have core := div64_core hi lo y Y (Y / 4294967296) (Y % 4294967296) u L (L / 4294967296) (L % 4294967296) (u / (Y / 4294967296)) (u - u / (Y / 4294967296) * (Y / 4294967296)) Q1 u2 (u2 / (Y / 4294967296)) (u2 - u2 / (Y / 4294967296) * (Y / 4294967296)) Q0 R s w
      h0 h1 h2 h3 (by omega) h5 hs lz (by rw [← hPe]; exact eY) hY0 hY1 rfl hv1 (by omega) (and_mask32 Y (by omega) (by omega)) (by omega) (by omega) hYv
      (by rw [← hPe, ← hTe, eu, hu]) (by omega) huY (by rw [← hPe, eL, hL]) (by omega) (by omega) rfl (by omega) (by omega) (and_mask32 L (by omega) (by omega)) (by omega) (by omega)
      rfl b1 b2 c1 c2 rfl c3 c4 hQ1.symm a1 a2 a3
      (wrap3 _ _ _ u2 hu2.symm d2 (by omega)) d2 d3 rfl b1' b2' c1' c2' rfl c3' c4' hQ0.symm a1' a2' a3' (wrap3 _ _ _ R hR.symm d2' (by omega)) d2' (by omega)
    -- what the two digits make together
    have hN : (hi * 18446744073709551616 + lo) * P = (Q1 * 4294967296 + Q0) * Y + R := by
      have e1 : (hi * 18446744073709551616 + lo) * P = u * 18446744073709551616 + L := by
        rw [Int.add_mul, loP, hu, hL, Int.mul_assoc, Int.mul_comm 18446744073709551616 P, ← Int.mul_assoc]
        omega
      rw [e1, Int.add_mul, Int.mul_assoc, Int.mul_comm 4294967296 Y, ← Int.mul_assoc]
      omega
    rw [hYe, ← Int.mul_assoc] at hN
    obtain ⟨q, hq⟩ : ∃ q, q = Q1 * 4294967296 + Q0 := ⟨_, rfl⟩
    rw [← hq] at hN core
    obtain ⟨N, hNe⟩ : ∃ N, N = hi * 18446744073709551616 + lo := ⟨_, rfl⟩
    rw [← hNe] at hN ⊢
    have hRP : R = (N - q * y) * P := by rw [Int.sub_mul]; omega
    have hRd : R / 2 ^ s = N - q * y := by rw [← hPe, hRP, Int.mul_ediv_cancel _ (by omega)]
    have hlo : 0 ≤ N - q * y := by
      rw [← hRd, ← hPe]
      exact Int.ediv_nonneg d2' (by omega)
    have hup : N - q * y < y := by
      rw [← hRd, ← hPe]
      refine Int.ediv_lt_of_lt_mul hP ?_
      rw [← hYe]; exact d3'
    have hdiv : N / y = q := by
      have e : N = (N - q * y) + y * q := by rw [Int.mul_comm y q]; omega
      rw [e, Int.add_mul_ediv_left _ _ (by omega), Int.ediv_eq_zero_of_lt hlo hup]; omega
    have hmod : N % y = N - q * y := by
      have := Int.mul_ediv_add_emod N y
      rw [hdiv, Int.mul_comm] at this
      omega
    refine core.mono ?_
    rintro e w' ⟨rfl, rfl⟩
    exact ⟨by rw [hdiv, hmod, hRd], Below.refl _ _⟩
end Go.Proofs.YtbieldebkfkpkaaDoor
