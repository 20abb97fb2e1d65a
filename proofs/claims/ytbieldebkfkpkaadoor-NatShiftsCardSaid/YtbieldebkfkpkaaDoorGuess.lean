/-
  Contract of nat.guessLimb: three words divided by two.
-/
import Derived.Test.YtbieldebkfkpkaaDoorAddProd
import Derived.Test.YtbieldebkfkpkaaDoorDiv64
namespace Go.Proofs.YtbieldebkfkpkaaDoor
open Go.RowKit

/-- What nat.guessLimb returns: the quotient of U by V, but no more than a word holds. -/
def RetGuess (U V : Int) (w : World) (e : Ending) (w' : World) : Prop :=
  ∃ G : Int, e = .returned (.int .u64 G) ∧ 0 ≤ G ∧ G ≤ 18446744073709551615 ∧ G * V ≤ U ∧ (G = 18446744073709551615 ∨ U < (G + 1) * V) ∧ Below w.heap.size w w'

theorem guess_ok {a2 a1 a0 b1 b0 G R o : Int} (h : a2 * 18446744073709551616 + a1 = G * b1 + R + o * 18446744073709551616) (hle : G * b0 ≤ (R + o * 18446744073709551616) * 18446744073709551616 + a0) :
    G * (b1 * 18446744073709551616 + b0) ≤ (a2 * 18446744073709551616 + a1) * 18446744073709551616 + a0 := by
  rw [Int.mul_add, ← Int.mul_assoc, h]
  generalize G * b1 = p at *
  generalize G * b0 = q at *
  omega
theorem guess_more {a2 a1 a0 b1 b0 G R : Int} (h : a2 * 18446744073709551616 + a1 = G * b1 + R) (hgt : R * 18446744073709551616 + a0 < G * b0) :
    (a2 * 18446744073709551616 + a1) * 18446744073709551616 + a0 < ((G - 1) + 1) * (b1 * 18446744073709551616 + b0) := by
  rw [Int.sub_add_cancel, Int.mul_add, ← Int.mul_assoc, h]
  generalize G * b1 = p at *
  generalize G * b0 = q at *
  omega

set_option maxRecDepth 100000 in
set_option maxHeartbeats 4000000 in
/-- The loop, from any state that fits. -/
theorem guess_first {a2 a1 b1 : Int} (h0 : 0 ≤ a2) (h1 : 0 ≤ a1) (h1' : a1 ≤ 18446744073709551615) (hlt : a2 < b1) :
    0 ≤ (a2 * 18446744073709551616 + a1) / b1 ∧ (a2 * 18446744073709551616 + a1) / b1 ≤ 18446744073709551615 ∧ 0 ≤ (a2 * 18446744073709551616 + a1) % b1 ∧ (a2 * 18446744073709551616 + a1) % b1 < b1 ∧ a2 * 18446744073709551616 + a1 = (a2 * 18446744073709551616 + a1) / b1 * b1 + (a2 * 18446744073709551616 + a1) % b1 := by
  have e := Int.mul_ediv_add_emod (a2 * 18446744073709551616 + a1) b1
  have hb : 0 < b1 := by omega
  refine ⟨Int.ediv_nonneg (by omega) (by omega), ?_, Int.emod_nonneg _ (by omega), Int.emod_lt_of_pos _ hb, by rw [Int.mul_comm] at e; omega⟩
  have : (a2 * 18446744073709551616 + a1) / b1 < 18446744073709551616 := Int.ediv_lt_of_lt_mul hb (by omega)
  omega

set_option maxRecDepth 100000 in
set_option maxHeartbeats 4000000 in
theorem guess_lt (a2 a1 a0 b1 b0 : Int) (w : World) (p2 : 0 ≤ a2) (p1 : 0 ≤ a1) (p1' : a1 ≤ 18446744073709551615) (p0 : 0 ≤ a0) (p0' : a0 ≤ 18446744073709551615) (q1' : b1 ≤ 18446744073709551615) (q0 : 0 ≤ b0) (q0' : b0 ≤ 18446744073709551615) (hlt : a2 < b1) :
    Calls Tryd.prog 115 #[.int .u64 a2, .int .u64 a1, .int .u64 a0, .int .u64 b1, .int .u64 b0] w fun e w' => RetGuess ((a2 * 18446744073709551616 + a1) * 18446744073709551616 + a0) (b1 * 18446744073709551616 + b0) w e w' := by
  have HD := div64_any a2 a1 b1 w p2 p1 p1' (by omega) q1' hlt
  obtain ⟨f1, f2, f3, f4, f5⟩ := guess_first p2 p1 p1' hlt
  obtain ⟨G0, hG0⟩ : ∃ G0, G0 = (a2 * 18446744073709551616 + a1) / b1 := ⟨_, rfl⟩
  obtain ⟨R0, hR0⟩ : ∃ R0, R0 = (a2 * 18446744073709551616 + a1) % b1 := ⟨_, rfl⟩
  rw [← hG0, ← hR0] at HD f5
  rw [← hG0] at f1 f2
  rw [← hR0] at f3 f4
  have HD' := Lib.hid HD
  have hfirst : (a2 * 18446744073709551616 + a1) * 18446744073709551616 + a0 < (G0 + 1) * (b1 * 18446744073709551616 + b0) := by
    rw [Int.add_mul G0 1, Int.one_mul, Int.mul_add G0, ← Int.mul_assoc, f5]
    have := Int.mul_nonneg f1 q0
    generalize G0 * b1 = p at *
    generalize G0 * b0 = q at *
    omega
  have F5 := Lib.hid f5
  have FF := Lib.hid hfirst
  clear HD hG0 hR0 f5 hfirst
  go_enter Tryd.func115, Tryd.ntmps115
  go_wp2_with fail
  refine HD'.out.mono ?_
  rintro e w1 ⟨rfl, hb1⟩
  go_wp2_with fail
  go_loopw [11, 12, 13] (fun vg vr vo wr => ∃ (G R o : Int), vg = .int .u64 G ∧ vr = .int .u64 R ∧ vo = .int .u64 o ∧ 0 ≤ G ∧ G ≤ 18446744073709551615 ∧ 0 ≤ R ∧ R ≤ 18446744073709551615 ∧ 0 ≤ o ∧ o ≤ 1 ∧ Hid (a2 * 18446744073709551616 + a1 = G * b1 + R + o * 18446744073709551616) ∧ Hid (G = 18446744073709551615 ∨ (a2 * 18446744073709551616 + a1) * 18446744073709551616 + a0 < (G + 1) * (b1 * 18446744073709551616 + b0)) ∧ Below w.heap.size w wr)
    (fun vg _ _ _ => (intOf vg).toNat)
  case atStart => exact ⟨G0, R0, 0, rfl, rfl, rfl, f1, f2, f3, by omega, Int.le_refl _, by decide, by show _ = _; have := F5.out; omega, Or.inr FF.out, hb1⟩
  case round =>
    obtain ⟨G, R, o, rfl, rfl, rfl, g0, g1, r0, r1, o0, o1, HI, HU, hb⟩ := hrel
    by_cases ho : o = 0
    · subst ho
      have hoe : ((0 : Int) == 0) = true := rfl
      have HMU := Lib.hid (mul64_any G b0 wr g0 g1 q0 q0')
      have hpp := word_prod g0 g1 q0 q0'
      obtain ⟨p, hp⟩ : ∃ p, p = G * b0 := ⟨_, rfl⟩
      rw [← hp] at HMU hpp
      obtain ⟨hi, hhi⟩ : ∃ hi, hi = p / 18446744073709551616 := ⟨_, rfl⟩
      obtain ⟨lw, hlw⟩ : ∃ lw, lw = p % 18446744073709551616 := ⟨_, rfl⟩
      rw [← hhi, ← hlw] at HMU
      have hsum : p = hi * 18446744073709551616 + lw := by omega
      have hlw0 : 0 ≤ lw := by omega
      have hlw1 : lw ≤ 18446744073709551615 := by omega
      have hhi0 : 0 ≤ hi := by omega
      have hhi1 : hi ≤ 18446744073709551615 := by omega
      have hI0 : a2 * 18446744073709551616 + a1 = G * b1 + R := by have := HI.out; omega
      by_cases hc : p ≤ R * 18446744073709551616 + a0
      · have hok := guess_ok (o := 0) HI.out (show G * b0 ≤ (R + 0 * 18446744073709551616) * 18446744073709551616 + a0 by rw [← hp]; omega)
        have HOK := Lib.hid hok
        by_cases hc1 : hi < R
        · clear hok hp hhi hlw hsum hpp hI0 hc
          go_wp2_with (go_at_call 90; refine HMU.out.mono ?_; rintro e w' ⟨rfl, rfl⟩)
          go_ret
          exact ⟨G, rfl, g0, g1, HOK.out, HU.out, hb⟩
        · have hc2 : hi = R := by omega
          have hc3 : lw ≤ a0 := by omega
          subst hc2
          have hself : (hi == hi) = true := by simp
          clear hok hp hhi hlw hsum hpp hI0 hc hc1
          go_wp2_with (go_at_call 90; refine HMU.out.mono ?_; rintro e w' ⟨rfl, rfl⟩)
          go_ret
          exact ⟨G, rfl, g0, g1, HOK.out, HU.out, hb⟩
      · have hmore := guess_more hI0 (show R * 18446744073709551616 + a0 < G * b0 by rw [← hp]; omega)
        have hG1 : 1 ≤ G := by
          rcases Int.lt_or_le G 1 with h | h
          · have : G = 0 := by omega
            rw [this, Int.zero_mul] at hp
            omega
          · exact h
        have bR : 0 ≤ R ∧ R < B64 := by unfold B64; omega
        have bb1 : 0 ≤ b1 ∧ b1 < B64 := by unfold B64; omega
        have hadd := add64_run R b1 0 bR bb1 ⟨Int.le_refl 0, by decide⟩
        have cb := hi64_carry bR bb1 ⟨Int.le_refl 0, by decide⟩
        have lh := lohi (R + b1)
        have ll := lo64_lim (R + b1)
        rw [Int.add_zero] at hadd cb
        obtain ⟨o2, ho2⟩ : ∃ o2, o2 = hi64 (R + b1) := ⟨_, rfl⟩
        obtain ⟨R2, hR2⟩ : ∃ R2, R2 = lo64 (R + b1) := ⟨_, rfl⟩
        rw [← ho2] at hadd cb lh
        rw [← hR2] at hadd lh ll
        have hI2 : a2 * 18446744073709551616 + a1 = (G - 1) * b1 + R2 + o2 * 18446744073709551616 := by
          rw [hI0, Int.sub_mul, Int.one_mul]
          unfold B64 at lh
          omega
        have HI2 := Lib.hid hI2
        have HMORE := Lib.hid hmore
        have HLL := Lib.hid ll
        have HCB := Lib.hid cb
        by_cases hc1 : R < hi
        · have hc2 : ¬ hi < R := by omega
          have hc3 : (hi == R) = false := by rw [beq_eq_false_iff_ne]; omega
          clear hmore hp hhi hlw hsum hpp hI0 hc bR bb1 cb lh ll ho2 hR2 hI2
          go_wp2_with (go_at_call 90; refine HMU.out.mono ?_; rintro e w' ⟨rfl, rfl⟩)
          go_roundw
          case rel => exact ⟨G - 1, R2, o2, by go_num, rfl, rfl, by omega, by omega, HLL.out.1, by have := HLL.out.2; unfold B64 at this; omega, HCB.out.1, HCB.out.2, HI2.out, Or.inr HMORE.out, hb⟩
          case measure => simp [intOf]; omega
        · have hc2 : hi = R := by omega
          have hc3 : ¬ lw ≤ a0 := by omega
          subst hc2
          have hself : (hi == hi) = true := by simp
          clear hmore hp hhi hlw hsum hpp hI0 hc bR bb1 cb lh ll ho2 hR2 hI2 hc1
          go_wp2_with (go_at_call 90; refine HMU.out.mono ?_; rintro e w' ⟨rfl, rfl⟩)
          go_roundw
          case rel => exact ⟨G - 1, R2, o2, by go_num, rfl, rfl, by omega, by omega, HLL.out.1, by have := HLL.out.2; unfold B64 at this; omega, HCB.out.1, HCB.out.2, HI2.out, Or.inr HMORE.out, hb⟩
          case measure => simp [intOf]; omega
    · have hoe : (o == 0) = false := by rw [beq_eq_false_iff_ne]; exact ho
      have hok := guess_ok (b0 := b0) (a0 := a0) HI.out (by
        have hpp := word_prod g0 g1 q0 q0'
        have : o = 1 := by omega
        subst this
        generalize G * b0 = p at *
        omega)
      have HOK := Lib.hid hok
      clear hok
      go_wp2
      go_ret
      exact ⟨G, rfl, g0, g1, HOK.out, HU.out, hb⟩

set_option maxRecDepth 100000 in
set_option maxHeartbeats 4000000 in
theorem guess_eq (a1 a0 b1 b0 : Int) (w : World) (p1 : 0 ≤ a1) (p1' : a1 ≤ 18446744073709551615) (p0 : 0 ≤ a0) (p0' : a0 ≤ 18446744073709551615) (q1 : 0 ≤ b1) (q1' : b1 ≤ 18446744073709551615) (q0 : 0 ≤ b0) (q0' : b0 ≤ 18446744073709551615) :
    Calls Tryd.prog 115 #[.int .u64 b1, .int .u64 a1, .int .u64 a0, .int .u64 b1, .int .u64 b0] w fun e w' => RetGuess ((b1 * 18446744073709551616 + a1) * 18446744073709551616 + a0) (b1 * 18446744073709551616 + b0) w e w' := by
  have bA : 0 ≤ a1 ∧ a1 < B64 := by unfold B64; omega
  have bb : 0 ≤ b1 ∧ b1 < B64 := by unfold B64; omega
  have hadd0 := add64_run a1 b1 0 bA bb ⟨Int.le_refl 0, by decide⟩
  have cb0 := hi64_carry bA bb ⟨Int.le_refl 0, by decide⟩
  have lh0 := lohi (a1 + b1)
  have ll0 := lo64_lim (a1 + b1)
  rw [Int.add_zero] at hadd0 cb0
  obtain ⟨o5, ho5⟩ : ∃ o5, o5 = hi64 (a1 + b1) := ⟨_, rfl⟩
  obtain ⟨R5, hR5⟩ : ∃ R5, R5 = lo64 (a1 + b1) := ⟨_, rfl⟩
  rw [← ho5] at hadd0 cb0 lh0
  rw [← hR5] at hadd0 lh0 ll0
  obtain ⟨a2, ha2⟩ : ∃ a2, a2 = b1 := ⟨_, rfl⟩
  have F5 : Hid (a2 * 18446744073709551616 + a1 = 18446744073709551615 * b1 + R5 + o5 * 18446744073709551616) := by
    show _ = _
    unfold B64 at lh0
    omega
  have ll1 : R5 ≤ 18446744073709551615 := by have := ll0.2; unfold B64 at this; omega
  obtain ⟨ll2, _⟩ := ll0
  obtain ⟨cb1, cb2⟩ := cb0
  have HA2 := Lib.hid ha2
  have hnlt : ¬ b1 < b1 := by omega
  have goal2 : ∀ e w', RetGuess ((a2 * 18446744073709551616 + a1) * 18446744073709551616 + a0) (b1 * 18446744073709551616 + b0) w e w' → RetGuess ((b1 * 18446744073709551616 + a1) * 18446744073709551616 + a0) (b1 * 18446744073709551616 + b0) w e w' := by
    intro e w' h
    rwa [ha2] at h
  refine Calls.mono (R := fun e w' => RetGuess ((a2 * 18446744073709551616 + a1) * 18446744073709551616 + a0) (b1 * 18446744073709551616 + b0) w e w') ?_ goal2
  clear goal2 ha2 lh0 ho5 hR5 bA bb
  go_enter Tryd.func115, Tryd.ntmps115
  go_wp2_with fail
  go_loopw [11, 12, 13] (fun vg vr vo wr => ∃ (G R o : Int), vg = .int .u64 G ∧ vr = .int .u64 R ∧ vo = .int .u64 o ∧ 0 ≤ G ∧ G ≤ 18446744073709551615 ∧ 0 ≤ R ∧ R ≤ 18446744073709551615 ∧ 0 ≤ o ∧ o ≤ 1 ∧ Hid (a2 * 18446744073709551616 + a1 = G * b1 + R + o * 18446744073709551616) ∧ Hid (G = 18446744073709551615 ∨ (a2 * 18446744073709551616 + a1) * 18446744073709551616 + a0 < (G + 1) * (b1 * 18446744073709551616 + b0)) ∧ Below w.heap.size w wr)
    (fun vg _ _ _ => (intOf vg).toNat)
  case atStart => exact ⟨18446744073709551615, R5, o5, rfl, rfl, rfl, by decide, Int.le_refl _, ll2, ll1, cb1, cb2, F5, Or.inl rfl, Below.refl _ _⟩
  case round =>
    obtain ⟨G, R, o, rfl, rfl, rfl, g0, g1, r0, r1, o0, o1, HI, HU, hb⟩ := hrel
    by_cases ho : o = 0
    · subst ho
      have hoe : ((0 : Int) == 0) = true := rfl
      have HMU := Lib.hid (mul64_any G b0 wr g0 g1 q0 q0')
      have hpp := word_prod g0 g1 q0 q0'
      obtain ⟨p, hp⟩ : ∃ p, p = G * b0 := ⟨_, rfl⟩
      rw [← hp] at HMU hpp
      obtain ⟨hi, hhi⟩ : ∃ hi, hi = p / 18446744073709551616 := ⟨_, rfl⟩
      obtain ⟨lw, hlw⟩ : ∃ lw, lw = p % 18446744073709551616 := ⟨_, rfl⟩
      rw [← hhi, ← hlw] at HMU
      have hsum : p = hi * 18446744073709551616 + lw := by omega
      have hlw0 : 0 ≤ lw := by omega
      have hlw1 : lw ≤ 18446744073709551615 := by omega
      have hhi0 : 0 ≤ hi := by omega
      have hhi1 : hi ≤ 18446744073709551615 := by omega
      have hI0 : a2 * 18446744073709551616 + a1 = G * b1 + R := by have := HI.out; omega
      by_cases hc : p ≤ R * 18446744073709551616 + a0
      · have hok := guess_ok (o := 0) HI.out (show G * b0 ≤ (R + 0 * 18446744073709551616) * 18446744073709551616 + a0 by rw [← hp]; omega)
        have HOK := Lib.hid hok
        by_cases hc1 : hi < R
        · clear hok hp hhi hlw hsum hpp hI0 hc
          go_wp2_with (go_at_call 90; refine HMU.out.mono ?_; rintro e w' ⟨rfl, rfl⟩)
          go_ret
          exact ⟨G, rfl, g0, g1, HOK.out, HU.out, hb⟩
        · have hc2 : hi = R := by omega
          have hc3 : lw ≤ a0 := by omega
          subst hc2
          have hself : (hi == hi) = true := by simp
          clear hok hp hhi hlw hsum hpp hI0 hc hc1
          go_wp2_with (go_at_call 90; refine HMU.out.mono ?_; rintro e w' ⟨rfl, rfl⟩)
          go_ret
          exact ⟨G, rfl, g0, g1, HOK.out, HU.out, hb⟩
      · have hmore := guess_more hI0 (show R * 18446744073709551616 + a0 < G * b0 by rw [← hp]; omega)
        have hG1 : 1 ≤ G := by
          rcases Int.lt_or_le G 1 with h | h
          · have : G = 0 := by omega
            rw [this, Int.zero_mul] at hp
            omega
          · exact h
        have bR : 0 ≤ R ∧ R < B64 := by unfold B64; omega
        have bb1 : 0 ≤ b1 ∧ b1 < B64 := by unfold B64; omega
        have hadd := add64_run R b1 0 bR bb1 ⟨Int.le_refl 0, by decide⟩
        have cb := hi64_carry bR bb1 ⟨Int.le_refl 0, by decide⟩
        have lh := lohi (R + b1)
        have ll := lo64_lim (R + b1)
        rw [Int.add_zero] at hadd cb
        obtain ⟨o2, ho2⟩ : ∃ o2, o2 = hi64 (R + b1) := ⟨_, rfl⟩
        obtain ⟨R2, hR2⟩ : ∃ R2, R2 = lo64 (R + b1) := ⟨_, rfl⟩
        rw [← ho2] at hadd cb lh
        rw [← hR2] at hadd lh ll
        have hI2 : a2 * 18446744073709551616 + a1 = (G - 1) * b1 + R2 + o2 * 18446744073709551616 := by
          rw [hI0, Int.sub_mul, Int.one_mul]
          unfold B64 at lh
          omega
        have HI2 := Lib.hid hI2
        have HMORE := Lib.hid hmore
        have HLL := Lib.hid ll
        have HCB := Lib.hid cb
        by_cases hc1 : R < hi
        · have hc2 : ¬ hi < R := by omega
          have hc3 : (hi == R) = false := by rw [beq_eq_false_iff_ne]; omega
          clear hmore hp hhi hlw hsum hpp hI0 hc bR bb1 cb lh ll ho2 hR2 hI2
          go_wp2_with (go_at_call 90; refine HMU.out.mono ?_; rintro e w' ⟨rfl, rfl⟩)
          go_roundw
          case rel => exact ⟨G - 1, R2, o2, by go_num, rfl, rfl, by omega, by omega, HLL.out.1, by have := HLL.out.2; unfold B64 at this; omega, HCB.out.1, HCB.out.2, HI2.out, Or.inr HMORE.out, hb⟩
          case measure => simp [intOf]; omega
        · have hc2 : hi = R := by omega
          have hc3 : ¬ lw ≤ a0 := by omega
          subst hc2
          have hself : (hi == hi) = true := by simp
          clear hmore hp hhi hlw hsum hpp hI0 hc bR bb1 cb lh ll ho2 hR2 hI2 hc1
          go_wp2_with (go_at_call 90; refine HMU.out.mono ?_; rintro e w' ⟨rfl, rfl⟩)
          go_roundw
          case rel => exact ⟨G - 1, R2, o2, by go_num, rfl, rfl, by omega, by omega, HLL.out.1, by have := HLL.out.2; unfold B64 at this; omega, HCB.out.1, HCB.out.2, HI2.out, Or.inr HMORE.out, hb⟩
          case measure => simp [intOf]; omega
    · have hoe : (o == 0) = false := by rw [beq_eq_false_iff_ne]; exact ho
      have hok := guess_ok (b0 := b0) (a0 := a0) HI.out (by
        have hpp := word_prod g0 g1 q0 q0'
        have : o = 1 := by omega
        subst this
        generalize G * b0 = p at *
        omega)
      have HOK := Lib.hid hok
      clear hok
      go_wp2
      go_ret
      exact ⟨G, rfl, g0, g1, HOK.out, HU.out, hb⟩
end Go.Proofs.YtbieldebkfkpkaaDoor
